import Derived.Test.YtodolbekbeccbaaPack
import Derived.Test.YtodolbekbeccbaaLex
import Derived.Test.YtodolbekbeccbaaNextPlain
namespace Go.Proofs.Ytodolbekbeccbaa
open Go.RowKit Go.Sort

theorem pack_is {a b c : Int} {p : ByteArray} (h : StB a b c) (e : p = strOfNums (pk a b c)) (w : World) :
    Calls Try.prog 13 #[stv a b c] w fun e w' => e = .returned (.string p) ∧ Below w.heap.size w w' := by
  rw [e]; exact pack_any a b c w h.1 h.2.1 h.2.2

set_option maxHeartbeats 1000000 in
theorem bytewise_walk (a b c x y z : Int) (w : World) (hs : StB a b c) (ht : StB x y z) :
    Calls Try.prog 6 #[.agg #[.int .u64 a, .int .u32 b, .int .u32 c, .int .u64 x, .int .u32 y, .int .u32 z]] w fun e w' => e = .returned (.bool true) ∧ Below w.heap.size w w' := by
  obtain ⟨p, hp⟩ : ∃ p, p = strOfNums (pk a b c) := ⟨_, rfl⟩
  obtain ⟨q, hq⟩ : ∃ q, q = strOfNums (pk x y z) := ⟨_, rfl⟩
  have sp : ((p.size : Int) != 16) = false := by rw [hp, strOfNums_size, pk_length]; rfl
  have sq : ((q.size : Int) != 16) = false := by rw [hq, strOfNums_size, pk_length]; rfl
  have e1 : Op.bytesLess p.toList q.toList = lessB a b c x y z := by rw [hp, hq, str_toList, str_toList, bytes_lex _ _ (pk_byte _ _ _) (pk_byte _ _ _), pk_lex hs ht]
  have e2 : Op.bytesLess q.toList p.toList = lessB x y z a b c := by rw [hp, hq, str_toList, str_toList, bytes_lex _ _ (pk_byte _ _ _) (pk_byte _ _ _), pk_lex ht hs]
  have e3 : (p.toList == q.toList) = sameB a b c x y z := by rw [hp, hq, str_toList, str_toList, bytes_eq _ _ (pk_byte _ _ _) (pk_byte _ _ _), pk_eq hs ht]
  have HP := hid hp
  have HQ := hid hq
  clear hp hq
  obtain ⟨u1, k1⟩ : ∃ u1, lessB a b c x y z = u1 := ⟨_, rfl⟩
  obtain ⟨u2, k2⟩ : ∃ u2, lessB x y z a b c = u2 := ⟨_, rfl⟩
  obtain ⟨u3, k3⟩ : ∃ u3, sameB a b c x y z = u3 := ⟨_, rfl⟩
  rw [k1] at e1
  rw [k2] at e2
  rw [k3] at e3
  have k3' : ∀ w, (binOp .eql 25 (stv a b c) (stv x y z)).run Try.prog w = .ok (.bool u3) w := fun w => by rw [run_eq, k3]
  clear k3
  have n1 : (u1 == u1) = true := by simp
  have n2 : (u2 == u2) = true := by simp
  have n3 : (u3 == u3) = true := by simp
  go_enter Try.func6, Try.ntmps6
  go_upto_region 1 with fail
  go_cut [3, 4] (fun s3 s4 wx => ∃ p q : Nat, s3 = .pointer (some ⟨p, 0, none⟩) ∧ s4 = .pointer (some ⟨q, 0, none⟩) ∧ StampAt wx p a b c ∧ StampAt wx q x y z ∧ Below w.heap.size w wx)
  case first =>
    go_region
    all_goals (go_wp2_with fail; go_meet)
    all_goals refine ⟨_, _, rfl, rfl, ?_, ?_, ?_⟩
    all_goals first | (refine ⟨?_, ?_, ?_⟩ <;> (simp [go_sem]; done)) | (repeat (first | exact Below.refl _ _ | refine Below.drew ?_ | refine Below.alloc ?_ (by simp <;> omega) _))
  case rest =>
    obtain ⟨m, n, rfl, rfl, A, B, hb⟩ := hcut
    have ⟨a0, a1, a2⟩ := A; have ⟨b0, b1, b2⟩ := B
    clear A B
    go_wp2_with fail
    refine (pack_is hs HP.out _).mono ?_
    rintro e w1 ⟨rfl, hw⟩
    have a0 := cell_later hw a0; have a1 := cell_later hw a1; have a2 := cell_later hw a2; have b0 := cell_later hw b0; have b1 := cell_later hw b1; have b2 := cell_later hw b2; have hb := Below.on hb hw; clear hw
    go_wp2_with fail
    refine (pack_is ht HQ.out _).mono ?_
    rintro e w2 ⟨rfl, hw⟩
    have a0 := cell_later hw a0; have a1 := cell_later hw a1; have a2 := cell_later hw a2; have b0 := cell_later hw b0; have b1 := cell_later hw b1; have b2 := cell_later hw b2; have hb := Below.on hb hw; clear hw
    go_wp2_with (go_at_call 9; refine (less_is (by assumption) _).mono ?_; rintro e w' ⟨rfl, hw⟩; have a0 := cell_later hw a0; have a1 := cell_later hw a1; have a2 := cell_later hw a2; have b0 := cell_later hw b0; have b1 := cell_later hw b1; have b2 := cell_later hw b2; have hb := Below.on hb hw; clear hw)
    go_ret
    exact ⟨rfl, hb⟩

end Go.Proofs.Ytodolbekbeccbaa
