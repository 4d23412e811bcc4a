import Derived.Test.YtodolbekbeccbaaNext
import Derived.Test.YtodolbekbeccbaaRefNext
import Derived.Test.YtodolbekbeccbaaRoad
namespace Go.Proofs.Ytodolbekbeccbaa
open Go.RowKit Go.Sort

set_option maxHeartbeats 1000000 in
theorem nexts_walk (a b c : Int) (bb off len cap : Nat) (zs : List Int) (w : World) (hs : StB a b c) (hm : len ≤ 9223372036854775807) (hbb : bb < w.heap.size)
    (hcell : ∀ i, i < len → w.cell? ⟨bb, off + i, none⟩ = some (.int .u32 (zs.getD i 0))) (hz : ∀ i, i < len → 0 ≤ zs.getD i 0 ∧ zs.getD i 0 ≤ 4294967295) :
    Calls Try.prog 4 #[.agg #[.int .u64 a, .int .u32 b, .int .u32 c, .slice (some ⟨bb, off, none⟩) len cap]] w fun e w' => e = .returned (.bool true) ∧ Below w.heap.size w w' := by
  go_enter Try.func4, Try.ntmps4
  go_wp2_with fail
  go_loopg [4] len (fun g i wr => ∃ k : Nat, k ≤ len ∧ g = len - k ∧ i = .int .i64 k ∧ ∃ s0 s1 s2, RoadAt w wr w.heap.size (.slice (some ⟨bb, off, none⟩) len cap) s0 s1 s2)
  case atStart => 
    refine ⟨0, by omega, by omega, rfl, a, b, c, ?_, Nat.le_refl _, by simp, by simp [go_sem], ?_, fun o => ?_, hs⟩
    · exact ((Below.refl _ _).alloc (Nat.le_refl _) _).alloc (by simp) _
    · refine ⟨?_, ?_, ?_⟩ <;> (simp [go_sem]; done)
    · simp [go_sem]
  case round =>
    obtain ⟨k, hk, rfl, rfl, s0, s1, s2, R⟩ := hrel
    have ⟨a0, a1, a2⟩ := R.at3
    have f3 := R.loose
    have n3 := R.nodes
    have hsz := R.size
    by_cases hlt : k < len
    · have ck := (R.below.cell (p := ⟨bb, off + k, none⟩) hbb).trans (hcell k hlt)
      obtain ⟨z, hzk⟩ : ∃ z, z = zs.getD k 0 := ⟨_, rfl⟩
      have zb := hz k hlt
      rw [← hzk] at ck zb
      have hgood := R.good
      have hb0 : bb < wr.heap.size := Nat.lt_of_lt_of_le hbb R.below.size
      have hN0 : w.heap.size < wr.heap.size := by omega
      have hN1 : w.heap.size + 1 < wr.heap.size := by omega
      obtain ⟨W', L', N', E', hX⟩ : ∃ W' L' N' E', nxt s0 s1 z = ⟨W', L', N', E'⟩ := ⟨_, _, _, _, rfl⟩
      have hcs := nxt_cases z hgood zb
      rw [hX] at hcs
      have HX : Hid (nxt s0 s1 z = ⟨W', L', N', E'⟩) := hX
      have HC : Hid _ := hcs
      clear hzk hcell hz hbb hX hcs
      go_wp2_with fail
      go_cut [5, 6] (fun s5 s6 wx => ∃ q : Nat, s5 = .pointer (some ⟨q, 0, none⟩) ∧ s6 = .int .i64 E' ∧ StampAt wx q W' L' N' ∧ Below wr.heap.size wr wx)
      case first =>
        go_region_held3 (fun w' => w'.cell? ⟨w.heap.size + 1, 0, none⟩ = some (.int .u64 s0) ∧ w'.cell? ⟨w.heap.size + 1, 1, none⟩ = some (.int .u32 s1) ∧ w'.cell? ⟨w.heap.size + 1, 2, none⟩ = some (.int .u32 s2) ∧ w'.cell? ⟨w.heap.size, 3, none⟩ = some (.slice (some ⟨bb, off, none⟩) len cap) ∧ w'.cell? ⟨bb, off + k, none⟩ = some (.int .u32 z) ∧ Below wr.heap.size wr w')
          ((refine (fun (hB : Below wr.heap.size wr _) => ⟨cell_later hB a0, cell_later hB a1, cell_later hB a2, cell_later hB n3, cell_later hB ck, hB⟩) ?_; repeat (first | exact Below.refl _ _ | refine Below.drew ?_ | refine Below.al ?_ _ | refine Below.setCell ?_ (by first | exact Nat.le_refl _ | (simp; omega) | (simp; done)) _ | refine Below.on ?_ (by assumption))))
          (first | (go_at_call 11; refine (next_is HX.out hgood _).mono ?_; rintro e w1 ⟨rfl, hb1⟩; obtain ⟨hc1, hf1⟩ := bcell hb1; have hz1 := hb1.size))
        all_goals (try go_wp2_with fail)
        all_goals go_meet
        all_goals (refine ⟨_, rfl, rfl, ?_, ?_⟩)
        all_goals (first | (refine ⟨?_, ?_, ?_⟩ <;> (simp [go_sem, hc1]; done)) | (repeat (first | exact Below.refl _ _ | refine Below.drew ?_ | refine Below.al ?_ _ | refine Below.setCell ?_ (by first | exact Nat.le_refl _ | (simp; omega) | (simp; done)) _ | refine Below.on ?_ (by assumption))))
      case rest =>
        obtain ⟨q, rfl, rfl, A5, hb5⟩ := hcut
        replace R := R.later hb5
        have ck := cell_later hb5 ck
        have hb0 : bb < wc.heap.size := Nat.lt_of_lt_of_le hb0 hb5.size
        have hN0 : w.heap.size < wc.heap.size := Nat.lt_of_lt_of_le hN0 hb5.size
        have hN1 : w.heap.size + 1 < wc.heap.size := Nat.lt_of_lt_of_le hN1 hb5.size
        have ⟨a0, a1, a2⟩ := R.at3
        have n3 := R.nodes
        clear hb5
        go_wp2_with fail
        go_cut [7, 8] (fun s7 s8 wx => ∃ o : Nat, s7 = .pointer (some ⟨o, 0, none⟩) ∧ s8 = .int .i64 E' ∧ StampAt wx o W' L' N' ∧ Below wc.heap.size wc wx)
        case first =>
          go_region_held3 (fun w' => w'.cell? ⟨w.heap.size + 1, 0, none⟩ = some (.int .u64 s0) ∧ w'.cell? ⟨w.heap.size + 1, 1, none⟩ = some (.int .u32 s1) ∧ w'.cell? ⟨w.heap.size + 1, 2, none⟩ = some (.int .u32 s2) ∧ w'.cell? ⟨w.heap.size, 3, none⟩ = some (.slice (some ⟨bb, off, none⟩) len cap) ∧ w'.cell? ⟨bb, off + k, none⟩ = some (.int .u32 z) ∧ Below wc.heap.size wc w')
            ((refine (fun (hB : Below wc.heap.size wc _) => ⟨cell_later hB a0, cell_later hB a1, cell_later hB a2, cell_later hB n3, cell_later hB ck, hB⟩) ?_; repeat (first | exact Below.refl _ _ | refine Below.drew ?_ | refine Below.al ?_ _ | refine Below.setCell ?_ (by first | exact Nat.le_refl _ | (simp; omega) | (simp; done)) _ | refine Below.on ?_ (by assumption))))
            (first | (go_at_call 12; refine (refnext_is HX.out hgood _).mono ?_; rintro e w1 ⟨rfl, hb1⟩; obtain ⟨hc1, hf1⟩ := bcell hb1; have hz1 := hb1.size))
          all_goals (try go_wp2_with fail)
          all_goals go_meet
          all_goals (refine ⟨_, rfl, rfl, ?_, ?_⟩)
          all_goals (first | (refine ⟨?_, ?_, ?_⟩ <;> (simp [go_sem, hc1]; done)) | (repeat (first | exact Below.refl _ _ | refine Below.drew ?_ | refine Below.al ?_ _ | refine Below.setCell ?_ (by first | exact Nat.le_refl _ | (simp; omega) | (simp; done)) _ | refine Below.on ?_ (by assumption))))
        case rest =>
          obtain ⟨o, rfl, rfl, A7, hb7⟩ := hcut
          replace R := R.later hb7
          replace A5 := A5.later hb7
          have ⟨a0, a1, a2⟩ := A5
          have ⟨b0, b1, b2⟩ := A7
          have ⟨c0, c1, c2⟩ := R.at3
          have f3 : ∀ o, wc.frozen? ⟨w.heap.size + 1, o, none⟩ = false := R.loose
          have hne : ∀ w, (binOp .neq 25 (stv W' L' N') (stv W' L' N')).run Try.prog w = .ok (.bool false) w := fun w => by rw [run_ne, sameB_self]; rfl
          have hee : (E' != E') = false := by simp
          clear hb7
          rcases HC.out with ⟨he, -⟩ | ⟨he, hst, -⟩
          · injection he with _ _ _ e4
            have he0 : (E' == 0) = false := by rw [e4]; rfl
            clear e4 HC
            go_wp2_with fail
            go_roundg (len - (k + 1))
            case measure => omega
            case rel => exact ⟨k + 1, by omega, rfl, by go_num, s0, s1, s2, R⟩
          · have he0 : (E' == 0) = true := by simpa using he
            clear he HC
            go_wp2_with fail
            go_roundg (len - (k + 1))
            case measure => omega
            case rel => exact ⟨k + 1, by omega, rfl, by go_num, W', L', N', R.put hst⟩
    · go_wp2_with fail
      go_ret
      exact ⟨rfl, R.below⟩

end Go.Proofs.Ytodolbekbeccbaa
