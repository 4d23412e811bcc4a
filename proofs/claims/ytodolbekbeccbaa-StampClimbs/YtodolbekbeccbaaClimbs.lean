import Derived.Test.YtodolbekbeccbaaNext
import Derived.Test.YtodolbekbeccbaaRoad
namespace Go.Proofs.Ytodolbekbeccbaa
open Go.RowKit Go.Sort

set_option maxHeartbeats 1000000 in
theorem climbs_walk (a b c : Int) (bb off len cap : Nat) (zs : List Int) (w : World) (hs : StB a b c) (hm : len ≤ 9223372036854775807) (hbb : bb < w.heap.size)
    (hcell : ∀ i, i < len → w.cell? ⟨bb, off + i, none⟩ = some (.int .u32 (zs.getD i 0))) (hz : ∀ i, i < len → 0 ≤ zs.getD i 0 ∧ zs.getD i 0 ≤ 4294967295) :
    Calls Try.prog 5 #[.agg #[.int .u64 a, .int .u32 b, .int .u32 c, .slice (some ⟨bb, off, none⟩) len cap]] w fun e w' => e = .returned (.bool true) ∧ Below w.heap.size w w' := by
  go_enter Try.func5, Try.ntmps5
  go_upto_region 1 with fail
  go_cut [3, 4] (fun s3 s4 wx => s3 = .pointer (some ⟨w.heap.size + 1, 0, none⟩) ∧ s4 = .slice (some ⟨bb, off, none⟩) len cap ∧ RoadAt w wx w.heap.size (.slice (some ⟨bb, off, none⟩) len cap) a b c)
  case first =>
    go_region
    all_goals (go_wp2_with fail; go_meet)
    all_goals (refine ⟨rfl, rfl, ?_, Nat.le_refl _, by simp, by simp [go_sem], ?_, fun o => by simp [go_sem], hs⟩)
    all_goals (first | (refine ⟨?_, ?_, ?_⟩ <;> (simp [go_sem]; done)) | (repeat (first | exact Below.refl _ _ | refine Below.drew ?_ | refine Below.al ?_ _ | refine Below.setCell ?_ (by first | exact Nat.le_refl _ | (simp; omega) | (simp; done)) _ | refine Below.on ?_ (by assumption))))
  case rest =>
  obtain ⟨rfl, rfl, R0⟩ := hcut
  go_wp2_with fail
  go_loopg [5] len (fun g i wr => ∃ k : Nat, k ≤ len ∧ g = len - k ∧ i = .int .i64 k ∧ ∃ s0 s1 s2, RoadAt w wr w.heap.size (.slice (some ⟨bb, off, none⟩) len cap) s0 s1 s2)
  case atStart => exact ⟨0, by omega, by omega, rfl, a, b, c, R0⟩
  case round =>
    obtain ⟨k, hk, rfl, rfl, s0, s1, s2, R⟩ := hrel
    have ⟨a0, a1, a2⟩ := R.at3
    have hsz := R.size
    by_cases hlt : k < len
    · have ck := (R.below.cell (p := ⟨bb, off + k, none⟩) hbb).trans (hcell k hlt)
      obtain ⟨z, hzk⟩ : ∃ z, z = zs.getD k 0 := ⟨_, rfl⟩
      have zb := hz k hlt
      rw [← hzk] at ck zb
      have hgood := R.good
      have hb0 : bb < wr.heap.size := Nat.lt_of_lt_of_le hbb R.below.size
      have hN0 : w.heap.size < wr.heap.size := by omega
      have hN1 : w.heap.size + 1 < wr.heap.size := by omega
      obtain ⟨W', L', N', E', hX⟩ : ∃ W' L' N' E', nxt s0 s1 z = ⟨W', L', N', E'⟩ := ⟨_, _, _, _, rfl⟩
      have hcs := nxt_cases z hgood zb
      rw [hX] at hcs
      have HX : Hid (nxt s0 s1 z = ⟨W', L', N', E'⟩) := hX
      have HC : Hid _ := hcs
      clear hzk hcell hz hbb hX hcs R0
      go_wp2_with fail
      go_cut [6, 7] (fun s6 s7 wx => ∃ q : Nat, s6 = .pointer (some ⟨q, 0, none⟩) ∧ s7 = .int .i64 E' ∧ StampAt wx q W' L' N' ∧ Below wr.heap.size wr wx)
      case first =>
        go_region_held3 (fun w' => w'.cell? ⟨w.heap.size + 1, 0, none⟩ = some (.int .u64 s0) ∧ w'.cell? ⟨w.heap.size + 1, 1, none⟩ = some (.int .u32 s1) ∧ w'.cell? ⟨w.heap.size + 1, 2, none⟩ = some (.int .u32 s2) ∧ w'.cell? ⟨bb, off + k, none⟩ = some (.int .u32 z) ∧ Below wr.heap.size wr w')
          ((refine (fun (hB : Below wr.heap.size wr _) => ⟨cell_later hB a0, cell_later hB a1, cell_later hB a2, cell_later hB ck, hB⟩) ?_; repeat (first | exact Below.refl _ _ | refine Below.drew ?_ | refine Below.al ?_ _ | refine Below.setCell ?_ (by first | exact Nat.le_refl _ | (simp; omega) | (simp; done)) _ | refine Below.on ?_ (by assumption))))
          (first | (go_at_call 11; refine (next_is HX.out hgood _).mono ?_; rintro e w1 ⟨rfl, hb1⟩; obtain ⟨hc1, hf1⟩ := bcell hb1; have hz1 := hb1.size))
        all_goals (try go_wp2_with fail)
        all_goals go_meet
        all_goals (refine ⟨_, rfl, rfl, ?_, ?_⟩)
        all_goals (first | (refine ⟨?_, ?_, ?_⟩ <;> (simp [go_sem, hc1]; done)) | (repeat (first | exact Below.refl _ _ | refine Below.drew ?_ | refine Below.al ?_ _ | refine Below.setCell ?_ (by first | exact Nat.le_refl _ | (simp; omega) | (simp; done)) _ | refine Below.on ?_ (by assumption))))
      case rest =>
        obtain ⟨q, rfl, rfl, A6, hb6⟩ := hcut
        replace R := R.later hb6
        have ck := cell_later hb6 ck
        have ⟨a0, a1, a2⟩ := A6
        have ⟨c0, c1, c2⟩ := R.at3
        have f3 : ∀ o, wc.frozen? ⟨w.heap.size + 1, o, none⟩ = false := R.loose
        clear hb6 hb0 hN0 hN1
        rcases HC.out with ⟨he, hend⟩ | ⟨he, hst, hn, hw, hless⟩
        · injection he with e1 e2 e3 e4
          subst e1 e2 e3 e4
          have hee : ∀ w, (binOp .eql 25 (stv 0 0 0) (stv 0 0 0)).run Try.prog w = .ok (.bool true) w := fun w => by rw [run_eq, sameB_self]
          clear HC HX
          rcases hend with h | ⟨h, h'⟩
          · have g1 : (18446744073709551614 : Int) ≤ s0 := by omega
            have g2 : (s0 == 18446744073709551615) = true := by simpa using h
            clear h
            go_wp2_with fail
            go_ret
            exact ⟨rfl, R.below⟩
          · have g1 : (18446744073709551614 : Int) ≤ s0 := by omega
            have g2 : (s0 == 18446744073709551615) = false := by rw [beq_eq_false_iff_ne]; omega
            have g3 : (s1 == 4294967295) = true := by simpa using h'
            clear h h'
            go_wp2_with fail
            go_ret
            exact ⟨rfl, R.below⟩
        · subst he hn
          have hns : ¬ (s0 = W' ∧ s1 = L' ∧ s2 = N') := fun e => by
            obtain ⟨e1, e2, e3⟩ := e
            subst e1 e2 e3
            rw [less_irr] at hless; exact Bool.noConfusion hless
          have hcmp : cmpI W' L' N' s0 s1 s2 = 1 := cmpI_gt (sameB_no (fun e => hns ⟨e.1.symm, e.2.1.symm, e.2.2.symm⟩)) (by rw [less_anti hns, hless]; rfl)
          have g1 : (N' != N') = false := by simp
          have g2 : (W' == 18446744073709551615) = false := by rw [beq_eq_false_iff_ne]; omega
          have HR : Hid _ := R
          have ka0 := cell_regrown a0; have ka1 := cell_regrown a1; have ka2 := cell_regrown a2
          have kc0 := cell_regrown c0; have kc1 := cell_regrown c1; have kc2 := cell_regrown c2
          have kk := cell_regrown ck
          clear HC HX hns R hw hgood
          go_wp2_with fail
          refine wp_region_quiet_below (by kernel_rfl) (by kernel_rfl) ?_
          repeat (go_big_quiet_step (first | (go_at_call 9; exact Calls.regrown_of (less_is (by assumption) _)) | (go_at_call 10; exact Calls.regrown_of (compare_is (by assumption) _))))
          refine wpQuiet_nil ?_
          intro w1 hw
          replace hw := below_of_regrown hw
          have R := HR.out.later hw
          replace A6 := A6.later hw
          have ⟨a0, a1, a2⟩ := A6
          have ⟨c0, c1, c2⟩ := R.at3
          have f3 : ∀ o, w1.frozen? ⟨w.heap.size + 1, o, none⟩ = false := R.loose
          clear ka0 ka1 ka2 kc0 kc1 kc2 kk hw HR
          go_wp2_with fail
          go_roundg (len - (k + 1))
          case measure => omega
          case rel => exact ⟨k + 1, by omega, rfl, by go_num, W', L', N', R.put hst⟩
    · go_wp2_with fail
      go_ret
      exact ⟨rfl, R.below⟩

end Go.Proofs.Ytodolbekbeccbaa
