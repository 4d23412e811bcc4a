import Derived.Test.YtmloaddbmkonoabKPair
namespace Go.Proofs.Ytmloaddbmkonoab
open Go.RowKit Go.Sort
set_option linter.unusedVariables false

set_option maxRecDepth 8000 in
set_option maxHeartbeats 4000000 in
theorem told_need (A off B m : Nat) (q : Pr) (pl no wi nu s0 s1 s2 : Int) (w : World) (HP : Hid (PairOk w B m q)) (HCA : Hid (w.cell? ⟨A, off, none⟩ = some (.pointer (some ⟨q.p, 0, none⟩)))) (HCD : Hid (w.cell? ⟨A, off + 1, none⟩ = some (.pointer (some ⟨q.x.d, 0, none⟩)))) (HNA : Hid (¬ q.has A))
    (hB : B ≤ w.heap.size) (HM : Hid ((m + 1) * 16 ≤ 140737488355328)) (HNU : Hid (U64 nu)) (HSS : Hid (St.ok ⟨s0, s1, s2⟩)) (n : Int) (b : Bool) (HN : Hid (needN q.c s0 = n)) (HMU : Hid (mustB q.c s0 = b)) :
    Calls Try.prog 6 #[.pointer (some ⟨A, off, none⟩), .agg #[.int .i64 7, .int .i64 pl, .int .u32 no, .int .u64 wi, .int .u64 nu, .int .u64 s0, .int .u32 s1, .int .u32 s2]] w fun e w' => e = .returned (.bool true) ∧ ToldPost w w' B m q := by
  have hAl : A < w.heap.size := World.block_lt_of_cell? _ _ HCA.out
  have T0 := TA.start HP.out HCA.out HCD.out HNA.out [.int .i64 7, .int .i64 pl, .int .u32 no, .int .u64 wi, .int .u64 nu, .int .u64 s0, .int .u32 s1, .int .u32 s2] 35
  obtain ⟨wa, hwa⟩ : ∃ wa, wa = w.alloc (.cells #[.int .i64 7, .int .i64 pl, .int .u32 no, .int .u64 wi, .int .u64 nu, .int .u64 s0, .int .u32 s1, .int .u32 s2] 35) := ⟨_, rfl⟩
  have e0 : w.alloc (.cells [.int .i64 7, .int .i64 pl, .int .u32 no, .int .u64 wi, .int .u64 nu, .int .u64 s0, .int .u32 s1, .int .u32 s2].toArray 35) = wa := hwa.symm
  rw [e0] at T0
  have hBa : B ≤ wa.heap.size := Nat.le_trans hB T0.onl.size
  have HT := hid T0
  have Hwa := hid hwa
  have ca := T0.ca
  have cd := T0.cd
  clear T0 hwa e0
  go_enter Try.func6, Try.ntmps6
  go_wp2_with fail
  rw [← Hwa.out]
  have x5 := HT.out.box 5 _ rfl; have x6 := HT.out.box 6 _ rfl; have x7 := HT.out.box 7 _ rfl
  have ka := cell_regrown ca; have k5 := cell_regrown x5; have k6 := cell_regrown x6; have k7 := cell_regrown x7
  refine wp_region_quiet_below (by kernel_rfl) (by kernel_rfl) ?_
  repeat (go_big_quiet_step ((go_at_call 19; exact Calls.regrown_of (need_is (s := ⟨s0, s1, s2⟩) HN.out HMU.out _ (HT.out.ck.later (below_regrown _ _ _)) HP.out.agr.ok HSS.out))))
  refine wpQuiet_nil ?_
  intro w1 hw
  have R1 := hid (HT.out.later (below_of_regrown hw))
  clear hw ka k5 k6 k7 x5 x6 x7 ca cd
  have cd := R1.out.cd
  have x5 := R1.out.box 5 _ rfl; have x6 := R1.out.box 6 _ rfl; have x7 := R1.out.box 7 _ rfl
  have kd := cell_regrown cd; have k5 := cell_regrown x5; have k6 := cell_regrown x6; have k7 := cell_regrown x7
  go_wp2_with fail
  refine wp_region_quiet_below (by kernel_rfl) (by kernel_rfl) ?_
  repeat (go_big_quiet_step ((go_at_call 20; exact Calls.regrown_of (rneed_is B q.x q.c ⟨s0, s1, s2⟩ HN.out HMU.out _ (R1.out.rf.later (below_regrown _ _ _)) (by have := HM.out; have := HP.out.agr.m4; omega) HP.out.agr.ce HP.out.agr.win HP.out.agr.ok HSS.out))))
  refine wpQuiet_nil ?_
  intro w2 hw
  have R2 := hid (R1.out.later (below_of_regrown hw))
  clear hw kd k5 k6 k7 x5 x6 x7 cd
  go_wp2_with fail
  go_ret
  exact ⟨by simp, R2.out.post HP.out.agr.more rfl HP.out.bp⟩

end Go.Proofs.Ytmloaddbmkonoab
