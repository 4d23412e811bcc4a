import Derived.Test.YtmloaddbmkonoabKPair
namespace Go.Proofs.Ytmloaddbmkonoab
open Go.RowKit Go.Sort
set_option linter.unusedVariables false

set_option maxRecDepth 8000 in
set_option maxHeartbeats 4000000 in
theorem told_obs_top (A off B m : Nat) (q : Pr) (pl no wi nu s0 s1 s2 : Int) (w : World) (HP : Hid (PairOk w B m q)) (HCA : Hid (w.cell? ⟨A, off, none⟩ = some (.pointer (some ⟨q.p, 0, none⟩)))) (HCD : Hid (w.cell? ⟨A, off + 1, none⟩ = some (.pointer (some ⟨q.x.d, 0, none⟩)))) (HNA : Hid (¬ q.has A))
    (hB : B ≤ w.heap.size) (HM : Hid ((m + 1) * 16 ≤ 140737488355328)) (HNU : Hid (U64 nu)) (HSS : Hid (St.ok ⟨s0, s1, s2⟩)) (HE : Hid (obsE ⟨s0, s1, s2⟩ = 11)) (HO : Hid (obsC q.c ⟨s0, s1, s2⟩ = q.c)) (ht : (s0 == 18446744073709551615) = true) :
    Calls Try.prog 6 #[.pointer (some ⟨A, off, none⟩), .agg #[.int .i64 5, .int .i64 pl, .int .u32 no, .int .u64 wi, .int .u64 nu, .int .u64 s0, .int .u32 s1, .int .u32 s2]] w fun e w' => e = .returned (.bool true) ∧ ToldPost w w' B m q := by
  have hAl : A < w.heap.size := World.block_lt_of_cell? _ _ HCA.out
  have T0 := TA.start HP.out HCA.out HCD.out HNA.out [.int .i64 5, .int .i64 pl, .int .u32 no, .int .u64 wi, .int .u64 nu, .int .u64 s0, .int .u32 s1, .int .u32 s2] 35
  obtain ⟨wa, hwa⟩ : ∃ wa, wa = w.alloc (.cells #[.int .i64 5, .int .i64 pl, .int .u32 no, .int .u64 wi, .int .u64 nu, .int .u64 s0, .int .u32 s1, .int .u32 s2] 35) := ⟨_, rfl⟩
  have e0 : w.alloc (.cells [.int .i64 5, .int .i64 pl, .int .u32 no, .int .u64 wi, .int .u64 nu, .int .u64 s0, .int .u32 s1, .int .u32 s2].toArray 35) = wa := hwa.symm
  rw [e0] at T0
  have hBa : B ≤ wa.heap.size := Nat.le_trans hB T0.onl.size
  have HT := hid T0
  have Hwa := hid hwa
  have ca := T0.ca
  have cd := T0.cd
  clear T0 hwa e0
  go_enter Try.func6, Try.ntmps6
  go_wp2_with fail
  rw [← Hwa.out]
  have x5 := HT.out.box 5 _ rfl; have x6 := HT.out.box 6 _ rfl; have x7 := HT.out.box 7 _ rfl
  go_cut [9] (fun s9 wx => s9 = .int .i64 11 ∧ TA w wx A off w.heap.size q.p B [.int .i64 5, .int .i64 pl, .int .u32 no, .int .u64 wi, .int .u64 nu, .int .u64 s0, .int .u32 s1, .int .u32 s2] q.c q.x q.has)
  case first =>
    go_region_with (first | (go_at_call 15; refine (observe_is (s := ⟨s0, s1, s2⟩) HE.out HO.out _ (HT.out.later (Below.drew (Below.refl _ _))).ck HP.out.agr.ok).mono ?_; rintro e w1 ⟨rfl, ho, hk⟩; have R1 := hid ((HT.out.later (Below.drew (Below.refl _ _))).onC ho hk); clear ho hk))
    all_goals (try go_wp2_with fail)
    all_goals go_meet
    all_goals exact ⟨rfl, R1.out⟩
  case rest =>
    obtain ⟨rfl, hta⟩ := hcut
    have HR := hid hta
    have ca := hta.ca
    have cd := hta.cd
    have x5 := hta.box 5 _ rfl; have x6 := hta.box 6 _ rfl; have x7 := hta.box 7 _ rfl
    have hBc : B ≤ wc.heap.size := Nat.le_trans hB hta.onl.size
    obtain ⟨W2, rfl⟩ : ∃ W2, W2 = wc := ⟨_, rfl⟩
    clear hta
    go_wp2_with fail
    go_region_with (first | (go_at_call 16; refine (robserve_top B q.x s0 s1 s2 _ (hid (HR.out.later (Below.drew (Below.refl _ _))).rf) ht).mono ?_; rintro e w1 ⟨rfl, hb⟩; have R1 := hid ((HR.out.later (Below.drew (Below.refl _ _))).later hb); clear hb))
    all_goals (try go_wp2_with fail)
    all_goals go_ret
    all_goals exact ⟨rfl, R1.out.post HP.out.agr.more rfl HP.out.bp⟩

set_option maxRecDepth 8000 in
set_option maxHeartbeats 4000000 in
theorem told_obs_in (A off B m : Nat) (q : Pr) (pl no wi nu s0 s1 s2 : Int) (w : World) (HP : Hid (PairOk w B m q)) (HCA : Hid (w.cell? ⟨A, off, none⟩ = some (.pointer (some ⟨q.p, 0, none⟩)))) (HCD : Hid (w.cell? ⟨A, off + 1, none⟩ = some (.pointer (some ⟨q.x.d, 0, none⟩)))) (HNA : Hid (¬ q.has A))
    (hB : B ≤ w.heap.size) (HM : Hid ((m + 1) * 16 ≤ 140737488355328)) (HNU : Hid (U64 nu)) (HSS : Hid (St.ok ⟨s0, s1, s2⟩)) (c' : Ck) (HE : Hid (obsE ⟨s0, s1, s2⟩ = 0)) (HO : Hid (obsC q.c ⟨s0, s1, s2⟩ = c')) (ht : (s0 == 18446744073709551615) = false) (HT0 : Hid (¬ s0 = 18446744073709551615)) :
    Calls Try.prog 6 #[.pointer (some ⟨A, off, none⟩), .agg #[.int .i64 5, .int .i64 pl, .int .u32 no, .int .u64 wi, .int .u64 nu, .int .u64 s0, .int .u32 s1, .int .u32 s2]] w fun e w' => e = .returned (.bool true) ∧ ToldPost w w' B m q := by
  have hAl : A < w.heap.size := World.block_lt_of_cell? _ _ HCA.out
  have T0 := TA.start HP.out HCA.out HCD.out HNA.out [.int .i64 5, .int .i64 pl, .int .u32 no, .int .u64 wi, .int .u64 nu, .int .u64 s0, .int .u32 s1, .int .u32 s2] 35
  obtain ⟨wa, hwa⟩ : ∃ wa, wa = w.alloc (.cells #[.int .i64 5, .int .i64 pl, .int .u32 no, .int .u64 wi, .int .u64 nu, .int .u64 s0, .int .u32 s1, .int .u32 s2] 35) := ⟨_, rfl⟩
  have e0 : w.alloc (.cells [.int .i64 5, .int .i64 pl, .int .u32 no, .int .u64 wi, .int .u64 nu, .int .u64 s0, .int .u32 s1, .int .u32 s2].toArray 35) = wa := hwa.symm
  rw [e0] at T0
  have hBa : B ≤ wa.heap.size := Nat.le_trans hB T0.onl.size
  have HT := hid T0
  have Hwa := hid hwa
  have ca := T0.ca
  have cd := T0.cd
  clear T0 hwa e0
  go_enter Try.func6, Try.ntmps6
  go_wp2_with fail
  rw [← Hwa.out]
  have x5 := HT.out.box 5 _ rfl; have x6 := HT.out.box 6 _ rfl; have x7 := HT.out.box 7 _ rfl
  go_cut [9] (fun s9 wx => s9 = .int .i64 0 ∧ TA w wx A off w.heap.size q.p B [.int .i64 5, .int .i64 pl, .int .u32 no, .int .u64 wi, .int .u64 nu, .int .u64 s0, .int .u32 s1, .int .u32 s2] c' q.x q.has)
  case first =>
    go_region_with (first | (go_at_call 15; refine (observe_is (s := ⟨s0, s1, s2⟩) HE.out HO.out _ (HT.out.later (Below.drew (Below.refl _ _))).ck HP.out.agr.ok).mono ?_; rintro e w1 ⟨rfl, ho, hk⟩; have R1 := hid ((HT.out.later (Below.drew (Below.refl _ _))).onC ho hk); clear ho hk))
    all_goals (try go_wp2_with fail)
    all_goals go_meet
    all_goals exact ⟨rfl, R1.out⟩
  case rest =>
    obtain ⟨rfl, hta⟩ := hcut
    have HR := hid hta
    have ca := hta.ca
    have cd := hta.cd
    have x5 := hta.box 5 _ rfl; have x6 := hta.box 6 _ rfl; have x7 := hta.box 7 _ rfl
    have hBc : B ≤ wc.heap.size := Nat.le_trans hB hta.onl.size
    obtain ⟨W2, rfl⟩ : ∃ W2, W2 = wc := ⟨_, rfl⟩
    clear hta
    go_wp2_with fail
    go_region_with (first | (go_at_call 16; refine (robserve_in B q.x s0 s1 s2 _ (hid (HR.out.later (Below.drew (Below.refl _ _))).rf) hBc (by have := HM.out; have := HP.out.agr.m3; omega) ht).mono ?_; rintro e w1 ⟨rfl, ho, g, k, hg, hk⟩; have R1 := hid ((HR.out.later (Below.drew (Below.refl _ _))).onR ho hk rfl (has3 hg)); clear ho hk hg))
    all_goals (try go_wp2_with fail)
    all_goals go_ret
    all_goals exact ⟨rfl, R1.out.post (HO.out ▸ HP.out.agr.obs (s := ⟨s0, s1, s2⟩) HSS.out HT0.out g k) rfl HP.out.bp⟩

end Go.Proofs.Ytmloaddbmkonoab
