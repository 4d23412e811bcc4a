import Derived.Test.YtmloaddbmkonoabKPair
namespace Go.Proofs.Ytmloaddbmkonoab
open Go.RowKit Go.Sort
set_option linter.unusedVariables false

set_option maxRecDepth 8000 in
set_option maxHeartbeats 4000000 in
theorem told_read (A off B m : Nat) (q : Pr) (pl no wi nu s0 s1 s2 : Int) (w : World) (HP : Hid (PairOk w B m q)) (HCA : Hid (w.cell? ⟨A, off, none⟩ = some (.pointer (some ⟨q.p, 0, none⟩)))) (HCD : Hid (w.cell? ⟨A, off + 1, none⟩ = some (.pointer (some ⟨q.x.d, 0, none⟩)))) (HNA : Hid (¬ q.has A))
    (hB : B ≤ w.heap.size) (HM : Hid ((m + 1) * 16 ≤ 140737488355328)) (HNU : Hid (U64 nu)) (HSS : Hid (St.ok ⟨s0, s1, s2⟩)) :
    Calls Try.prog 6 #[.pointer (some ⟨A, off, none⟩), .agg #[.int .i64 3, .int .i64 pl, .int .u32 no, .int .u64 wi, .int .u64 nu, .int .u64 s0, .int .u32 s1, .int .u32 s2]] w fun e w' => e = .returned (.bool true) ∧ ToldPost w w' B m q := by
  have hAl : A < w.heap.size := World.block_lt_of_cell? _ _ HCA.out
  have T0 := TA.start HP.out HCA.out HCD.out HNA.out [.int .i64 3, .int .i64 pl, .int .u32 no, .int .u64 wi, .int .u64 nu, .int .u64 s0, .int .u32 s1, .int .u32 s2] 35
  obtain ⟨wa, hwa⟩ : ∃ wa, wa = w.alloc (.cells #[.int .i64 3, .int .i64 pl, .int .u32 no, .int .u64 wi, .int .u64 nu, .int .u64 s0, .int .u32 s1, .int .u32 s2] 35) := ⟨_, rfl⟩
  have e0 : w.alloc (.cells [.int .i64 3, .int .i64 pl, .int .u32 no, .int .u64 wi, .int .u64 nu, .int .u64 s0, .int .u32 s1, .int .u32 s2].toArray 35) = wa := hwa.symm
  rw [e0] at T0
  have hBa : B ≤ wa.heap.size := Nat.le_trans hB T0.onl.size
  have HT := hid T0
  have Hwa := hid hwa
  have ca := T0.ca
  have cd := T0.cd
  clear T0 hwa e0
  go_enter Try.func6, Try.ntmps6
  go_wp2_with fail
  rw [← Hwa.out]
  have x4 := HT.out.box 4 _ rfl
  go_cut [] (fun wx => TA w wx A off w.heap.size q.p B [.int .i64 3, .int .i64 pl, .int .u32 no, .int .u64 wi, .int .u64 nu, .int .u64 s0, .int .u32 s1, .int .u32 s2] { q.c with rd := nu } q.x q.has)
  case first =>
    go_region_with (first | (go_at_call 11; refine (read_any q.p q.c nu _ (HT.out.later (Below.drew (Below.refl _ _))).ck).mono ?_; rintro e w1 ⟨rfl, ho, hk⟩; have R1 := hid ((HT.out.later (Below.drew (Below.refl _ _))).onC ho hk); clear ho hk))
    all_goals (try go_wp2_with fail)
    all_goals go_meet
    all_goals exact R1.out
  case rest =>
    have HR := hid hcut
    have ca := hcut.ca
    have cd := hcut.cd
    have x4 := hcut.box 4 _ rfl
    have hBc : B ≤ wc.heap.size := Nat.le_trans hB hcut.onl.size
    obtain ⟨W2, rfl⟩ : ∃ W2, W2 = wc := ⟨_, rfl⟩
    clear hcut
    go_wp2_with fail
    go_region_with (first | (go_at_call 12; refine (rread_any B q.x nu _ (hid (HR.out.later (Below.drew (Below.refl _ _))).rf) hBc (by have := HM.out; have := HP.out.agr.m2; omega)).mono ?_; rintro e w1 ⟨rfl, ho, g, k, hg, hk⟩; have R1 := hid ((HR.out.later (Below.drew (Below.refl _ _))).onR ho hk rfl (has2 hg)); clear ho hk hg))
    all_goals (try go_wp2_with fail)
    all_goals go_ret
    all_goals exact ⟨rfl, R1.out.post (HP.out.agr.read HNU.out g k) rfl HP.out.bp⟩

set_option maxRecDepth 8000 in
set_option maxHeartbeats 4000000 in
theorem told_reserve (A off B m : Nat) (q : Pr) (pl no wi nu s0 s1 s2 : Int) (w : World) (HP : Hid (PairOk w B m q)) (HCA : Hid (w.cell? ⟨A, off, none⟩ = some (.pointer (some ⟨q.p, 0, none⟩)))) (HCD : Hid (w.cell? ⟨A, off + 1, none⟩ = some (.pointer (some ⟨q.x.d, 0, none⟩)))) (HNA : Hid (¬ q.has A))
    (hB : B ≤ w.heap.size) (HM : Hid ((m + 1) * 16 ≤ 140737488355328)) (HNU : Hid (U64 nu)) (HSS : Hid (St.ok ⟨s0, s1, s2⟩)) :
    Calls Try.prog 6 #[.pointer (some ⟨A, off, none⟩), .agg #[.int .i64 8, .int .i64 pl, .int .u32 no, .int .u64 wi, .int .u64 nu, .int .u64 s0, .int .u32 s1, .int .u32 s2]] w fun e w' => e = .returned (.bool true) ∧ ToldPost w w' B m q := by
  have hAl : A < w.heap.size := World.block_lt_of_cell? _ _ HCA.out
  have T0 := TA.start HP.out HCA.out HCD.out HNA.out [.int .i64 8, .int .i64 pl, .int .u32 no, .int .u64 wi, .int .u64 nu, .int .u64 s0, .int .u32 s1, .int .u32 s2] 35
  obtain ⟨wa, hwa⟩ : ∃ wa, wa = w.alloc (.cells #[.int .i64 8, .int .i64 pl, .int .u32 no, .int .u64 wi, .int .u64 nu, .int .u64 s0, .int .u32 s1, .int .u32 s2] 35) := ⟨_, rfl⟩
  have e0 : w.alloc (.cells [.int .i64 8, .int .i64 pl, .int .u32 no, .int .u64 wi, .int .u64 nu, .int .u64 s0, .int .u32 s1, .int .u32 s2].toArray 35) = wa := hwa.symm
  rw [e0] at T0
  have hBa : B ≤ wa.heap.size := Nat.le_trans hB T0.onl.size
  have HT := hid T0
  have Hwa := hid hwa
  have ca := T0.ca
  have cd := T0.cd
  clear T0 hwa e0
  go_enter Try.func6, Try.ntmps6
  go_wp2_with fail
  rw [← Hwa.out]
  have x4 := HT.out.box 4 _ rfl
  go_cut [] (fun wx => TA w wx A off w.heap.size q.p B [.int .i64 8, .int .i64 pl, .int .u32 no, .int .u64 wi, .int .u64 nu, .int .u64 s0, .int .u32 s1, .int .u32 s2] { q.c with ceil := maxI q.c.ceil nu } q.x q.has)
  case first =>
    go_region_with (first | (go_at_call 21; refine (reserve_any q.p q.c nu _ (HT.out.later (Below.drew (Below.refl _ _))).ck).mono ?_; rintro e w1 ⟨rfl, ho, hk⟩; have R1 := hid ((HT.out.later (Below.drew (Below.refl _ _))).onC ho hk); clear ho hk))
    all_goals (try go_wp2_with fail)
    all_goals go_meet
    all_goals exact R1.out
  case rest =>
    have HR := hid hcut
    have ca := hcut.ca
    have cd := hcut.cd
    have x4 := hcut.box 4 _ rfl
    have hBc : B ≤ wc.heap.size := Nat.le_trans hB hcut.onl.size
    obtain ⟨W2, rfl⟩ : ∃ W2, W2 = wc := ⟨_, rfl⟩
    clear hcut
    go_wp2_with fail
    go_region_with (first | (go_at_call 22; refine (rreserve_any B q.x nu _ (hid (HR.out.later (Below.drew (Below.refl _ _))).rf) hBc (by have := HM.out; have := HP.out.agr.m4; omega)).mono ?_; rintro e w1 ⟨rfl, ho, g, k, hg, hk⟩; have R1 := hid ((HR.out.later (Below.drew (Below.refl _ _))).onR ho hk rfl (has4 hg)); clear ho hk hg))
    all_goals (try go_wp2_with fail)
    all_goals go_ret
    all_goals exact ⟨rfl, R1.out.post (HP.out.agr.reserve HNU.out g k) rfl HP.out.bp⟩

end Go.Proofs.Ytmloaddbmkonoab
