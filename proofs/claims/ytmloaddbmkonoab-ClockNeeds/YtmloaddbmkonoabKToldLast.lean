import Derived.Test.YtmloaddbmkonoabKPair
namespace Go.Proofs.Ytmloaddbmkonoab
open Go.RowKit Go.Sort
set_option linter.unusedVariables false

theorem last_is {p : Nat} {c : Ck} {W L N : Int} (h : c.l = ⟨W, L, N⟩) (w : World) (hc : ClockAt w p c) :
    Calls Try.prog 17 #[.pointer (some ⟨p, 0, none⟩)] w fun e w' => e = .returned (stv W L N) ∧ Below w.heap.size w w' := by
  have := last_any p c w hc
  rw [h] at this
  exact this

set_option maxRecDepth 8000 in
set_option maxHeartbeats 4000000 in
theorem told_last (A off B m : Nat) (q : Pr) (pl no wi nu s0 s1 s2 : Int) (w : World) (HP : Hid (PairOk w B m q)) (HCA : Hid (w.cell? ⟨A, off, none⟩ = some (.pointer (some ⟨q.p, 0, none⟩)))) (HCD : Hid (w.cell? ⟨A, off + 1, none⟩ = some (.pointer (some ⟨q.x.d, 0, none⟩)))) (HNA : Hid (¬ q.has A))
    (hB : B ≤ w.heap.size) (HM : Hid ((m + 1) * 16 ≤ 140737488355328)) (HNU : Hid (U64 nu)) (HSS : Hid (St.ok ⟨s0, s1, s2⟩)) (W L N : Int) (HL : Hid (q.c.l = ⟨W, L, N⟩)) :
    Calls Try.prog 6 #[.pointer (some ⟨A, off, none⟩), .agg #[.int .i64 6, .int .i64 pl, .int .u32 no, .int .u64 wi, .int .u64 nu, .int .u64 s0, .int .u32 s1, .int .u32 s2]] w fun e w' => e = .returned (.bool true) ∧ ToldPost w w' B m q := by
  have hAl : A < w.heap.size := World.block_lt_of_cell? _ _ HCA.out
  have T0 := TA.start HP.out HCA.out HCD.out HNA.out [.int .i64 6, .int .i64 pl, .int .u32 no, .int .u64 wi, .int .u64 nu, .int .u64 s0, .int .u32 s1, .int .u32 s2] 35
  obtain ⟨wa, hwa⟩ : ∃ wa, wa = w.alloc (.cells #[.int .i64 6, .int .i64 pl, .int .u32 no, .int .u64 wi, .int .u64 nu, .int .u64 s0, .int .u32 s1, .int .u32 s2] 35) := ⟨_, rfl⟩
  have e0 : w.alloc (.cells [.int .i64 6, .int .i64 pl, .int .u32 no, .int .u64 wi, .int .u64 nu, .int .u64 s0, .int .u32 s1, .int .u32 s2].toArray 35) = wa := hwa.symm
  rw [e0] at T0
  have hBa : B ≤ wa.heap.size := Nat.le_trans hB T0.onl.size
  have HT := hid T0
  have Hwa := hid hwa
  have ca := T0.ca
  have cd := T0.cd
  clear T0 hwa e0
  have q1 : ∀ w, (binOp .eql 33 (stv W L N) (stv W L N)).run Try.prog w = .ok (.bool true) w := fun w => by rw [run_eq, sameB_self]
  have ca0 := HCA.out
  have HL1 : Hid (maxSt zst q.x.ss = ⟨W, L, N⟩) := HP.out.agr.l.trans HL.out
  go_enter Try.func6, Try.ntmps6
  go_wp2_with (first
    | (go_at_call 17; rw [← Hwa.out]; refine (last_is HL.out _ HT.out.ck).mono ?_; rintro e w1 ⟨rfl, hb⟩; have R1 := hid (HT.out.later hb); have cd1 := R1.out.cd; have hA1 : A < w1.heap.size := World.block_lt_of_cell? _ _ cd1; clear hb)
    | (go_at_call 18; refine (rlast_is HL1.out _ (R1.out.later (w3c_below w1 W L N)).rf (by have := HM.out; have := HP.out.agr.m3; omega)).mono ?_; rintro e w2 ⟨rfl, hb⟩; have R2 := hid ((R1.out.later (w3c_below w1 W L N)).later hb); have ⟨z0, z1, z2⟩ := (w3c_at w1 W L N).later hb; have hz : w1.heap.size < w2.heap.size := World.block_lt_of_cell? _ _ z0; clear hb))
  go_ret
  exact ⟨rfl, (R2.out.later (w3c_below w2 W L N)).post HP.out.agr.more rfl HP.out.bp⟩

set_option maxRecDepth 8000 in
set_option maxHeartbeats 4000000 in
theorem told_ceil (A off B m : Nat) (q : Pr) (pl no wi nu s0 s1 s2 : Int) (w : World) (HP : Hid (PairOk w B m q)) (HCA : Hid (w.cell? ⟨A, off, none⟩ = some (.pointer (some ⟨q.p, 0, none⟩)))) (HCD : Hid (w.cell? ⟨A, off + 1, none⟩ = some (.pointer (some ⟨q.x.d, 0, none⟩)))) (HNA : Hid (¬ q.has A))
    (hB : B ≤ w.heap.size) (HM : Hid ((m + 1) * 16 ≤ 140737488355328)) (HNU : Hid (U64 nu)) (HSS : Hid (St.ok ⟨s0, s1, s2⟩)) :
    Calls Try.prog 6 #[.pointer (some ⟨A, off, none⟩), .agg #[.int .i64 9, .int .i64 pl, .int .u32 no, .int .u64 wi, .int .u64 nu, .int .u64 s0, .int .u32 s1, .int .u32 s2]] w fun e w' => e = .returned (.bool true) ∧ ToldPost w w' B m q := by
  have hAl : A < w.heap.size := World.block_lt_of_cell? _ _ HCA.out
  have T0 := TA.start HP.out HCA.out HCD.out HNA.out [.int .i64 9, .int .i64 pl, .int .u32 no, .int .u64 wi, .int .u64 nu, .int .u64 s0, .int .u32 s1, .int .u32 s2] 35
  obtain ⟨wa, hwa⟩ : ∃ wa, wa = w.alloc (.cells #[.int .i64 9, .int .i64 pl, .int .u32 no, .int .u64 wi, .int .u64 nu, .int .u64 s0, .int .u32 s1, .int .u32 s2] 35) := ⟨_, rfl⟩
  have e0 : w.alloc (.cells [.int .i64 9, .int .i64 pl, .int .u32 no, .int .u64 wi, .int .u64 nu, .int .u64 s0, .int .u32 s1, .int .u32 s2].toArray 35) = wa := hwa.symm
  rw [e0] at T0
  have hBa : B ≤ wa.heap.size := Nat.le_trans hB T0.onl.size
  have HT := hid T0
  have Hwa := hid hwa
  have ca := T0.ca
  have cd := T0.cd
  clear T0 hwa e0
  have ca0 := HCA.out
  go_enter Try.func6, Try.ntmps6
  go_wp2_with (first
    | (go_at_call 23; rw [← Hwa.out]; refine (ceiling_any _ _ _ HT.out.ck).mono ?_; rintro e w1 ⟨rfl, hb⟩; have R1 := hid (HT.out.later hb); have cd1 := R1.out.cd; clear hb)
    | (go_at_call 24; refine (rceiling_is HP.out.agr.ce _ R1.out.rf (by have := HM.out; have := HP.out.agr.m4; omega)).mono ?_; rintro e w2 ⟨rfl, hb⟩; have R2 := hid (R1.out.later hb); clear hb))
  go_ret
  exact ⟨by simp, R2.out.post HP.out.agr.more rfl HP.out.bp⟩

set_option maxRecDepth 8000 in
set_option maxHeartbeats 4000000 in
theorem told_other (kd : Int) (A off B m : Nat) (q : Pr) (pl no wi nu s0 s1 s2 : Int) (w : World) (HP : Hid (PairOk w B m q)) (HCA : Hid (w.cell? ⟨A, off, none⟩ = some (.pointer (some ⟨q.p, 0, none⟩)))) (HCD : Hid (w.cell? ⟨A, off + 1, none⟩ = some (.pointer (some ⟨q.x.d, 0, none⟩)))) (HNA : Hid (¬ q.has A))
    (hB : B ≤ w.heap.size) (HM : Hid ((m + 1) * 16 ≤ 140737488355328)) (HNU : Hid (U64 nu)) (HSS : Hid (St.ok ⟨s0, s1, s2⟩)) (h3 : (kd == 3) = false) (h4 : (kd == 4) = false) (h5 : (kd == 5) = false) (h6 : (kd == 6) = false) (h7 : (kd == 7) = false) (h8 : (kd == 8) = false) (h9 : (kd == 9) = false) :
    Calls Try.prog 6 #[.pointer (some ⟨A, off, none⟩), .agg #[.int .i64 kd, .int .i64 pl, .int .u32 no, .int .u64 wi, .int .u64 nu, .int .u64 s0, .int .u32 s1, .int .u32 s2]] w fun e w' => e = .returned (.bool true) ∧ ToldPost w w' B m q := by
  have hAl : A < w.heap.size := World.block_lt_of_cell? _ _ HCA.out
  have T0 := TA.start HP.out HCA.out HCD.out HNA.out [.int .i64 kd, .int .i64 pl, .int .u32 no, .int .u64 wi, .int .u64 nu, .int .u64 s0, .int .u32 s1, .int .u32 s2] 35
  obtain ⟨wa, hwa⟩ : ∃ wa, wa = w.alloc (.cells #[.int .i64 kd, .int .i64 pl, .int .u32 no, .int .u64 wi, .int .u64 nu, .int .u64 s0, .int .u32 s1, .int .u32 s2] 35) := ⟨_, rfl⟩
  have e0 : w.alloc (.cells [.int .i64 kd, .int .i64 pl, .int .u32 no, .int .u64 wi, .int .u64 nu, .int .u64 s0, .int .u32 s1, .int .u32 s2].toArray 35) = wa := hwa.symm
  rw [e0] at T0
  have hBa : B ≤ wa.heap.size := Nat.le_trans hB T0.onl.size
  have HT := hid T0
  have Hwa := hid hwa
  have ca := T0.ca
  have cd := T0.cd
  clear T0 hwa e0
  go_enter Try.func6, Try.ntmps6
  go_wp2_with fail
  go_ret
  rw [← Hwa.out]
  exact ⟨rfl, HT.out.post HP.out.agr.more rfl HP.out.bp⟩

end Go.Proofs.Ytmloaddbmkonoab
