import Derived.Test.YtmloaddbmkonoabKPair
namespace Go.Proofs.Ytmloaddbmkonoab
open Go.RowKit Go.Sort
set_option linter.unusedVariables false

set_option maxRecDepth 8000 in
set_option maxHeartbeats 4000000 in
theorem told_tick (A off B m : Nat) (q : Pr) (pl no wi nu s0 s1 s2 : Int) (w : World) (HP : Hid (PairOk w B m q)) (HCA : Hid (w.cell? ⟨A, off, none⟩ = some (.pointer (some ⟨q.p, 0, none⟩)))) (HCD : Hid (w.cell? ⟨A, off + 1, none⟩ = some (.pointer (some ⟨q.x.d, 0, none⟩)))) (HNA : Hid (¬ q.has A))
    (hB : B ≤ w.heap.size) (HM : Hid ((m + 1) * 16 ≤ 140737488355328)) (HNU : Hid (U64 nu)) (HSS : Hid (St.ok ⟨s0, s1, s2⟩)) (W L N E : Int) (HX : Hid (tickN q.c = ⟨W, L, N, E⟩)) :
    Calls Try.prog 6 #[.pointer (some ⟨A, off, none⟩), .agg #[.int .i64 4, .int .i64 pl, .int .u32 no, .int .u64 wi, .int .u64 nu, .int .u64 s0, .int .u32 s1, .int .u32 s2]] w fun e w' => e = .returned (.bool true) ∧ ToldPost w w' B m q := by
  have hAl : A < w.heap.size := World.block_lt_of_cell? _ _ HCA.out
  have T0 := TA.start HP.out HCA.out HCD.out HNA.out [.int .i64 4, .int .i64 pl, .int .u32 no, .int .u64 wi, .int .u64 nu, .int .u64 s0, .int .u32 s1, .int .u32 s2] 35
  obtain ⟨wa, hwa⟩ : ∃ wa, wa = w.alloc (.cells #[.int .i64 4, .int .i64 pl, .int .u32 no, .int .u64 wi, .int .u64 nu, .int .u64 s0, .int .u32 s1, .int .u32 s2] 35) := ⟨_, rfl⟩
  have e0 : w.alloc (.cells [.int .i64 4, .int .i64 pl, .int .u32 no, .int .u64 wi, .int .u64 nu, .int .u64 s0, .int .u32 s1, .int .u32 s2].toArray 35) = wa := hwa.symm
  rw [e0] at T0
  have hBa : B ≤ wa.heap.size := Nat.le_trans hB T0.onl.size
  have HT := hid T0
  have Hwa := hid hwa
  have ca := T0.ca
  have cd := T0.cd
  clear T0 hwa e0
  obtain ⟨n, hn1, hn2⟩ := HP.out.agr.rd
  have HN1 := hid hn1
  have HN2 := hid hn2
  have q1 : ∀ w, (binOp .eql 33 (stv W L N) (stv W L N)).run Try.prog w = .ok (.bool true) w := fun w => by rw [run_eq, sameB_self]
  have ca0 := HCA.out
  clear hn1 hn2
  go_enter Try.func6, Try.ntmps6
  go_wp2_with (first
    | (go_at_call 13; rw [← Hwa.out]; refine (tick_is HX.out _ HT.out.ck HP.out.agr.ok).mono ?_; rintro e w1 ⟨rfl, ho, hk⟩; have R1 := hid (HT.out.onC ho hk); have cd1 := R1.out.cd; have hA1 : A < w1.heap.size := World.block_lt_of_cell? _ _ cd1; clear ho hk)
    | (go_at_call 14; refine (rtick_is B n q.x q.c HX.out _ (R1.out.later (w3c_below w1 W L N)).rf (Nat.le_trans (Nat.le_trans hB R1.out.onl.size) (w3c_below w1 W L N).size) (by have := HM.out; have := HP.out.agr.m3; omega) HP.out.agr.l HN1.out (by have := HM.out; have := HP.out.agr.m2; have := HN1.out; omega) HN2.out HP.out.agr.node HP.out.agr.ok).mono ?_; rintro e w2 ⟨rfl, ho, hres⟩; have HO := hid ho; have HRES := hid hres; have S2 := (w3c_at w1 W L N); have fS : ¬ q.x.has w1.heap.size := (fun h => Nat.lt_irrefl _ (R1.out.rf.has_lt _ h).2); have z0 := ho.cell fS S2.1; have z1 := ho.cell fS S2.2.1; have z2 := ho.cell fS S2.2.2; have hz : w1.heap.size < w2.heap.size := World.block_lt_of_cell? _ _ z0; clear ho hres S2 fS))
  go_ret
  refine ⟨by simp, ?_⟩
  rcases HRES.out with ⟨he, g, k, hg, hr⟩ | ⟨he, hr⟩
  · subst he
    exact (((R1.out.later (w3c_below w1 W L N)).onR HO.out hr rfl (has3 hg)).later (w3c_below w2 W L N)).post (HP.out.agr.tick HX.out g k) rfl HP.out.bp
  · have e : tickC q.c = q.c := tickC_no HX.out he
    have R2 := (((R1.out.later (w3c_below w1 W L N)).onR HO.out hr rfl (fun i h => .inl h)).later (w3c_below w2 W L N))
    rw [e] at R2
    exact R2.post HP.out.agr.more rfl HP.out.bp

end Go.Proofs.Ytmloaddbmkonoab
