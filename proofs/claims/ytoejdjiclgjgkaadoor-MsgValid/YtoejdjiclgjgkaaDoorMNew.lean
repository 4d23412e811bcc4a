import Derived.Test.YtoejdjiclgjgkaaDoorMMake
import Derived.Laws.EntriesVeiled
namespace Go.Proofs.YtoejdjiclgjgkaaDoor
open Go.RowKit Go.Sort
set_option linter.unusedVariables false


abbrev makers : Array Value := #[.nilFunc, .func (.func 21) #[] #[], .func (.func 22) #[] #[], .func (.func 23) #[] #[], .func (.func 25) #[] #[], .func (.func 26) #[] #[], .func (.func 27) #[] #[], .func (.func 29) #[] #[], .func (.func 30) #[] #[], .func (.func 31) #[] #[]]
set_option maxHeartbeats 4000000 in
set_option maxRecDepth 16000 in
/-- msg.newBody at the kind k, whose maker is F -/
theorem new_any {m : Mg} {k : Nat} {F : FuncId} {D : TypeId} {vs : List Value} (hk : m.k = k) (hk1 : 1 ≤ k) (hk9 : k ≤ 9) (hF : makers[k]? = some (.func (.func F) #[] #[]))
    (hcall : ∀ v w, (callFunc F #[v]).run Tryd.prog w = .ok (.enter F #[v]) w)
    (hmake : ∀ w, Calls Tryd.prog F #[m.val] w fun e w' => ∃ q, e = .returned (.iface D (.pointer (some ⟨q, 0, none⟩))) ∧ At w' q 0 vs ∧ Below w.heap.size w w') (w : World) :
    Calls Tryd.prog 14 #[m.val] w fun e w' => ∃ q, e = .returned (.tuple #[.iface D (.pointer (some ⟨q, 0, none⟩)), .bool true]) ∧ At w' q 0 vs ∧ Below w.heap.size w w' := by
  have k1 : (m.k < 1) = False := by rw [hk]; simp; omega
  have k9 : (9 < m.k) = False := by rw [hk]; simp; omega
  have HK := hid hk; have HF := hid hF; have HM := hid hmake; have HC := hid hcall
  clear hk hF hmake hcall
  go_enter Tryd.func14, Tryd.ntmps14
  go_wp2_with fail
  have hB := (boxM w m 35).later (Below.al (Below.refl _ _) (.cells makers 90))
  have hf : ((w.alloc (.cells m.cells 35)).alloc (.cells makers 90)).cell? ⟨w.heap.size + 1, k, none⟩ = some (.func (.func F) #[] #[]) := by
    have := HF.out
    simp [makers] at this
    simp [go_sem]
    exact this
  have hb0 : Below w.heap.size w ((w.alloc (.cells m.cells 35)).alloc (.cells makers 90)) := Below.al (Below.al (Below.refl _ _) _) _
  obtain ⟨wa, hwa⟩ : ∃ wa, wa = ((w.alloc (.cells m.cells 35)).alloc (.cells makers 90)) := ⟨_, rfl⟩
  rw [← hwa] at hB hf hb0 ⊢
  clear hwa
  have ⟨c0', c1, c2, c3, c4, c5, c6, c7, c8, c9, c10, c11, c12, c13, c14⟩ := hB
  have hv := HK.out
  have c0 : wa.cell? ⟨w.heap.size, 0, none⟩ = some (.int .i64 (k : Int)) := by rw [hv] at c0'; exact c0'
  clear hv c0' hB k1 k9
  have HB0 := hid hb0
  clear hb0
  have hc := HC.out (.agg #[.int .i64 (k : Int), .int .u32 m.f, .int .u32 m.t, .int .u32 m.c, .int .u32 m.s, .int .u32 m.h, .int .u32 m.o, .int .u64 m.w, .int .u32 m.l, .int .u32 m.n, .int .i64 m.st, .int .i64 m.oc, .slice m.ra m.rs.length m.rc, .slice m.wa m.ws.length m.wc, .slice m.pa m.ps.length m.pc])
  have hkI : (k : Int) < 10 := by omega
  have hk0 : 0 ≤ (k : Int) := by omega
  go_cut [2, 3] (fun s2 s3 wx => ∃ q : Nat, s2 = .iface D (.pointer (some ⟨q, 0, none⟩)) ∧ s3 = .bool true ∧ At wx q 0 vs ∧ Below wa.heap.size wa wx)
  case first =>
    go_region_held3 (fun w' => w'.cell? ⟨w.heap.size, 0, none⟩ = some (.int .i64 (k : Int)) ∧ w'.cell? ⟨w.heap.size, 1, none⟩ = some (.int .u32 m.f) ∧ w'.cell? ⟨w.heap.size, 2, none⟩ = some (.int .u32 m.t) ∧ w'.cell? ⟨w.heap.size, 3, none⟩ = some (.int .u32 m.c) ∧ w'.cell? ⟨w.heap.size, 4, none⟩ = some (.int .u32 m.s) ∧ w'.cell? ⟨w.heap.size, 5, none⟩ = some (.int .u32 m.h) ∧ w'.cell? ⟨w.heap.size, 6, none⟩ = some (.int .u32 m.o) ∧ w'.cell? ⟨w.heap.size, 7, none⟩ = some (.int .u64 m.w) ∧ w'.cell? ⟨w.heap.size, 8, none⟩ = some (.int .u32 m.l) ∧ w'.cell? ⟨w.heap.size, 9, none⟩ = some (.int .u32 m.n) ∧ w'.cell? ⟨w.heap.size, 10, none⟩ = some (.int .i64 m.st) ∧ w'.cell? ⟨w.heap.size, 11, none⟩ = some (.int .i64 m.oc) ∧ w'.cell? ⟨w.heap.size, 12, none⟩ = some (.slice m.ra m.rs.length m.rc) ∧ w'.cell? ⟨w.heap.size, 13, none⟩ = some (.slice m.wa m.ws.length m.wc) ∧ w'.cell? ⟨w.heap.size, 14, none⟩ = some (.slice m.pa m.ps.length m.pc) ∧ w'.cell? ⟨w.heap.size + 1, k, none⟩ = some (.func (.func F) #[] #[]) ∧ Below wa.heap.size wa w')
      ((refine (fun (hB : Below wa.heap.size wa _) => ⟨cell_later hB c0, cell_later hB c1, cell_later hB c2, cell_later hB c3, cell_later hB c4, cell_later hB c5, cell_later hB c6, cell_later hB c7, cell_later hB c8, cell_later hB c9, cell_later hB c10, cell_later hB c11, cell_later hB c12, cell_later hB c13, cell_later hB c14, cell_later hB hf, hB⟩) ?_; (repeat (first | exact Below.refl _ _ | assumption | refine Below.drew ?_ | refine Below.al ?_ _ | refine Below.setCell ?_ (by first | exact Nat.le_refl _ | (simp; omega) | (simp; done)) _ | refine Below.on ?_ (by assumption)))))
      (first | (rw [show (Value.agg #[.int .i64 (k : Int), .int .u32 m.f, .int .u32 m.t, .int .u32 m.c, .int .u32 m.s, .int .u32 m.h, .int .u32 m.o, .int .u64 m.w, .int .u32 m.l, .int .u32 m.n, .int .i64 m.st, .int .i64 m.oc, .slice m.ra m.rs.length m.rc, .slice m.wa m.ws.length m.wc, .slice m.pa m.ps.length m.pc]) = m.val by rw [Mg.val, Mg.cells, HK.out]]; refine (HM.out _).mono ?_; rintro e w1 ⟨q, rfl, hA, hb1⟩; obtain ⟨hc1, hf1⟩ := bcell hb1; have hz1 := hb1.size))
    all_goals (try go_wp2_with fail)
    all_goals go_meet
    all_goals (refine ⟨_, rfl, rfl, ?_, by (repeat (first | exact Below.refl _ _ | assumption | refine Below.drew ?_ | refine Below.al ?_ _ | refine Below.setCell ?_ (by first | exact Nat.le_refl _ | (simp; omega) | (simp; done)) _ | refine Below.on ?_ (by assumption)))⟩)
    all_goals (first | exact hA | exact hA.later (by (repeat (first | exact Below.refl _ _ | assumption | refine Below.drew ?_ | refine Below.al ?_ _ | refine Below.setCell ?_ (by first | exact Nat.le_refl _ | (simp; omega) | (simp; done)) _ | refine Below.on ?_ (by assumption)))))
  case rest =>
    obtain ⟨q, rfl, rfl, hA, hb⟩ := hcut
    go_wp2_with fail
    go_ret2
    exact ⟨_, rfl, hA, Below.on HB0.out hb⟩

end Go.Proofs.YtoejdjiclgjgkaaDoor
