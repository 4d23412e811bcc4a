import Derived.Test.YtaknkodjganacaaDoorVSto
/- Chains: the last one, the newest at a stamp, what is unseen. -/
namespace Go.Proofs.YtaknkodjganacaaDoor.Vs
open Go.RowKit Go.Sort
set_option linter.unusedVariables false

theorem stv_eq {s t : Sp} (h : s = t) : Ending.returned (sv s) = Ending.returned (sv t) := by rw [h]
theorem last_is {w : World} {k : ByteArray} {h : Hd} {m : Nat} (r : Row w k h) (hm : h.n = m + 1) (hn : h.n ≤ 1152921504606846976) :
    Calls Tryd.prog 33 #[.slice (some ⟨h.g, 0, none⟩) h.n h.cap] w fun e w' => e = .returned (sv (nthV h.vs m).s) ∧ Below w.heap.size w w' := by
  obtain ⟨g, n, cap, vs⟩ := h
  simp only at hm hn
  subst hm
  have c := r.at (i := m) (by show m < m + 1; omega)
  simp only at c
  obtain ⟨v, hv⟩ : ∃ v, v = nthV vs m := ⟨_, rfl⟩
  rw [← hv] at c ⊢
  clear hv
  have hg := r.lt
  simp only at hg ⊢
  have c1 := c.c1
  have c2 := c.c2
  have c3 := c.c3
  have d1 : (w.alloc (.cells #[.int .u64 0, .int .u32 0, .int .u32 0] 26)).cell? ⟨g, m * 6 + 1, none⟩ = _ := cell_later (Below.al (Below.refl _ _) _) c1
  have d2 : (w.alloc (.cells #[.int .u64 0, .int .u32 0, .int .u32 0] 26)).cell? ⟨g, m * 6 + 2, none⟩ = _ := cell_later (Below.al (Below.refl _ _) _) c2
  have d3 : (w.alloc (.cells #[.int .u64 0, .int .u32 0, .int .u32 0] 26)).cell? ⟨g, m * 6 + 3, none⟩ = _ := cell_later (Below.al (Below.refl _ _) _) c3
  clear c r c1 c2 c3
  have hw : IntKind.i64.wrap (m : Int) = (m : Int) := by rw [IntKind.wrap_i64]; omega
  go_enter Tryd.func33, Tryd.ntmps33
  go_wp2_with fail
  refine bodyPost_ret (v := sv v.s) (by simp [results, Tryd.results33, go_sem]) rfl ⟨rfl, ?_⟩
  (repeat (first | exact Below.refl _ _ | assumption | refine Below.drew ?_ | refine Below.al ?_ _ | refine Below.setCell ?_ (by first | exact Nat.le_refl _ | (simp; omega) | (simp; done)) _ | refine Below.on ?_ (by assumption)))

theorem upTo1_is {w : World} {k : ByteArray} {h : Hd} {t : Sp} {i ba bc : Nat} {u : Bool} (r : Row w k h) (hi : i < h.n) (hn : h.n ≤ 1152921504606846976)
    (a0 : w.cell? ⟨ba, 0, none⟩ = some (.int .u64 t.a)) (a1 : w.cell? ⟨ba, 1, none⟩ = some (.int .u32 t.b)) (a2 : w.cell? ⟨ba, 2, none⟩ = some (.int .u32 t.c))
    (b0 : w.cell? ⟨bc, 0, none⟩ = some (.slice (some ⟨h.g, 0, none⟩) h.n h.cap)) (hu : t.lt (nthV h.vs i).s = u) :
    Calls Tryd.prog 61 #[.int .i64 i, pt ba, pt bc] w fun e w' => e = .returned (.bool u) ∧ Below w.heap.size w w' := by
  obtain ⟨g, n, cap, vs⟩ := h
  simp only at hi hn b0 hu
  have c := r.at (i := i) hi
  simp only at c
  obtain ⟨v, hv⟩ : ∃ v, v = nthV vs i := ⟨_, rfl⟩
  rw [← hv] at c hu
  clear hv r
  have c1 := c.c1
  have c2 := c.c2
  have c3 := c.c3
  have ka0 := cell_regrown a0; have ka1 := cell_regrown a1; have ka2 := cell_regrown a2
  have kb0 := cell_regrown b0; have k1 := cell_regrown c1; have k2 := cell_regrown c2; have k3 := cell_regrown c3
  have hu' : lessB t.a t.b t.c v.s.a v.s.b v.s.c = u := hu
  clear c hu
  go_enter Tryd.func61, Tryd.ntmps61
  go_wp2_with fail
  refine wp_region_quiet_below (by kernel_rfl) (by kernel_rfl) ?_
  repeat (go_big_quiet_step ((go_at_call 32; exact Calls.regrown_of (less_is (by assumption) _))))
  refine wpQuiet_nil ?_
  intro w1 hw
  replace hw := below_of_regrown hw
  go_wp2_with fail
  go_ret
  exact ⟨rfl, hw⟩
end Go.Proofs.YtaknkodjganacaaDoor.Vs
