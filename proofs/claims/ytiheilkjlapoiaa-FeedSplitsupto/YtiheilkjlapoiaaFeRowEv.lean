import Derived.Test.YtiheilkjlapoiaaFeChgP
/- Rows of events that one owns are rows that can be read. -/
namespace Go.Proofs.Ytiheilkjlapoiaa.Lg
open Go.RowKit Go.Sort Go.Shelf Go.Lib Lk
set_option linter.unusedVariables false

theorem fmV_nth (E : List Ev) (i o : Nat) (hi : i < E.length) (ho : o < 20) : (E.flatMap Ev.cs)[i * 20 + o]? = (nthV E i).cs[o]? := by
  letI : Inhabited Ev := ⟨Ev.zero⟩
  rw [fm_get Ev.cs_len E i o hi ho]
  have : E[i]! = nthV E i := by rw [getElem!_pos E i hi, nthV, List.getElem?_eq_getElem hi]; rfl
  rw [this]
theorem rowEv_of_owns {W : World} {B n c : Nat} {a : Option Addr} {E : List Ev} (h : W.ownsRow B 72 20 (.slice a n c) n (E.flatMap Ev.cs)) (hn : E.length = n) : RowEv W a E := fun i hi => by
  obtain ⟨g, ea, hB, hcs⟩ := own_cells h (by omega)
  obtain ⟨g', cs, hg, _, hlt, _⟩ := owns_block h (by omega)
  rw [ea] at hg
  have e : g = g' := by simpa [Value.ownBlock] using hg
  refine ⟨g, 0, ea, by rw [e]; exact hlt, fun j v hj => ?_⟩
  have hj20 : j < 20 := by
    have := (List.getElem?_eq_some_iff.1 hj).1
    rwa [Ev.cs_len] at this
  rw [Nat.zero_add]
  exact hcs _ _ (by rw [fmV_nth E i j hi hj20]; exact hj)
/-- what stands at a transaction in the map of parts -/
theorem parts_at {w1 W : World} {B mb Bl : Nat} {ps : List (Ix × Sl)} {evs : List Ev} (hM : MapO ixv slv w1 (some mb) ps) (hP : Parts w1 B ps evs) (hBl : Bl < B) (hcl : ∃ cs t z, w1.heap[Bl]? = some (Obj.cells cs t z))
    (hW : ∀ g, g < w1.heap.size → g ≠ Bl → W.heap[g]? = w1.heap[g]?) (t : Ix) :
    ∃ s : Sl, (ofT t evs).length = s.n ∧ RowEv W s.a (ofT t evs) ∧ mb < w1.heap.size ∧ mb ≠ Bl ∧
      ∀ W', W'.heap[mb]? = w1.heap[mb]? → (Instr.lookup 51 (.map (some mb)) (.agg #[.int .u32 t.1, .int .u32 t.2]) false).run Try.prog W' = .ok (.slice s.a s.n s.c) W' := by
  have hmb : mb < w1.heap.size := hM.lt mb rfl
  have hne : mb ≠ Bl := by
    rintro rfl
    obtain ⟨cs, ty, z, hc⟩ := hcl
    exact mapat_ne hM hc rfl
  rcases hM.looks (P := Try.prog) ids Try.underlying51 (z := slv ⟨none, 0, 0⟩) zero_sl t with ⟨h1, h2⟩ | ⟨s, h1, h2⟩
  · refine ⟨⟨none, 0, 0⟩, by rw [hP.void t h1]; rfl, by rw [hP.void t h1]; intro i hi; exact absurd hi (by simp), hmb, hne, fun W' hW' => ?_⟩
    exact h2 W' (fun b e => by injection e with e; subst e; exact hW') false
  · refine ⟨s, (hP.len t s h1).1, rowEv_of_owns (c := s.c) (owns_same (hP.row t s h1) fun g cs hg hc => ?_) (hP.len t s h1).1, hmb, hne, fun W' hW' => ?_⟩
    · have hl := (hP.row t s h1).lt g hg
      exact hW g hl.2 (by omega)
    · exact h2 W' (fun b e => by injection e with e; subst e; exact hW') false
end Go.Proofs.Ytiheilkjlapoiaa.Lg
