import Derived.Test.YtcphmahbhecfaaaXBase
import Derived.Test.YtcphmahbhecfaaaDPart
import Derived.Carry
/- The ledger: what it holds and where; the small functions. -/
namespace Go.Proofs.Ytcphmahbhecfaaa.Lg
open Go.RowKit Go.Sort Lk
set_option linter.unusedVariables false

theorem cell_of_obj {w : World} {b o : Nat} {cs : Array Value} {t : TypeId} {z : Nat × Nat} {v : Value} (h : w.heap[b]? = some (.cells cs t z)) (hv : cs[o]? = some v) : w.cell? ⟨b, o, none⟩ = some v := by
  simp [World.cell?, h, hv]
abbrev prsE (M : List En) : List (Ix × En) := M.map fun e => (e.id, e)
/-- a ledger at p, oo in an object of type ty, its map -/
structure LgO (W : World) (p oo : Nat) (ty : TypeId) (m : Option Nat) (M : List En) : Prop where
  obj : ∃ cs, W.heap[p]? = some (.cells cs ty (0, 0)) ∧ cs[oo]? = some (.map m)
  ents : MapO ixv En.val W m (prsE M)
/-- a ledger in a block of its own -/
abbrev Lg (W : World) (p : Nat) (m : Option Nat) (M : List En) : Prop := LgO W p 0 50 m M
/-- its blocks -/
def ItsL (p : Nat) (m : Option Nat) (b : Nat) : Prop := b = p ∨ m = some b
section
variable {w w' : World} {p oo : Nat} {ty : TypeId} {m : Option Nat} {M : List En}
theorem LgO.blk (h : LgO w p oo ty m M) : ∃ cs, w.heap[p]? = some (.cells cs ty (0, 0)) := by obtain ⟨cs, hc, _⟩ := h.obj; exact ⟨cs, hc⟩
theorem LgO.c0 (h : LgO w p oo ty m M) : w.cell? ⟨p, oo, none⟩ = some (.map m) := by obtain ⟨cs, hc, x0⟩ := h.obj; exact cell_of_obj hc x0
theorem LgO.loose (h : LgO w p oo ty m M) (j : Nat) : w.frozen? ⟨p, j, none⟩ = false := by obtain ⟨cs, hc, _⟩ := h.obj; simp [World.frozen?, hc]
theorem LgO.lt (h : LgO w p oo ty m M) : p < w.heap.size := by obtain ⟨cs, hc, _⟩ := h.obj; exact (Array.getElem?_eq_some_iff.1 hc).1
theorem LgO.objs (h : LgO w p oo ty m M) (e : w'.heap[p]? = w.heap[p]?) : ∃ cs, w'.heap[p]? = some (.cells cs ty (0, 0)) ∧ cs[oo]? = some (.map m) := by
  obtain ⟨cs, hc, x⟩ := h.obj
  exact ⟨cs, e.trans hc, x⟩
theorem LgO.later (h : LgO w p oo ty m M) (hb : Below w.heap.size w w') : LgO w' p oo ty m M := ⟨h.objs (hb.block p h.lt), h.ents.later hb⟩
theorem LgO.onl {F : Nat → Prop} (h : LgO w p oo ty m M) (ho : Onl F w w') (hF : ∀ b, ItsL p m b → ¬ F b) : LgO w' p oo ty m M :=
  ⟨h.objs (ho.block p h.lt (hF p (.inl rfl))), h.ents.same fun b e => ho.block b (h.ents.lt b e) (hF b (.inr e))⟩
theorem LgO.its_lt (h : LgO w p oo ty m M) {b : Nat} (hb : ItsL p m b) : b < w.heap.size := by
  rcases hb with rfl | e
  · exact h.lt
  · exact h.ents.lt b e
theorem prsE_keys (M : List En) : (prsE M).map (·.1) = M.map En.id := by simp [prsE, List.map_map, Function.comp_def]
theorem LgO.nodup (h : LgO w p oo ty m M) : (M.map En.id).Nodup := by
  have := h.ents.nodup (P := Try.prog) ids
  rwa [prsE_keys] at this
theorem prsE_mem {t : Ix} {e : En} (h : (t, e) ∈ prsE M) : e ∈ M ∧ e.id = t := by
  obtain ⟨x, hx, k⟩ := List.mem_map.1 h
  injection k with k1 k2
  subst k2
  exact ⟨hx, k1⟩
end
theorem zero_en (W : World) : (zeroValue 36).run Try.prog W = .ok (En.val En.zero) W := by kernel_rfl
theorem run_nilMap (m : Option Nat) (W : World) : (binOp .eql 48 (.map m) (.map none)).run Try.prog W = .ok (.bool m.isNone) W := by
  cases m with
  | none => kernel_rfl
  | some b => kernel_rfl
theorem mapat_ne {α β : Type} {ev : α → Value} {fv : β → Value} {w : World} {b : Nat} {ps : List (α × β)} {cs : Array Value} {t : TypeId} {z : Nat × Nat} {q : Nat} (h : MapO ev fv w (some b) ps) (hq : w.heap[q]? = some (.cells cs t z)) : q ≠ b := by
  rintro rfl
  obtain ⟨es, clock, hb, _⟩ := h.at
  rw [hb] at hq; cases hq
theorem LgO.ne {w : World} {p oo b : Nat} {ty : TypeId} {M : List En} (T : LgO w p oo ty (some b) M) : p ≠ b := by
  obtain ⟨cs, hc⟩ := T.blk
  exact mapat_ne T.ents hc
theorem putA_new {α β : Type} [DecidableEq α] {ps : List (α × β)} {a : α} (h : a ∉ ps.map (·.1)) (v : β) : putA ps a v = ps ++ [(a, v)] := by simp only [putA, if_neg h]
set_option maxHeartbeats 2000000 in
/-- an entry is stored over another -/
theorem stored {w w8 : World} {q : Nat} {z u : En} (hz : w.heap[q]? = some (.cells #[.int .u32 z.id.1, .int .u32 z.id.2, .int .u32 z.home, .int .i64 z.oc, .int .u64 z.w, .int .u32 z.l, .int .u32 z.n] 36)) (h : w8 = (((((((w).setCell ⟨q, 0, none⟩ (.int .u32 u.id.1)).setCell ⟨q, 1, none⟩ (.int .u32 u.id.2)).setCell ⟨q, 2, none⟩ (.int .u32 u.home)).setCell ⟨q, 3, none⟩ (.int .i64 u.oc)).setCell ⟨q, 4, none⟩ (.int .u64 u.w)).setCell ⟨q, 5, none⟩ (.int .u32 u.l)).setCell ⟨q, 6, none⟩ (.int .u32 u.n)) :
    w8.heap[q]? = some (.cells #[.int .u32 u.id.1, .int .u32 u.id.2, .int .u32 u.home, .int .i64 u.oc, .int .u64 u.w, .int .u32 u.l, .int .u32 u.n] 36) ∧ Onl (fun b => b = q) w w8 ∧ w8.heap.size = w.heap.size := by
  subst h
  refine ⟨?_, ?_, by simp⟩
  · have h0 := heap_setCell_same w q 0 _ _ (.int .u32 u.id.1) hz
    have h1 := heap_setCell_same _ q 1 _ _ (.int .u32 u.id.2) h0
    have h2 := heap_setCell_same _ q 2 _ _ (.int .u32 u.home) h1
    have h3 := heap_setCell_same _ q 3 _ _ (.int .i64 u.oc) h2
    have h4 := heap_setCell_same _ q 4 _ _ (.int .u64 u.w) h3
    have h5 := heap_setCell_same _ q 5 _ _ (.int .u32 u.l) h4
    have h6 := heap_setCell_same _ q 6 _ _ (.int .u32 u.n) h5
    simpa using h6
  · repeat refine Onl.set ?_ (by rfl) _ _
    exact Onl.refl _ _

theorem may_is {e : En} {u : Bool} (hu : mayB e = u) (w : World) : Calls Try.prog 11 #[.agg #[.int .u32 e.id.1, .int .u32 e.id.2, .int .u32 e.home, .int .i64 e.oc, .int .u64 e.w, .int .u32 e.l, .int .u32 e.n]] w fun r w' => r = .returned (.bool u) ∧ Below w.heap.size w w' := by
  obtain ⟨⟨ec, eq⟩, eh, eo, ew, el, en⟩ := e
  by_cases h1 : eo = 1
  · subst h1
    have e1 : u = true := by rw [← hu]; simp [mayB]
    subst e1
    clear hu
    go_enter Try.func11, Try.ntmps11
    go_wp2_with fail
    go_ret
    exact ⟨rfl, by (repeat (first | exact Below.refl _ _ | assumption | refine Below.drew ?_ | refine Below.al ?_ _ | refine Below.setCell ?_ (by first | exact Nat.le_refl _ | (simp; omega) | (simp; done)) _ | refine Below.on ?_ (by assumption)))⟩
  · have h1' : (eo == 1) = false := by simpa using h1
    by_cases h2 : eo = 2
    · subst h2
      obtain ⟨z, hz⟩ : ∃ z, sameB ew el en 0 0 0 = z := ⟨_, rfl⟩
      have e1 : u = z := by rw [← hu, ← hz]; simp [mayB]
      subst e1
      have qq : ∀ W, (binOp .eql 34 (.agg #[.int .u64 ew, .int .u32 el, .int .u32 en]) (.agg #[.int .u64 0, .int .u32 0, .int .u32 0])).run Try.prog W = .ok (.bool u) W := fun W => by rw [← hz]; exact run_eqS ew el en 0 0 0 W
      clear hu hz h1 h1'
      go_enter Try.func11, Try.ntmps11
      go_wp2_with fail
      go_ret
      exact ⟨rfl, by (repeat (first | exact Below.refl _ _ | assumption | refine Below.drew ?_ | refine Below.al ?_ _ | refine Below.setCell ?_ (by first | exact Nat.le_refl _ | (simp; omega) | (simp; done)) _ | refine Below.on ?_ (by assumption)))⟩
    · have h2' : (eo == 2) = false := by simpa using h2
      have e1 : u = false := by rw [← hu]; simp [mayB, h1, h2]
      subst e1
      clear hu
      go_enter Try.func11, Try.ntmps11
      go_wp2_with fail
      go_ret
      exact ⟨rfl, by (repeat (first | exact Below.refl _ _ | assumption | refine Below.drew ?_ | refine Below.al ?_ _ | refine Below.setCell ?_ (by first | exact Nat.le_refl _ | (simp; omega) | (simp; done)) _ | refine Below.on ?_ (by assumption)))⟩
theorem agree_is {e f : En} {u : Bool} (hu : agrB e f = u) (w : World) : Calls Try.prog 13 #[.agg #[.int .u32 e.id.1, .int .u32 e.id.2, .int .u32 e.home, .int .i64 e.oc, .int .u64 e.w, .int .u32 e.l, .int .u32 e.n], .agg #[.int .u32 f.id.1, .int .u32 f.id.2, .int .u32 f.home, .int .i64 f.oc, .int .u64 f.w, .int .u32 f.l, .int .u32 f.n]] w fun r w' => r = .returned (.bool u) ∧ Below w.heap.size w w' := by
  obtain ⟨⟨ec, eq⟩, eh, eo, ew, el, en⟩ := e
  obtain ⟨⟨fc, fq⟩, fh, fo, fw, fl, fn⟩ := f
  by_cases h1 : eo = fo
  · subst h1
    have h1' : (eo == eo) = true := by simp
    obtain ⟨z, hz⟩ : ∃ z, sameB ew el en fw fl fn = z := ⟨_, rfl⟩
    have e1 : u = z := by rw [← hu, ← hz]; simp [agrB]
    subst e1
    have qq : ∀ W, (binOp .eql 34 (.agg #[.int .u64 ew, .int .u32 el, .int .u32 en]) (.agg #[.int .u64 fw, .int .u32 fl, .int .u32 fn])).run Try.prog W = .ok (.bool u) W := fun W => by rw [← hz]; exact run_eqS ew el en fw fl fn W
    clear hu hz
    go_enter Try.func13, Try.ntmps13
    go_wp2_with fail
    go_ret
    exact ⟨rfl, by (repeat (first | exact Below.refl _ _ | assumption | refine Below.drew ?_ | refine Below.al ?_ _ | refine Below.setCell ?_ (by first | exact Nat.le_refl _ | (simp; omega) | (simp; done)) _ | refine Below.on ?_ (by assumption)))⟩
  · have h1' : (eo == fo) = false := by simpa using h1
    have e1 : u = false := by rw [← hu]; simp [agrB, h1]
    subst e1
    clear hu
    go_enter Try.func13, Try.ntmps13
    go_wp2_with fail
    go_ret
    exact ⟨rfl, by (repeat (first | exact Below.refl _ _ | assumption | refine Below.drew ?_ | refine Below.al ?_ _ | refine Below.setCell ?_ (by first | exact Nat.le_refl _ | (simp; omega) | (simp; done)) _ | refine Below.on ?_ (by assumption)))⟩
end Go.Proofs.Ytcphmahbhecfaaa.Lg
