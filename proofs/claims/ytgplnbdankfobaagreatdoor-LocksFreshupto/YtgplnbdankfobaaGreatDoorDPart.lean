import Derived.Test.YtgplnbdankfobaaGreatDoorDOnl
/- Some cells of an object may change. -/
namespace Go.Proofs.YtgplnbdankfobaaGreatDoor
open Go.RowKit
set_option linter.unusedVariables false

/-- of an object's cells only those from o on, k of them, may change -/
def Part (p o k : Nat) (w w' : World) : Prop := ∀ cs t z, w.heap[p]? = some (.cells cs t z) → ∃ cs', w'.heap[p]? = some (.cells cs' t z) ∧ cs'.size = cs.size ∧ ∀ j, j < o ∨ o + k ≤ j → cs'[j]? = cs[j]?
theorem Part.same {p o k : Nat} {w w' : World} (h : w'.heap[p]? = w.heap[p]?) : Part p o k w w' := fun cs t z hc => ⟨cs, h.trans hc, rfl, fun _ _ => rfl⟩
theorem Part.refl (p o k : Nat) (w : World) : Part p o k w w := Part.same rfl
theorem Part.trans {p o k : Nat} {a b c : World} (h : Part p o k a b) (h' : Part p o k b c) : Part p o k a c := fun cs t z hc => by
  obtain ⟨cs1, h1, s1, e1⟩ := h cs t z hc
  obtain ⟨cs2, h2, s2, e2⟩ := h' cs1 t z h1
  exact ⟨cs2, h2, s2.trans s1, fun j hj => (e2 j hj).trans (e1 j hj)⟩
theorem Part.wide {p o k o' k' : Nat} {w w' : World} (h : Part p o k w w') (h1 : o' ≤ o) (h2 : o + k ≤ o' + k') : Part p o' k' w w' := fun cs t z hc => by
  obtain ⟨cs1, h3, s1, e1⟩ := h cs t z hc
  exact ⟨cs1, h3, s1, fun j hj => e1 j (by omega)⟩
theorem Part.below {p o k : Nat} {w w' : World} (h : Below w.heap.size w w') : Part p o k w w' := fun cs t z hc => ⟨cs, (h.block p (Array.getElem?_eq_some_iff.1 hc).1).trans hc, rfl, fun _ _ => rfl⟩
theorem Part.onl {F : Nat → Prop} {p o k : Nat} {w w' : World} (h : Onl F w w') (hp : ¬ F p) : Part p o k w w' := fun cs t z hc => ⟨cs, (h.block p (Array.getElem?_eq_some_iff.1 hc).1 hp).trans hc, rfl, fun _ _ => rfl⟩
theorem heap_put {w : World} {p o : Nat} {cs : Array Value} {t : TypeId} {z : Nat × Nat} (v : Value) (h : w.heap[p]? = some (.cells cs t z)) : (w.setCell ⟨p, o, none⟩ v).heap[p]? = some (.cells (cs.setIfInBounds o v) t z) := by
  obtain ⟨hlt, hk⟩ := Array.getElem?_eq_some_iff.1 h
  show (w.heap.modify p _)[p]? = _
  rw [Array.getElem?_eq_getElem (by rw [Array.size_modify]; exact hlt), Array.getElem_modify_self, hk]
  rfl
theorem Part.set (w : World) (p o : Nat) (v : Value) : Part p o 1 w (w.setCell ⟨p, o, none⟩ v) := fun cs t z hc => ⟨_, heap_put v hc, by simp, fun j hj => by rw [Array.getElem?_setIfInBounds_ne (by omega)]⟩
theorem Part.al {p o k : Nat} {w w' : World} (h : Part p o k w w') (x : Obj) : Part p o k w (w'.alloc x) := h.trans (Part.below (Below.al (Below.refl _ _) x))
end Go.Proofs.YtgplnbdankfobaaGreatDoor
