import Derived.Test.YtgplnbdankfobaaGreatDoorDOnl
import Derived.Laws.OwnMore
/- A block's type and size. -/
namespace Go.Proofs.YtgplnbdankfobaaGreatDoor
open Go.RowKit Go.Sort
set_option linter.unusedVariables false

/-- a block's type and size -/
def Lie (w : World) (g : Nat) (t : TypeId) (N : Nat) : Prop := ∃ cur, w.heap[g]? = some (.cells cur t (0, 0)) ∧ cur.size = N
theorem Lie.set {w : World} {g N : Nat} {t : TypeId} (h : Lie w g t N) (b o : Nat) (v : Value) : Lie (w.setCell ⟨b, o, none⟩ v) g t N := by
  obtain ⟨cur, h1, h2⟩ := h
  by_cases e : g = b
  · subst e
    exact ⟨_, heap_setCell_same w g o cur t v h1, by simpa using h2⟩
  · exact ⟨cur, (heap_setCell_other w ⟨b, o, none⟩ g v e).trans h1, h2⟩
theorem Lie.onl {F : Nat → Prop} {w w' : World} {g N : Nat} {t : TypeId} (h : Lie w g t N) (ho : Onl F w w') (hg : ¬ F g) : Lie w' g t N := by
  obtain ⟨cur, h1, h2⟩ := h
  exact ⟨cur, (ho.block g (Array.getElem?_eq_some_iff.1 h1).1 hg).trans h1, h2⟩
theorem Lie.later {w w' : World} {g N : Nat} {t : TypeId} (h : Lie w g t N) (hb : Below w.heap.size w w') : Lie w' g t N := h.onl (F := fun _ => False) (Onl.of_below hb) (fun e => e)
theorem Lie.sets {g N b : Nat} {t : TypeId} : ∀ (vs : List Value) (o : Nat) (w : World), Lie w g t N → Lie (w.setCells b o vs) g t N
  | [], _, w, h => h
  | v :: r, o, w, h => Lie.sets r (o + 1) _ (h.set b o v)
end Go.Proofs.YtgplnbdankfobaaGreatDoor
