import Derived.Test.YtmloaddbmkonoabKW3c
import Derived.Test.YtmloaddbmkonoabKObs
import Derived.Test.YtmloaddbmkonoabKNeed
import Derived.Test.YtmloaddbmkonoabKTick
import Derived.Test.YtmloaddbmkonoabKAfter
import Derived.Test.YtmloaddbmkonoabEqs
namespace Go.Proofs.Ytmloaddbmkonoab
open Go.RowKit Go.Sort
set_option linter.unusedVariables false

/-- block N holds these values, from its beginning on -/
def BoxAt (w : World) (N : Nat) (vs : List Value) : Prop := ∀ i v, vs[i]? = some v → w.cell? ⟨N, i, none⟩ = some v
theorem BoxAt.later {w w' : World} {N : Nat} {vs : List Value} (h : BoxAt w N vs) (hb : Below w.heap.size w w') : BoxAt w' N vs := fun i v e => cell_later hb (h i v e)
theorem BoxAt.only {w w' : World} {N p : Nat} {vs : List Value} (h : BoxAt w N vs) (hb : Only p w w') (hne : N ≠ p) : BoxAt w' N vs := fun i v e => hb.cell hne (h i v e)

theorem box_at (w : World) (vs : List Value) (T : TypeId) : BoxAt (w.alloc (.cells vs.toArray T)) w.heap.size vs := fun i v e => by
  simp [go_sem, e]
theorem new_at {n d : Int} {w : World} {q : Nat} (hq : w.heap.size = q) :
    Calls Try.prog 7 #[.int .u32 n, .int .u64 d] w fun e w' => e = .returned (.pointer (some ⟨q, 0, none⟩)) ∧ Below w.heap.size w w' ∧ ClockAt w' q ⟨d, 0, n, 0, ⟨0, 0, 0⟩⟩ := hq ▸ new_any n d w
theorem reopen_at {n d g : Int} {w : World} {q : Nat} (hq : w.heap.size = q) :
    Calls Try.prog 9 #[.int .u32 n, .int .u64 d, .int .u64 g] w fun e w' => e = .returned (.pointer (some ⟨q, 0, none⟩)) ∧ Below w.heap.size w w' ∧ ClockAt w' q ⟨d, g, n, 0, ⟨g, 0, 0⟩⟩ := hq ▸ reopen_any n d g w

theorem al_below (w : World) (o : Obj) : Below w.heap.size w (w.alloc o) := Below.al (Below.refl _ _) _
theorem al_size (w : World) (o : Obj) : w.heap.size < (w.alloc o).heap.size := by simp

end Go.Proofs.Ytmloaddbmkonoab
