import Derived.Test.YtmbmagfdeadibaaDOpen
import Derived.Test.YtmbmagfdeadibaaDXLaw
import Derived.Test.YtmbmagfdeadibaaEMove
namespace Go.Proofs.Ytmbmagfdeadibaa
open Go.ChangeShapes Go.WideShapes Go.ChangeAt Go.RowKit
theorem opened_diskExact {H : Type} {enc : TypeId × Value → H} {W : World} {r : Reach} {b : Nat} {v : Value} {d : DataW H} {p : List MemPlace}
    (hv : Value.okWide Try.prog W r b 22 v) (h : DataW.Trod enc Try.prog W 0 (fun _ => true) true 22 v d p) :
    Calls Try.prog 7 #[v] W fun e w' => e = .returned (.bool true) ∧ Below W.heap.size W w' := by
  obtain ⟨a, k1, xs, rfl, hx, hxl⟩ := open_steps hv h
  exact exact_law face hx hxl
end Go.Proofs.Ytmbmagfdeadibaa
