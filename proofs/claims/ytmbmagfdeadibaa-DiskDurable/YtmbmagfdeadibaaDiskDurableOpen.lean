import Derived.Test.YtmbmagfdeadibaaDOpen
import Derived.Test.YtmbmagfdeadibaaDDurLaw
import Derived.Test.YtmbmagfdeadibaaEMove
namespace Go.Proofs.Ytmbmagfdeadibaa
open Go.ChangeShapes Go.WideShapes Go.ChangeAt Go.RowKit
theorem opened_diskDurable {H : Type} {enc : TypeId × Value → H} {W : World} {r : Reach} {b : Nat} {v : Value} {d : DataW H} {p : List MemPlace}
    (hv : Value.okWide Try.prog W r b 24 v) (h : DataW.Trod enc Try.prog W 0 (fun _ => true) true 24 v d p) :
    Calls Try.prog 4 #[v] W fun e w' => e = .returned (.bool true) ∧ Below W.heap.size W w' := by
  obtain ⟨c, a1, a2, k1, k2, xs, ys, rfl, hc, hx, hy, hxl, hyl⟩ := open_two hv h
  exact durable_law face hc hx hy hxl hyl
end Go.Proofs.Ytmbmagfdeadibaa
