import Derived.Test.YtmbmagfdeadibaaDOpen
import Derived.Test.YtmbmagfdeadibaaDCrashLaw
import Derived.Test.YtmbmagfdeadibaaEMove
namespace Go.Proofs.Ytmbmagfdeadibaa
open Go.ChangeShapes Go.WideShapes Go.ChangeAt Go.RowKit
theorem opened_diskCrash {H : Type} {enc : TypeId × Value → H} {W : World} {r : Reach} {b : Nat} {v : Value} {d : DataW H} {p : List MemPlace}
    (hv : Value.okWide Try.prog W r b 39 v) (h : DataW.Trod enc Try.prog W 0 (fun _ => true) true 39 v d p) :
    Calls Try.prog 5 #[v] W fun e w' => e = .returned (.bool true) ∧ Below W.heap.size W w' := by
  obtain ⟨c, a1, k1, xs, e0, e1, rfl, hc, hx, hxl, h0, h1⟩ := open_crashed hv h
  exact crash_law face hc hx hxl h0 h1
end Go.Proofs.Ytmbmagfdeadibaa
