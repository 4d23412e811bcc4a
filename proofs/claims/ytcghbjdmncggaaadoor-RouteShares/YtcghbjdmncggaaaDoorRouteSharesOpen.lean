import Derived.Test.YtcghbjdmncggaaaDoorRAskOpen
import Derived.Test.YtcghbjdmncggaaaDoorRShWalk
namespace Go.Proofs.YtcghbjdmncggaaaDoor
open Go.ChangeShapes Go.WideShapes Go.ChangeAt Go.RowKit
theorem opened_routeShares {H : Type} {enc : TypeId × Value → H} {W : World} {r : Reach} {b : Nat} {v : Value} {d : DataW H} {p : List MemPlace}
    (hv : Value.okWide Tryd.prog W r b 29 v) (h : DataW.Trod enc Tryd.prog W 0 (fun _ => true) true 29 v d p) (hr : InReach 29 d) (ht : PowTab W) :
    Calls Tryd.prog 4 #[v] W fun e w' => e = .returned (.bool true) ∧ Below W.heap.size W w' := by
  obtain ⟨x, rfl, hx, h1, h2⟩ := Rt.open_asked hv h hr
  exact Rt.law_shares hx ht h1 h2
end Go.Proofs.YtcghbjdmncggaaaDoor
