import Derived.Test.YtoejdjiclgjgkaaDoorMLaw
import Derived.Test.YtoejdjiclgjgkaaDoorMOpen
namespace Go.Proofs.YtoejdjiclgjgkaaDoor
open Go.ChangeShapes Go.WideShapes Go.ChangeAt Go.RowKit

set_option maxRecDepth 16000 in
theorem opened_msgValid {H : Type} {enc : TypeId × Value → H} {W : World} {r : Reach} {b : Nat} {v : Value} {d : DataW H} {p : List MemPlace}
    (hv : Value.okWide Tryd.prog W r b 35 v) (h : DataW.Trod enc Tryd.prog W 0 (fun _ => true) true 35 v d p) (hV : Vars W) :
    Calls Tryd.prog 3 #[v] W fun e w' => e = .returned (.bool true) ∧ Below W.heap.size W w' := by
  obtain ⟨m, rfl, hm, hs⟩ := open_msg hv h
  exact law_is hm hV hs

end Go.Proofs.YtoejdjiclgjgkaaDoor
