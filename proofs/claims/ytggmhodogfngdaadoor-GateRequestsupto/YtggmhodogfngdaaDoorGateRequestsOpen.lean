import Derived.Test.YtggmhodogfngdaaDoorGtQLaw
import Derived.Test.YtggmhodogfngdaaDoorGtLaidQ
import Derived.Test.YtggmhodogfngdaaDoorGtOpenO
namespace Go.Proofs.YtggmhodogfngdaaDoor
open Go.ChangeShapes Go.WideShapes Go.ChangeAt Go.RowKit
set_option maxRecDepth 100000 in
theorem opened_gateRequests {H : Type} {enc : TypeId × Value → H} {W : World} {r : Reach} {b : Nat} {v : Value} {d : DataW H} {p : List MemPlace}
    (hv : Value.okWide Tryd.prog W r b 27 v) (h : DataW.Trod enc Tryd.prog W 0 (fun _ => true) true 27 v d p) (hk : Rows.uptoBulk d ≤ 1048576) (hL : laidMetH Tryd.prog Gt.theLaid W) (hsh : W.ShapedOpen Tryd.prog) :
    Calls Tryd.prog 4 #[v] W fun e w' => e = .returned (.bool true) ∧ Below W.heap.size W w' := by
  obtain ⟨cs, rfl, hs⟩ := okWide_struct Tryd.underlying27 hv
  obtain ⟨fuel, hf0⟩ := h
  obtain ⟨cs⟩ := cs
  simp only [Value.cells] at hf0
  obtain ⟨o, rfl, ho⟩ := Gt.o_Op hf0
  exact Gt.law_requests ho hk W (Gt.vars_of hL hsh)
end Go.Proofs.YtggmhodogfngdaaDoor
