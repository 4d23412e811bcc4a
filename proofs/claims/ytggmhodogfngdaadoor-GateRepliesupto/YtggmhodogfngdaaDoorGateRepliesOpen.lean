import Derived.Test.YtggmhodogfngdaaDoorGtOpen
import Derived.Test.YtggmhodogfngdaaDoorGtLaid
namespace Go.Proofs.YtggmhodogfngdaaDoor
open Go.ChangeShapes Go.WideShapes Go.ChangeAt Go.RowKit
set_option maxRecDepth 100000 in
theorem opened_gateReplies {H : Type} {enc : TypeId × Value → H} {W : World} {r : Reach} {b : Nat} {v : Value} {d : DataW H} {p : List MemPlace}
    (hv : Value.okWide Tryd.prog W r b 34 v) (h : DataW.Trod enc Tryd.prog W 0 (fun _ => true) true 34 v d p) (hk : Rows.uptoBulk d ≤ 1048576) (hL : laidMetH Tryd.prog Gt.theLaid W) :
    Calls Tryd.prog 3 #[v] W fun e w' => e = .returned (.bool true) ∧ Below W.heap.size W w' := by
  obtain ⟨a, rfl, h1, h2⟩ := Gt.open_answer hv h hk
  obtain ⟨h3, h4⟩ := Gt.nm_of hL
  exact Gt.law_replies h1 W (Gt.pow_of hL) h3 h4 h2
end Go.Proofs.YtggmhodogfngdaaDoor
