import Derived.Test.YtggmhodogfngdaaDoorGtPLaw
import Derived.Test.YtggmhodogfngdaaDoorGtLaidQ
import Derived.OpenShut
import Derived.ChangeMaps5
namespace Go.Proofs.YtggmhodogfngdaaDoor
open Go.ChangeShapes Go.WideShapes Go.ChangeAt Go.RowKit
set_option maxRecDepth 100000 in
theorem opened_gateParses {H : Type} {enc : TypeId × Value → H} {W : World} {r : Reach} {b : Nat} {v : Value} {d : DataW H} {p : List MemPlace}
    (hv : Value.okWide Tryd.prog W r b 9 v) (h : DataW.Trod enc Tryd.prog W 0 (fun _ => true) true 9 v d p) (hL : laidMetH Tryd.prog Gt.theLaid W) (hsh : W.ShapedOpen Tryd.prog) :
    Calls Tryd.prog 5 #[v] W fun e w' => e = .returned (.bool true) ∧ Below W.heap.size W w' := by
  obtain ⟨s, rfl, rfl, rfl, hs⟩ := Go.ChangeMaps.open_string Tryd.underlying9 hv h
  have hl : (nums s).length ≤ 9223372036854775807 := by
    rw [nums_length]
    exact Nat.le_trans hs (of_decide_eq_true rfl)
  have := Gt.law_parses (nums_b8 s) hl W (Gt.vars_of hL hsh)
  rw [ofNats_nums] at this
  exact this
end Go.Proofs.YtggmhodogfngdaaDoor
