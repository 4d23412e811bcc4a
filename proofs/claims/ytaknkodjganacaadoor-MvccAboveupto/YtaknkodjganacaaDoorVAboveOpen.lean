import Derived.Test.YtaknkodjganacaaDoorVPrunedOpen
import Derived.Test.YtaknkodjganacaaDoorVAboveLaw
namespace Go.Proofs.YtaknkodjganacaaDoor
open Go.ChangeShapes Go.WideShapes Go.ChangeAt Go.RowKit

set_option maxRecDepth 16000 in
theorem opened_mvccAbove {H : Type} {enc : TypeId × Value → H} {W : World} {r : Reach} {b : Nat} {v : Value} {d : DataW H} {p : List MemPlace}
    (hv : Value.okWide Tryd.prog W r b 31 v) (h : DataW.Trod enc Tryd.prog W 0 (fun _ => true) true 31 v d p) (hk : Rows.uptoBulk d ≤ 1048576) (hL : laidMetH Tryd.prog theLaid W) :
    Calls Tryd.prog 3 #[v] W fun e w' => e = .returned (.bool true) ∧ Below W.heap.size W w' := by
  obtain ⟨a, ta, cap, tc, ps, ts, lo, hi, s, rfl, hr, hn, hsu, htr, htl, _⟩ := Vs.open_pruned hv h hk
  exact Vs.law_above hr hn hsu htr htl (pow_of hL)
end Go.Proofs.YtaknkodjganacaaDoor
