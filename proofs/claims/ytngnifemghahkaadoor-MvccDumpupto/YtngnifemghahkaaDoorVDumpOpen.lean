import Derived.Test.YtngnifemghahkaaDoorVDumpLaw
import Derived.Test.YtngnifemghahkaaDoorVOpen
namespace Go.Proofs.YtngnifemghahkaaDoor
open Go.ChangeShapes Go.WideShapes Go.ChangeAt Go.RowKit

set_option maxRecDepth 16000 in
theorem opened_mvccDump {H : Type} {enc : TypeId × Value → H} {W : World} {r : Reach} {b : Nat} {v : Value} {d : DataW H} {p : List MemPlace}
    (hv : Value.okWide Tryd.prog W r b 77 v) (h : DataW.Trod enc Tryd.prog W 0 (fun _ => true) true 77 v d p) (hk : Rows.uptoBulk d ≤ 1048576) (hL : laidMetH Tryd.prog theLaid W) :
    Calls Tryd.prog 7 #[v] W fun e w' => e = .returned (.bool true) ∧ Below W.heap.size W w' := by
  obtain ⟨a, cap, ps, lo, hi, s, rfl, hr, hn, hs, hu⟩ := Vs.open_replay hv h hk
  exact Vs.law_dump hr hn hu hs (pow_of hL)
end Go.Proofs.YtngnifemghahkaaDoor
