import Derived.Test.YtaknkodjganacaaDoorVMapLaw
import Derived.Test.YtaknkodjganacaaDoorVReplayOpen
namespace Go.Proofs.YtaknkodjganacaaDoor
open Go.ChangeShapes Go.WideShapes Go.ChangeAt Go.RowKit

set_option maxRecDepth 16000 in
theorem opened_mvccMap {H : Type} {enc : TypeId × Value → H} {W : World} {r : Reach} {b : Nat} {v : Value} {d : DataW H} {p : List MemPlace}
    (hv : Value.okWide Tryd.prog W r b 68 v) (h : DataW.Trod enc Tryd.prog W 0 (fun _ => true) true 68 v d p) (hk : Rows.uptoBulk d ≤ 1048576) (hL : laidMetH Tryd.prog theLaid W) :
    Calls Tryd.prog 5 #[v] W fun e w' => e = .returned (.bool true) ∧ Below W.heap.size W w' := by
  obtain ⟨a, cap, ps, lo, hi, s, rfl, hr, hn, hs, _⟩ := Vs.open_replay hv h hk
  exact Vs.law_map hr hn hs (pow_of hL)
end Go.Proofs.YtaknkodjganacaaDoor
