import Derived.Test.YtchfoipkaookmabDoorWRound
import Derived.Test.YtchfoipkaookmabDoorWOpen
namespace Go.Proofs.YtchfoipkaookmabDoor
open Go.ChangeShapes Go.WideShapes Go.ChangeAt Go.RowKit

theorem opened_wireRound {H : Type} {enc : TypeId × Value → H} {W : World} {r : Reach} {b : Nat} {v : Value} {d : DataW H} {p : List MemPlace}
    (hv : Value.okWide Tryd.prog W r b 22 v) (h : DataW.Trod enc Tryd.prog W 0 (fun _ => true) true 22 v d p) (hk : Rows.uptoBulk d ≤ 1048576) (hL : laidMetH Tryd.prog theLaid W) :
    Calls Tryd.prog 4 #[v] W fun e w' => e = .returned (.bool true) ∧ Below W.heap.size W w' := by
  obtain ⟨a, cap, xs, rfl, hr, hn, hb⟩ := open_items hv h hk
  exact round_law hr hn hb (pow_of hL)

end Go.Proofs.YtchfoipkaookmabDoor
