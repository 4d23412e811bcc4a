import Derived.Test.YtngnifemghahkaaGOpen
import Derived.Test.YtngnifemghahkaaGBare
namespace Go.Proofs.Ytngnifemghahkaa
open Go.ChangeShapes Go.WideShapes Go.ChangeAt Go.RowKit Go.Deep
set_option linter.unusedVariables false

theorem opened_walValids {H : Type} {enc : TypeId × Value → H} {W : World} {r : Reach} {b : Nat} {v : Value} {d : DataW H} {p : List MemPlace} {ts : List TypeId} {gs : List (DataW H)}
    (hv : Value.okWide Try.prog W r b 33 v) (h : DataW.Trod enc Try.prog W 0 (fun _ => true) true 33 v d p)
    (hsz : (DataW.weightsEach Try.prog (33 :: ts) (d :: gs)).all (· ≤ reachBytes) = true) :
    Calls Try.prog 3 #[v] W fun e w' => e = .returned (.bool true) ∧ Below W.heap.size W w' := opened_of walvalid_is hv h hsz

end Go.Proofs.Ytngnifemghahkaa
