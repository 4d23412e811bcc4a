import Derived.Test.YtmhpakbkmddfeaaIOpen
import Derived.Test.YtmhpakbkmddfeaaJLaw
namespace Go.Proofs.Ytmhpakbkmddfeaa
open Go.ChangeShapes Go.WideShapes Go.ChangeAt Go.RowKit
set_option maxRecDepth 16000 in
theorem opened_indexStamps {H : Type} {enc : TypeId × Value → H} {W : World} {r : Reach} {b : Nat} {v : Value} {d : DataW H} {p : List MemPlace} {ts : List TypeId} {gs : List (DataW H)}
    (hv : Value.okWide Try.prog W r b 22 v) (h : DataW.Trod enc Try.prog W 0 (fun _ => true) true 22 v d p)
    (hsz : (DataW.weightsEach Try.prog (22 :: ts) (d :: gs)).all (· ≤ reachBytes) = true) :
    Calls Try.prog 8 #[v] W fun e w' => e = .returned (.bool true) ∧ Below W.heap.size W w' := by
  obtain ⟨a, cap, xs, rfl, hr, h1, h2, h3, -⟩ := open_script hv h hsz
  exact St.stamps_law hr h1 h2 h3
end Go.Proofs.Ytmhpakbkmddfeaa
