import Derived.Test.YtmhpakbkmddfeaaIViewOpen
import Derived.Test.YtmhpakbkmddfeaaIFrzLaw
namespace Go.Proofs.Ytmhpakbkmddfeaa
open Go.ChangeShapes Go.WideShapes Go.ChangeAt Go.RowKit
set_option maxRecDepth 16000 in
theorem opened_indexFrozen {H : Type} {enc : TypeId × Value → H} {W : World} {r : Reach} {b : Nat} {v : Value} {d : DataW H} {p : List MemPlace} {ts : List TypeId} {gs : List (DataW H)}
    (hv : Value.okWide Try.prog W r b 40 v) (h : DataW.Trod enc Try.prog W 0 (fun _ => true) true 40 v d p)
    (hsz : (DataW.weightsEach Try.prog (40 :: ts) (d :: gs)).all (· ≤ reachBytes) = true) :
    Calls Try.prog 4 #[v] W fun e w' => e = .returned (.bool true) ∧ Below W.heap.size W w' := by
  obtain ⟨a, cap, xs, lo, hi, key, rfl, hr, h1, h2, h4, -, h3⟩ := open_view hv h hsz
  exact frozen_law hr h1 h2 h4 h3
end Go.Proofs.Ytmhpakbkmddfeaa
