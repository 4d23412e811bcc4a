import Derived.Test.YtmhpakbkmddfeabIUptoOpen
import Derived.Test.YtmhpakbkmddfeabIFoldsLaw
namespace Go.Proofs.Ytmhpakbkmddfeab
open Go.ChangeShapes Go.WideShapes Go.ChangeAt Go.RowKit
set_option maxRecDepth 16000 in
theorem opened_indexFolds {H : Type} {enc : TypeId × Value → H} {W : World} {r : Reach} {b : Nat} {v : Value} {d : DataW H} {p : List MemPlace}
    (hv : Value.okWide Try.prog W r b 22 v) (h : DataW.Trod enc Try.prog W 0 (fun _ => true) true 22 v d p) (hk : Rows.uptoBulk d ≤ 1048576) :
    Calls Try.prog 3 #[v] W fun e w' => e = .returned (.bool true) ∧ Below W.heap.size W w' := by
  obtain ⟨a, cap, xs, rfl, hr, h1, h2, h3, -⟩ := open_upto hv h hk
  exact folds_law hr h1 h2 h3
end Go.Proofs.Ytmhpakbkmddfeab
