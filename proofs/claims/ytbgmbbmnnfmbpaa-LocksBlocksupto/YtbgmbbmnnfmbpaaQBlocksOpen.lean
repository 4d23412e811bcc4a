import Derived.Test.YtbgmbbmnnfmbpaaQBlocksLaw
import Derived.Test.YtbgmbbmnnfmbpaaQSceneOpen
namespace Go.Proofs.Ytbgmbbmnnfmbpaa.Lk
open Go.ChangeShapes Go.WideShapes Go.ChangeAt Go.RowKit Go.Deep
set_option linter.unusedVariables false
set_option maxRecDepth 100000 in
theorem opened_locksBlocks {H : Type} {enc : TypeId × Value → H} {W : World} {r : Reach} {b : Nat} {v : Value} {d : DataW H} {p : List MemPlace}
    (hv : Value.okWide Try.prog W r b 44 v) (h : DataW.Trod enc Try.prog W 0 (fun _ => true) true 44 v d p) (hk : Rows.uptoBulk d ≤ 1048576) :
    Calls Try.prog 6 #[v] W fun e w' => e = .returned (.bool true) ∧ Below W.heap.size W w' := by
  obtain ⟨a, c, L, x, s, tw, tl, tn, rfl, h1, h2, h3, h4, h5, h6, h7⟩ := open_scene hv h (.inr hk)
  exact blocks_law h1 h2 h3 (by omega)
end Go.Proofs.Ytbgmbbmnnfmbpaa.Lk
