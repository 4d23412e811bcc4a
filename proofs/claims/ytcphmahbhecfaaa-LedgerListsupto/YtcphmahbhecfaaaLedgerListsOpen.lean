import Derived.Test.YtcphmahbhecfaaaZLaw
import Derived.Test.YtcphmahbhecfaaaZOpen
/- LedgerLists: the opening. -/
namespace Go.Proofs.Ytcphmahbhecfaaa
open Go.ChangeShapes Go.WideShapes Go.ChangeAt Go.RowKit Go.Deep Lk Lg
set_option linter.unusedVariables false
set_option maxRecDepth 100000 in
theorem opened_ledgerLists {H : Type} {enc : TypeId × Value → H} {W : World} {r : Reach} {b : Nat} {v : Value} {d : DataW H} {p : List MemPlace}
    (hv : Value.okWide Try.prog W r b 25 v) (h : DataW.Trod enc Try.prog W 0 (fun _ => true) true 25 v d p) (hk : Rows.uptoBulk d ≤ 1048576) :
    Calls Try.prog 3 #[v] W fun e w' => e = .returned (.bool true) ∧ Below W.heap.size W w' := by
  obtain ⟨a, c, xs, home, rfl, h1, h2, _, h4⟩ := open_laid hv h (.inr hk)
  exact lists_law h1 rfl (by omega)
end Go.Proofs.Ytcphmahbhecfaaa
