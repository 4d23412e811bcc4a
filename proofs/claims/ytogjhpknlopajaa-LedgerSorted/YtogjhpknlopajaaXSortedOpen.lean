import Derived.Test.YtogjhpknlopajaaXSortedLaw
import Derived.Test.YtogjhpknlopajaaXLaidOpen
/- LedgerSorted: the opening. -/
namespace Go.Proofs.Ytogjhpknlopajaa.Lg
open Go.ChangeShapes Go.WideShapes Go.ChangeAt Go.RowKit Go.Deep Lk
set_option linter.unusedVariables false
set_option maxRecDepth 100000 in
theorem opened_ledgerSorted {H : Type} {enc : TypeId × Value → H} {W : World} {r : Reach} {b : Nat} {v : Value} {d : DataW H} {p : List MemPlace} {ts : List TypeId} {gs : List (DataW H)}
    (hv : Value.okWide Try.prog W r b 52 v) (h : DataW.Trod enc Try.prog W 0 (fun _ => true) true 52 v d p)
    (hsz : (DataW.weightsEach Try.prog (52 :: ts) (d :: gs)).all (· ≤ reachBytes) = true) :
    Calls Try.prog 5 #[v] W fun e w' => e = .returned (.bool true) ∧ Below W.heap.size W w' := by
  obtain ⟨a, c, xs, home, rfl, h1, h2, _⟩ := open_laid hv h (InReach.of_args hsz)
  exact sorted_law h1 rfl h2
end Go.Proofs.Ytogjhpknlopajaa.Lg
