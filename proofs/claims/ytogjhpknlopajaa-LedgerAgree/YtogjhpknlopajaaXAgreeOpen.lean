import Derived.Test.YtogjhpknlopajaaXAgreeLaw
import Derived.Test.YtogjhpknlopajaaXLaidOpen
/- LedgerAgree: the opening. -/
namespace Go.Proofs.Ytogjhpknlopajaa.Lg
open Go.ChangeShapes Go.WideShapes Go.ChangeAt Go.RowKit Go.Deep Lk
set_option linter.unusedVariables false
set_option maxRecDepth 100000 in
theorem opened_ledgerAgree {H : Type} {enc : TypeId × Value → H} {W : World} {r : Reach} {b : Nat} {v : Value} {d : DataW H} {p : List MemPlace} {ts : List TypeId} {gs : List (DataW H)}
    (hv : Value.okWide Try.prog W r b 43 v) (h : DataW.Trod enc Try.prog W 0 (fun _ => true) true 43 v d p)
    (hsz : (DataW.weightsEach Try.prog (43 :: ts) (d :: gs)).all (· ≤ reachBytes) = true) :
    Calls Try.prog 4 #[v] W fun e w' => e = .returned (.bool true) ∧ Below W.heap.size W w' := by
  obtain ⟨a, c, xs, a', c', zs, rfl, h1, h2, h3, h4⟩ := open_two hv h (InReach.of_args hsz)
  exact agree_law h1 rfl h2 h3 rfl h4
end Go.Proofs.Ytogjhpknlopajaa.Lg
