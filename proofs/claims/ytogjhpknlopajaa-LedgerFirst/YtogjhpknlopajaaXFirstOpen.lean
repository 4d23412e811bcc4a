import Derived.Test.YtogjhpknlopajaaXFirstLaw
import Derived.Test.YtogjhpknlopajaaXEOpen
/- LedgerFirst: the opening. -/
namespace Go.Proofs.Ytogjhpknlopajaa.Lg
open Go.ChangeShapes Go.WideShapes Go.ChangeAt Go.RowKit Go.Deep Lk
set_option linter.unusedVariables false
set_option maxRecDepth 100000 in
theorem opened_ledgerFirst {H : Type} {enc : TypeId × Value → H} {W : World} {r : Reach} {b : Nat} {v : Value} {d : DataW H} {p : List MemPlace} {ts : List TypeId} {gs : List (DataW H)}
    (hv : Value.okWide Try.prog W r b 22 v) (h : DataW.Trod enc Try.prog W 0 (fun _ => true) true 22 v d p)
    (hsz : (DataW.weightsEach Try.prog (22 :: ts) (d :: gs)).all (· ≤ reachBytes) = true) :
    Calls Try.prog 3 #[v] W fun e w' => e = .returned (.bool true) ∧ Below W.heap.size W w' := by
  obtain ⟨a0, len, cap0, rfl⟩ := okWide_slice Try.underlying22 hv
  obtain ⟨fuel, hf⟩ := h
  obtain ⟨a, cap, xs, e, hc, hrow, hl, _⟩ := Entry_cell hf (InReach.of_args hsz)
  rw [e]
  exact first_law hrow rfl (by omega) hc
end Go.Proofs.Ytogjhpknlopajaa.Lg
