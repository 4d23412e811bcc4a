import Derived.Test.YtfafkohghgliaabDoorTuOpen
import Derived.Test.YtfafkohghgliaabDoorTuLTxt
import Derived.Test.YtfafkohghgliaabDoorTuLaidQ
namespace Go.Proofs.YtfafkohghgliaabDoor
open Go.ChangeShapes Go.WideShapes Go.ChangeAt Go.RowKit Go.Deep Tu
set_option linter.unusedVariables false
set_option maxRecDepth 100000
theorem opened_tupleTexts {H : Type} {enc : TypeId × Value → H} {W : World} {r : Reach} {b : Nat} {v : Value} {d : DataW H} {p : List MemPlace}
    (hv : Value.okWide Tryd.prog W r b 22 v) (h : DataW.Trod enc Tryd.prog W 0 (fun _ => true) true 22 v d p) (hk : Rows.uptoBulk d ≤ 1048576) (hL : laidMetH Tryd.prog theLaid W) :
    Calls Tryd.prog 6 #[v] W fun e w' => e = .returned (.bool true) ∧ Below W.heap.size W w' := by
  letI : DecidableEq Vl := decVl
  obtain ⟨a0, len, cap0, rfl⟩ := okWide_slice Tryd.underlying22 hv
  obtain ⟨fuel, hf⟩ := h
  obtain ⟨a, cap, xs, e, _, hr, ht, hl, he⟩ := Vals_cell hf hk
  injection e with e1 e2 e3
  subst e1 e2 e3
  exact law_texts hr ht hl he (vars_of hL)
end Go.Proofs.YtfafkohghgliaabDoor
