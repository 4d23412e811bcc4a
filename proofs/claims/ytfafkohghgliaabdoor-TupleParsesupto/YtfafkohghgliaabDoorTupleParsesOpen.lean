import Derived.Test.YtfafkohghgliaabDoorTuOpen
import Derived.Test.YtfafkohghgliaabDoorTuLPar
import Derived.Test.YtfafkohghgliaabDoorTuLaidQ
import Derived.OpenShut
import Derived.ChangeMaps5
namespace Go.Proofs.YtfafkohghgliaabDoor
open Go.ChangeShapes Go.WideShapes Go.ChangeAt Go.RowKit Go.Deep Tu
set_option linter.unusedVariables false
set_option maxRecDepth 100000
theorem opened_tupleParses {H : Type} {enc : TypeId × Value → H} {W : World} {r : Reach} {b : Nat} {v : Value} {d : DataW H} {p : List MemPlace}
    (hv : Value.okWide Tryd.prog W r b 9 v) (h : DataW.Trod enc Tryd.prog W 0 (fun _ => true) true 9 v d p) (hk : Rows.uptoBulk d ≤ 1048576) (hL : laidMetH Tryd.prog theLaid W) :
    Calls Tryd.prog 7 #[v] W fun e w' => e = .returned (.bool true) ∧ Below W.heap.size W w' := by
  letI : DecidableEq Vl := decVl
  obtain ⟨s, rfl, rfl, rfl, -⟩ := Go.ChangeMaps.open_string Tryd.underlying9 hv h
  have hl : (nums s).length ≤ 1048576 := by
    rw [nums_length]
    simp only [Rows.uptoBulk, Array.length_toList] at hk
    have e : s.size = s.data.size := rfl
    omega
  have := law_parses (nums_b8 s) hl (vars_of hL)
  rw [ofNats_nums] at this
  exact this
end Go.Proofs.YtfafkohghgliaabDoor
