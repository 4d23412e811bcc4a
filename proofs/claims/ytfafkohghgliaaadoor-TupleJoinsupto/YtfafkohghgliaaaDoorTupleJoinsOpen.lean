import Derived.Test.YtfafkohghgliaaaDoorTuOpen
import Derived.Test.YtfafkohghgliaaaDoorTuLJoi
import Derived.Test.YtfafkohghgliaaaDoorTuLaid
namespace Go.Proofs.YtfafkohghgliaaaDoor
open Go.ChangeShapes Go.WideShapes Go.ChangeAt Go.RowKit Go.Deep Tu
set_option linter.unusedVariables false
set_option maxRecDepth 100000
theorem opened_tupleJoins {H : Type} {enc : TypeId × Value → H} {W : World} {r : Reach} {b : Nat} {v : Value} {d : DataW H} {p : List MemPlace}
    (hv : Value.okWide Tryd.prog W r b 24 v) (h : DataW.Trod enc Tryd.prog W 0 (fun _ => true) true 24 v d p) (hk : Rows.uptoBulk d ≤ 1048576) (hL : laidMetH Tryd.prog theLaid W) :
    Calls Tryd.prog 3 #[v] W fun e w' => e = .returned (.bool true) ∧ Below W.heap.size W w' := by
  letI : DecidableEq Vl := decVl
  obtain ⟨cs, rfl, hs⟩ := okWide_struct Tryd.underlying24 hv
  obtain ⟨fuel, hf⟩ := h
  obtain ⟨ys, n, hfu, hd, hl, hlen, hfld⟩ := DataW.trod_struct Tryd.underlying24 hf
  have cells_Two : Tryd.prog.cellsOf 24 = 2 := by kernel_rfl
  rw [cells_Two] at hl
  obtain ⟨cs⟩ := cs
  simp only [Value.cells] at hl hfld
  obtain ⟨c0, c1, rfl⟩ := list2 hl
  obtain ⟨y0, y1, rfl⟩ := list2 (cs := ys) (by simpa using hlen)
  have hd1 : d = .agg [y0.1, y1.1] := by injection hd
  have hb : Rows.uptoBulk y0.1 ≤ 1048576 ∧ Rows.uptoBulk y1.1 ≤ 1048576 ∧ Rows.uptoBulk y0.1 + Rows.uptoBulk y1.1 ≤ 1048576 := by
    rw [hd1] at hk; simp only [Rows.uptoBulk, Rows.uptoBulkAll] at hk; omega
  have s0 : ([c0, c1].drop 0).take (Tryd.prog.cellsOf 22) = [c0] := by rw [cells_Vals]; rfl
  have s1 : ([c0, c1].drop 1).take (Tryd.prog.cellsOf 22) = [c1] := by rw [cells_Vals]; rfl
  have g0 : DataW.trod enc Tryd.prog W 0 (fun _ => true) true n 22 [c0] = some y0 := by rw [← s0]; exact hfld 0 _ rfl
  have g1 : DataW.trod enc Tryd.prog W 0 (fun _ => true) true n 22 [c1] = some y1 := by rw [← s1]; exact hfld 1 _ rfl
  obtain ⟨a, cap, xs, rfl, _, hr, ht, hn, he⟩ := Vals_cell g0 hb.1
  obtain ⟨a2, cap2, ys2, rfl, _, hr2, ht2, hn2, he2⟩ := Vals_cell g1 hb.2.1
  exact law_joins hr hr2 ht ht2 hn hn2 he he2
end Go.Proofs.YtfafkohghgliaaaDoor
