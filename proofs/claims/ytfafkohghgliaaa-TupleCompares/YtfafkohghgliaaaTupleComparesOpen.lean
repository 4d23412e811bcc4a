import Derived.Test.YtfafkohghgliaaaTuOpenF
import Derived.Test.YtfafkohghgliaaaTuLCmp
namespace Go.Proofs.Ytfafkohghgliaaa
open Go.ChangeShapes Go.WideShapes Go.ChangeAt Go.RowKit Go.Deep Tu
set_option linter.unusedVariables false
set_option maxRecDepth 100000
theorem opened_tupleCompares {H : Type} {enc : TypeId × Value → H} {W : World} {r : Reach} {b : Nat} {v : Value} {d : DataW H} {p : List MemPlace} {ts : List TypeId} {gs : List (DataW H)}
    (hv : Value.okWide Try.prog W r b 24 v) (h : DataW.Trod enc Try.prog W 0 (fun _ => true) true 24 v d p) (hsz : (DataW.weightsEach Try.prog (24 :: ts) (d :: gs)).all (· ≤ reachBytes) = true) :
    Calls Try.prog 3 #[v] W fun e w' => e = .returned (.bool true) ∧ Below W.heap.size W w' := by
  letI : DecidableEq Vl := decVl
  have hr : InReach 24 d := InReach.of_args hsz
  obtain ⟨cs, rfl, hs⟩ := okWide_struct Try.underlying24 hv
  obtain ⟨fuel, hf⟩ := h
  obtain ⟨ys, n, hfu, hd, hl, hlen, hfld⟩ := DataW.trod_struct Try.underlying24 hf
  have cells_Two : Try.prog.cellsOf 24 = 2 := by kernel_rfl
  rw [cells_Two] at hl
  obtain ⟨cs⟩ := cs
  simp only [Value.cells] at hl hfld
  obtain ⟨c0, c1, rfl⟩ := list2 hl
  obtain ⟨y0, y1, rfl⟩ := list2 (cs := ys) (by simpa using hlen)
  have hd1 : d = .agg [y0.1, y1.1] := by injection hd
  rw [hd1] at hr
  have hr0 : InReach 22 y0.1 := hr.part Try.underlying24 (j := 0) rfl rfl
  have hr1 : InReach 22 y1.1 := hr.part Try.underlying24 (j := 1) rfl rfl
  have s0 : ([c0, c1].drop 0).take (Try.prog.cellsOf 22) = [c0] := by rw [cells_Vals]; rfl
  have s1 : ([c0, c1].drop 1).take (Try.prog.cellsOf 22) = [c1] := by rw [cells_Vals]; rfl
  have g0 : DataW.trod enc Try.prog W 0 (fun _ => true) true n 22 [c0] = some y0 := by rw [← s0]; exact hfld 0 _ rfl
  have g1 : DataW.trod enc Try.prog W 0 (fun _ => true) true n 22 [c1] = some y1 := by rw [← s1]; exact hfld 1 _ rfl
  obtain ⟨a, cap, xs, rfl, q1, q2, q3⟩ := Vals_reach g0 hr0
  obtain ⟨a2, cap2, ys2, rfl, p1, p2, p3⟩ := Vals_reach g1 hr1
  exact law_compares q1 p1 q2 p2 q3 p3
end Go.Proofs.Ytfafkohghgliaaa
