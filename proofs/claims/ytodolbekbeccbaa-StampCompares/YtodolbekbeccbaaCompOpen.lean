import Derived.Test.YtodolbekbeccbaaOpens
import Derived.Test.YtodolbekbeccbaaCompares
namespace Go.Proofs.Ytodolbekbeccbaa
open Go.ChangeShapes Go.WideShapes Go.ChangeAt Go.RowKit Go.Deep

theorem cells_two : Try.prog.cellsOf 39 = 6 := by kernel_rfl

theorem opened_stampCompares {H : Type} {enc : TypeId × Value → H} {W : World} {r : Reach} {b : Nat} {v : Value} {d : DataW H} {p : List MemPlace}
    (hv : Value.okWide Try.prog W r b 39 v) (h : DataW.Trod enc Try.prog W 0 (fun _ => true) true 39 v d p) :
    Calls Try.prog 7 #[v] W fun e w' => e = .returned (.bool true) ∧ Below W.heap.size W w' := by
  obtain ⟨cs, rfl, hs⟩ := okWide_struct Try.underlying39 hv
  obtain ⟨fuel, hf⟩ := h
  obtain ⟨y0, y1, n, _, hl, h0, h1⟩ := trod_struct2 Try.underlying39 hf
  rw [cells_two] at hl
  obtain ⟨cs⟩ := cs
  simp only [Value.cells] at hl h0 h1
  match cs, hl with
  | [c0, c1, c2, c3, c4, c5], _ =>
    obtain ⟨a0, a1, a2, e0, _, _, _⟩ := trod_stamp h0
    obtain ⟨b0, b1, b2, e1, _, _, _⟩ := trod_stamp h1
    simp [cells_stamp] at e0 e1
    obtain ⟨rfl, rfl, rfl⟩ := e0
    obtain ⟨rfl, rfl, rfl⟩ := e1
    exact compares_walk a0 a1 a2 b0 b1 b2 W

end Go.Proofs.Ytodolbekbeccbaa
