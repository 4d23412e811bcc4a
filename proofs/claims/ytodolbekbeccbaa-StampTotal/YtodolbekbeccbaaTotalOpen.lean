import Derived.Test.YtodolbekbeccbaaOpens
import Derived.Test.YtodolbekbeccbaaTotal
namespace Go.Proofs.Ytodolbekbeccbaa
open Go.ChangeShapes Go.WideShapes Go.ChangeAt Go.RowKit Go.Deep

theorem cells_three : Try.prog.cellsOf 27 = 9 := by kernel_rfl

theorem opened_stampTotal {H : Type} {enc : TypeId × Value → H} {W : World} {r : Reach} {b : Nat} {v : Value} {d : DataW H} {p : List MemPlace}
    (hv : Value.okWide Try.prog W r b 27 v) (h : DataW.Trod enc Try.prog W 0 (fun _ => true) true 27 v d p) :
    Calls Try.prog 3 #[v] W fun e w' => e = .returned (.bool true) ∧ Below W.heap.size W w' := by
  obtain ⟨cs, rfl, hs⟩ := okWide_struct Try.underlying27 hv
  obtain ⟨fuel, hf⟩ := h
  obtain ⟨y0, y1, y2, n, _, hl, h0, h1, h2⟩ := trod_struct3 Try.underlying27 hf
  rw [cells_three] at hl
  obtain ⟨cs⟩ := cs
  simp only [Value.cells] at hl h0 h1 h2
  match cs, hl with
  | [c0, c1, c2, c3, c4, c5, c6, c7, c8], _ =>
    obtain ⟨a0, a1, a2, e0, _, _, _⟩ := trod_stamp h0
    obtain ⟨b0, b1, b2, e1, _, _, _⟩ := trod_stamp h1
    obtain ⟨d0, d1, d2, e2, _, _, _⟩ := trod_stamp h2
    simp [cells_stamp] at e0 e1 e2
    obtain ⟨rfl, rfl, rfl⟩ := e0
    obtain ⟨rfl, rfl, rfl⟩ := e1
    obtain ⟨rfl, rfl, rfl⟩ := e2
    exact total_walk a0 a1 a2 b0 b1 b2 d0 d1 d2 W

end Go.Proofs.Ytodolbekbeccbaa
