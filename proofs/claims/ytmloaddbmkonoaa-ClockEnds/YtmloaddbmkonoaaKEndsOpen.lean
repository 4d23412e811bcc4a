import Derived.Test.YtmloaddbmkonoaaKOpens
import Derived.Test.YtmloaddbmkonoaaKEnds
namespace Go.Proofs.Ytmloaddbmkonoaa
open Go.ChangeShapes Go.WideShapes Go.ChangeAt Go.RowKit Go.Deep

theorem cells_end : Try.prog.cellsOf 43 = 6 := by kernel_rfl

theorem opened_clockEnds {H : Type} {enc : TypeId × Value → H} {W : World} {r : Reach} {b : Nat} {v : Value} {d : DataW H} {p : List MemPlace}
    (hv : Value.okWide Try.prog W r b 43 v) (h : DataW.Trod enc Try.prog W 0 (fun _ => true) true 43 v d p) :
    Calls Try.prog 5 #[v] W fun e w' => e = .returned (.bool true) ∧ Below W.heap.size W w' := by
  obtain ⟨cs, rfl, hs⟩ := okWide_struct Try.underlying43 hv
  obtain ⟨fuel, hf⟩ := h
  obtain ⟨hl, n, hfld⟩ := trod_field Try.underlying43 hf
  rw [cells_end] at hl
  obtain ⟨cs⟩ := cs
  simp only [Value.cells] at hl hfld
  obtain ⟨c0, c1, c2, c3, c4, c5, rfl⟩ := list6 hl
  obtain ⟨y0, h0⟩ := hfld 0 _ rfl
  obtain ⟨y1, h1⟩ := hfld 1 _ rfl
  obtain ⟨y2, h2⟩ := hfld 2 _ rfl
  obtain ⟨y3, h3⟩ := hfld 3 _ rfl
  obtain ⟨a0, a1, a2, e0, w0, w1, w2⟩ := trod_stamp h0
  obtain ⟨a3, e3, _, w3⟩ := DataW.trod_int Try.underlying22 h1
  obtain ⟨a4, e4, _, w4⟩ := DataW.trod_int Try.underlying23 h2
  obtain ⟨a5, e5, _, w5⟩ := DataW.trod_int Try.underlying23 h3
  simp [cells_stamp, cells_u32, cells_u64] at e0 e3 e4 e5
  obtain ⟨rfl, rfl, rfl⟩ := e0
  subst e3 e4 e5
  refine ends_walk a0 a1 a2 a3 a4 a5 _ W ⟨u64_of w0, u32_of w1, u32_of w2⟩ (u32_of w3) (u64_of w4) (u64_of w5) rfl ?_
  unfold obsE
  by_cases ha : a0 = 18446744073709551615
  · simp [ha]
  · simp [ha]

end Go.Proofs.Ytmloaddbmkonoaa
