import Derived.Test.YtodolbekbeccbaaOpens
import Derived.Test.YtodolbekbeccbaaNextPlain
namespace Go.Proofs.Ytodolbekbeccbaa
open Go.ChangeShapes Go.WideShapes Go.ChangeAt Go.RowKit Go.Deep

theorem cells_two : Try.prog.cellsOf 39 = 6 := by kernel_rfl

theorem open_two {H : Type} {enc : TypeId × Value → H} {W : World} {r : Reach} {b : Nat} {v : Value} {d : DataW H} {p : List MemPlace}
    (hv : Value.okWide Try.prog W r b 39 v) (h : DataW.Trod enc Try.prog W 0 (fun _ => true) true 39 v d p) :
    ∃ x y z x' y' z' : Int, StB x y z ∧ StB x' y' z' ∧ v = .agg #[.int .u64 x, .int .u32 y, .int .u32 z, .int .u64 x', .int .u32 y', .int .u32 z'] := by
  obtain ⟨cs, rfl, hs⟩ := okWide_struct Try.underlying39 hv
  obtain ⟨fuel, hf⟩ := h
  obtain ⟨y0, y1, n, _, hl, h0, h1⟩ := trod_struct2 Try.underlying39 hf
  rw [cells_two] at hl
  obtain ⟨cs⟩ := cs
  simp only [Value.cells] at hl h0 h1
  match cs, hl with
  | [c0, c1, c2, c3, c4, c5], _ =>
    obtain ⟨a0, a1, a2, e0, w0, w1, w2⟩ := trod_stamp h0
    obtain ⟨b0, b1, b2, e1, u0, u1, u2⟩ := trod_stamp h1
    simp [cells_stamp] at e0 e1
    obtain ⟨rfl, rfl, rfl⟩ := e0
    obtain ⟨rfl, rfl, rfl⟩ := e1
    exact ⟨a0, a1, a2, b0, b1, b2, ⟨bounds_u64 w0, bounds_u32 w1, bounds_u32 w2⟩, ⟨bounds_u64 u0, bounds_u32 u1, bounds_u32 u2⟩, rfl⟩

end Go.Proofs.Ytodolbekbeccbaa
