import Derived.Test.YtcinapjkdmmppaaOpens
import Derived.Test.YtcinapjkdmmppaaRaLaw
namespace Go.Proofs.Ytcinapjkdmmppaa
open Go.ChangeShapes Go.WideShapes Go.ChangeAt Go.RowKit Go.Deep

theorem cells_two : Try.prog.cellsOf 27 = 6 := by kernel_rfl

theorem opened_replicaAfter {H : Type} {enc : TypeId × Value → H} {W : World} {r : Reach} {b : Nat} {v : Value} {d : DataW H} {p : List MemPlace}
    (hv : Value.okWide Try.prog W r b 27 v) (h : DataW.Trod enc Try.prog W 0 (fun _ => true) true 27 v d p) :
    Calls Try.prog 3 #[v] W fun e W' => e = .returned (.bool true) ∧ Below W.heap.size W W' := by
  obtain ⟨cs, rfl, hs⟩ := okWide_struct Try.underlying27 hv
  obtain ⟨fuel, hf⟩ := h
  obtain ⟨y0, y1, n, _, hl, h0, h1⟩ := trod_struct2 Try.underlying27 hf
  rw [cells_two] at hl
  obtain ⟨cs⟩ := cs
  simp only [Value.cells] at hl h0 h1
  match cs, hl with
  | [c0, c1, c2, c3, c4, c5], _ =>
    obtain ⟨a0, a1, a2, e0, w0, w1, w2⟩ := trod_stamp h0
    obtain ⟨b0, b1, b2, e1, u0, u1, u2⟩ := trod_stamp h1
    simp [cells_stamp] at e0 e1
    obtain ⟨rfl, rfl, rfl⟩ := e0
    obtain ⟨rfl, rfl, rfl⟩ := e1
    exact after_law a0 a1 a2 b0 b1 b2 ⟨bounds_u64 w0, bounds_u32 w1, bounds_u32 w2⟩ ⟨bounds_u64 u0, bounds_u32 u1, bounds_u32 u2⟩ W

end Go.Proofs.Ytcinapjkdmmppaa
