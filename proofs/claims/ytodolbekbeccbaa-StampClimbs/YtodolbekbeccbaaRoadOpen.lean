import Derived.Test.YtodolbekbeccbaaOpens
import Derived.Test.YtodolbekbeccbaaNextPlain
namespace Go.Proofs.Ytodolbekbeccbaa
open Go.ChangeShapes Go.WideShapes Go.ChangeAt Go.RowKit Go.Deep

theorem cells_road : Try.prog.cellsOf 33 = 4 := by kernel_rfl
theorem cells_nodes : Try.prog.cellsOf 31 = 1 := by kernel_rfl

theorem wf_u64 {a : Int} (h : (Lit.int .u64 a).wf = true) : 0 ≤ a ∧ a ≤ 18446744073709551615 := bounds_u64 h
theorem wf_u32 {a : Int} (h : (Lit.int .u32 a).wf = true) : 0 ≤ a ∧ a ≤ 4294967295 := bounds_u32 h

/-- a road: a stamp and a row of nodes, which is empty or lies in memory -/
theorem open_road {H : Type} {enc : TypeId × Value → H} {W : World} {r : Reach} {b : Nat} {v : Value} {d : DataW H} {p : List MemPlace}
    (hv : Value.okWide Try.prog W r b 33 v) (h : DataW.Trod enc Try.prog W 0 (fun _ => true) true 33 v d p) :
    ∃ (x y z : Int), StB x y z ∧ ((∃ ad cap, v = .agg #[.int .u64 x, .int .u32 y, .int .u32 z, .slice ad 0 cap]) ∨
      ∃ (bb off len cap : Nat) (zs : List Int), v = .agg #[.int .u64 x, .int .u32 y, .int .u32 z, .slice (some ⟨bb, off, none⟩) len cap] ∧ len ≤ 9223372036854775807 ∧ bb < W.heap.size ∧
        (∀ i, i < len → W.cell? ⟨bb, off + i, none⟩ = some (.int .u32 (zs.getD i 0))) ∧ (∀ i, i < len → 0 ≤ zs.getD i 0 ∧ zs.getD i 0 ≤ 4294967295)) := by
  obtain ⟨cs, rfl, hs⟩ := okWide_struct Try.underlying33 hv
  obtain ⟨fuel, hf⟩ := h
  obtain ⟨y0, y1, n, _, hl, h0, h1⟩ := trod_struct2 Try.underlying33 hf
  rw [cells_road] at hl
  obtain ⟨cs⟩ := cs
  simp only [Value.cells] at hl h0 h1
  match cs, hl with
  | [c0, c1, c2, c3], _ =>
    obtain ⟨a0, a1, a2, e0, w0, w1, w2⟩ := trod_stamp h0
    simp [cells_stamp] at e0
    obtain ⟨rfl, rfl, rfl⟩ := e0
    refine ⟨a0, a1, a2, ⟨wf_u64 w0, wf_u32 w1, wf_u32 w2⟩, ?_⟩
    rcases open_ints Try.underlying31 Try.underlying23 cells_u32 h1 with ⟨hcs, _⟩ | ⟨x, l, c, zs, hcs, _, hlc, hm, hz, _, hcell, hwz⟩
    · simp [cells_nodes] at hcs
      subst hcs
      exact .inl ⟨_, _, rfl⟩
    · simp [cells_nodes] at hcs
      subst hcs
      simp only [if_true] at hz
      by_cases hl0 : l = 0
      · subst hl0
        exact .inl ⟨_, _, rfl⟩
      · obtain ⟨bb, off, spot⟩ := x
        have hc := hcell 0 (by omega)
        have hspot : spot = none := by simpa [Addr.add] using World.cell?_spot hc
        subst hspot
        refine .inr ⟨bb, off, l, c, zs, rfl, by unfold maxLen at hm; omega, block_lt_of_cell hc, fun i hi => ?_, fun i hi => ?_⟩
        · have := hcell i (by omega)
          rwa [Addr.add_lit] at this
        · have hi' : i < zs.length := by omega
          have e : zs.getD i 0 = zs[i] := by simp [hi']
          rw [e]
          exact wf_u32 (hwz _ (List.getElem_mem hi'))

end Go.Proofs.Ytodolbekbeccbaa
