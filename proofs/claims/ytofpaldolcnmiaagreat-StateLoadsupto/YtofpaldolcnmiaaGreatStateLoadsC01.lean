import Derived.Test.YtofpaldolcnmiaaGreatRows
import Derived.Test.YtofpaldolcnmiaaGreatChecked
import Derived.OpenShut
import Derived.Deep.Slices
import Derived.Deep.DeepHandedRow
import Derived.ProofKit
import Derived.SizedLaws
import Derived.Test.YtofpaldolcnmiaaGreatB54
set_option linter.unusedVariables false
namespace Go.Proofs.YtofpaldolcnmiaaGreat
open Go.ChangeShapes Go.WideShapes Go.ChangeAt Go.RowKit Go.Deep Ig
theorem cells_strB : Tryz.prog.cellsOf 9 = 1 := by kernel_rfl
theorem cells_u32B : Tryz.prog.cellsOf 22 = 1 := by kernel_rfl
theorem list2B {α : Type} {cs : List α} (h : cs.length = 2) : ∃ c0 c1, cs = [c0, c1] := by
 match cs, h with
 | [c0, c1], _ => exact ⟨c0, c1, rfl⟩
theorem cells_bytes : Tryz.prog.cellsOf 53 = 2 := by kernel_rfl
set_option maxRecDepth 100000 in
theorem opened_stateLoads {H : Type} {enc : TypeId × Value → H} {W : World} {r : Reach} {b : Nat} {v : Value} {d : DataW H} {p : List MemPlace}
  (hv : Value.okWide Tryz.prog W r b 53 v) (h : DataW.Trod enc Tryz.prog W 0 (fun _ => true) true 53 v d p) (hk : Rows.uptoBulk d ≤ 1048576) :
  Calls Tryz.prog 5 #[v] W fun e w' => e = .returned (.bool true) ∧ Below W.heap.size W w' := by
 obtain ⟨cs, rfl, hs⟩ := okWide_struct Tryz.underlying53 hv; obtain ⟨fuel, hf⟩ := h; obtain ⟨ys, n, hfu, hd, hl, hlen, hfld⟩ := DataW.trod_struct Tryz.underlying53 hf; rw [cells_bytes] at hl; obtain ⟨cs⟩ := cs; simp only [Value.cells] at hl hfld; obtain ⟨c0, c1, rfl⟩ := list2B hl; obtain ⟨y0, y1, rfl⟩ := list2B (cs := ys) (by simpa using hlen); have hd1 : d = .agg [y0.1, y1.1] := by injection hd
 rw [hd1] at hk; simp only [Rows.uptoBulk, Rows.uptoBulkAll] at hk; obtain ⟨a0, e0, _, w0⟩ := DataW.trod_int Tryz.underlying22 (hfld 0 _ rfl); obtain ⟨a1, e1, d1, _⟩ := DataW.trod_string Tryz.underlying9 (hfld 1 _ rfl); simp [cells_u32B, cells_strB] at e0 e1; subst e0 e1; rw [d1] at hk; simp only [Rows.uptoBulk, Array.length_toList] at hk; have hq : a1.size = a1.data.size := rfl; exact loads_law (by omega)
end Go.Proofs.YtofpaldolcnmiaaGreat
