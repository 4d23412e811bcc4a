import Derived.Test.YtfafkohghgliaaaTuTp
import Derived.Test.YtfafkohghgliaaaTuOwn
import Derived.Test.YtfafkohghgliaaaOpenRows
/- The openings: tuples. -/
namespace Go.Proofs.Ytfafkohghgliaaa.Tu
open Go.ChangeShapes Go.WideShapes Go.ChangeAt Go.RowKit Go.Deep Go.Proofs.Ytfafkohghgliaaa
set_option linter.unusedVariables false
set_option linter.unusedSectionVars false
variable [DecidableEq Vl]

theorem cells_str : Try.prog.cellsOf 9 = 1 := by kernel_rfl
theorem cells_bool : Try.prog.cellsOf 4 = 1 := by kernel_rfl
theorem cells_i64 : Try.prog.cellsOf 2 = 1 := by kernel_rfl
theorem cells_kind : Try.prog.cellsOf 27 = 1 := by kernel_rfl
theorem cells_Val : Try.prog.cellsOf 29 = 4 := by kernel_rfl
theorem cells_Vals : Try.prog.cellsOf 22 = 1 := by kernel_rfl
theorem list4 {α : Type} {cs : List α} (h : cs.length = 4) : ∃ c0 c1 c2 c3, cs = [c0, c1, c2, c3] := by
  match cs, h with
  | [c0, c1, c2, c3], _ => exact ⟨c0, c1, c2, c3, rfl⟩
theorem list2 {α : Type} {cs : List α} (h : cs.length = 2) : ∃ c0 c1, cs = [c0, c1] := by
  match cs, h with
  | [c0, c1], _ => exact ⟨c0, c1, rfl⟩
theorem list3 {α : Type} {cs : List α} (h : cs.length = 3) : ∃ c0 c1 c2, cs = [c0, c1, c2] := by
  match cs, h with
  | [c0, c1, c2], _ => exact ⟨c0, c1, c2, rfl⟩
section
variable {H : Type} {enc : TypeId × Value → H} {w : World} {base : Nat} {fuel : Nat} {cs : List Value} {y : DataW H × List MemPlace}
theorem trod_Val (h : DataW.trod enc Try.prog w base (fun _ => true) true fuel 29 cs = some y) : ∃ x : Vl, cs = x.cs ∧ x.ok ∧ x.s.length + 5 ≤ Rows.uptoBulk y.1 := by
  obtain ⟨ys, n, _, rfl, hl, hlen, hf⟩ := DataW.trod_struct Try.underlying29 h
  rw [cells_Val] at hl
  obtain ⟨c0, c1, c2, c3, rfl⟩ := list4 hl
  obtain ⟨y0, y1, y2, y3, rfl⟩ := list4 (cs := ys) (by simpa using hlen)
  obtain ⟨k0, e0, d0, _⟩ := DataW.trod_int Try.underlying27 (hf 0 _ rfl)
  obtain ⟨b1, e1, d1⟩ := DataW.trod_bool Try.underlying4 (hf 1 _ rfl)
  obtain ⟨n2, e2, d2, w2⟩ := DataW.trod_int Try.underlying2 (hf 2 _ rfl)
  obtain ⟨s3, e3, d3, _⟩ := DataW.trod_string Try.underlying9 (hf 3 _ rfl)
  simp [cells_str, cells_bool, cells_i64, cells_kind] at e0 e1 e2 e3
  subst e0 e1 e2 e3
  refine ⟨⟨k0, b1, n2, nums s3⟩, by simp [Vl.cs, ofNats_nums], ⟨?_, nums_b8 _⟩, ?_⟩
  · simp [Lit.wf, IntKind.min, IntKind.max, IntKind.bits, IntKind.signed] at w2
    exact ⟨by show _ ≤ n2; omega, by show n2 ≤ _; omega⟩
  · have e : (nums s3).length = s3.data.toList.length := by unfold nums; rw [List.length_map]
    show (nums s3).length + 5 ≤ _
    simp only [List.map_cons, List.map_nil, Rows.uptoBulk, Rows.uptoBulkAll, d0, d1, d2, d3]
    omega
theorem le_sum : ∀ {l : List Nat} {k : Nat}, k ∈ l → k ≤ l.sum
  | x :: l, k, h => by
    rcases List.mem_cons.1 h with rfl | h
    · simp
    · have := le_sum h; simp; omega
theorem enc_sum : ∀ xs : List Vl, OkT xs → (encL xs).length ≤ 2 * (xs.map fun v => v.s.length + 5).sum
  | [], _ => by simp [encL]
  | v :: xs, h => by
    have := enc_sum xs h.tail
    have hc := (codeV_len h.head.n64).2
    rw [encL_cons, List.length_append]
    simp only [List.map_cons, List.sum_cons]
    omega
theorem Vals_cell {v : Value} (hf : DataW.trod enc Try.prog w base (fun _ => true) true fuel 22 [v] = some y) (hb : Rows.uptoBulk y.1 ≤ 1048576) :
    ∃ (a : Option Addr) (cap : Nat) (xs : List Vl), v = .slice a xs.length cap ∧ xs.length ≤ cap ∧ RowV w a xs ∧ Tp xs ∧ xs.length ≤ 1048576 ∧ (encL xs).length ≤ 2097152 := by
  obtain ⟨a, cap, xs, rfl, hcap, _, hrow, hel⟩ := open_rows Try.underlying22 cells_Val (by decide) vNull Vl.cs (fun x d => x.ok ∧ x.s.length + 5 ≤ Rows.uptoBulk d) (fun _ _ _ h k => trod_Val h) hf (.inr hb)
  have ok : OkT xs := by
    rcases hel with rfl | ⟨el, sp, _, _, e3⟩
    · exact OkT.nil
    · intro x hx
      obtain ⟨i, hi, rfl⟩ := List.getElem_of_mem hx
      obtain ⟨d, _, hg⟩ := e3 i hi
      simpa [hi] using hg.1
  have sum : (xs.map fun v => v.s.length + 5).sum ≤ 1048576 := by
    rcases hel with rfl | ⟨el, sp, e1, e2, e3⟩
    · simp
    · have := bulkAll_sum vNull (fun v : Vl => v.s.length + 5) e2 (fun i hi => by obtain ⟨d, hd, hg⟩ := e3 i hi; exact ⟨d, hd, hg.2⟩)
      rw [e1] at hb; simp only [Rows.uptoBulk] at hb; omega
  have len : xs.length ≤ 1048576 := by
    rcases hel with rfl | ⟨el, sp, e1, e2, _⟩
    · simp
    · have := bulkAll_len el
      rw [e1] at hb; simp only [Rows.uptoBulk] at hb; omega
  have each : ∀ v ∈ xs, v.s.length ≤ 1048576 := fun v hv => by
    have : v.s.length + 5 ≤ (xs.map fun v => v.s.length + 5).sum := le_sum (List.mem_map.2 ⟨v, hv, rfl⟩)
    omega
  have he := enc_sum xs ok
  refine ⟨a, cap, xs, rfl, hcap, fun i hi => ?_, ⟨ok, by omega, fun v hv => by have := each v hv; omega, by omega⟩, len, by omega⟩
  obtain ⟨b, off, e, hc⟩ := hrow i hi
  exact ⟨b, off, e, by have := hc 0 _ rfl; rw [Nat.add_zero] at this; exact this, hc 1 _ rfl, hc 2 _ rfl, hc 3 _ rfl⟩
end
end Go.Proofs.Ytfafkohghgliaaa.Tu
