import Derived.Test.YtogjhpknlopajaaXFirst
/- The opening of a list of entries. -/
namespace Go.Proofs.Ytogjhpknlopajaa.Lg
open Go.ChangeShapes Go.WideShapes Go.ChangeAt Go.RowKit Go.Deep Lk
set_option linter.unusedVariables false

theorem cells_bool : Try.prog.cellsOf 4 = 1 := by kernel_rfl
theorem cells_int : Try.prog.cellsOf 3 = 1 := by kernel_rfl
theorem cells_oc : Try.prog.cellsOf 28 = 1 := by kernel_rfl
theorem cells_u64 : Try.prog.cellsOf 29 = 1 := by kernel_rfl
theorem cells_u32 : Try.prog.cellsOf 25 = 1 := by kernel_rfl
theorem cells_txn : Try.prog.cellsOf 27 = 2 := by kernel_rfl
theorem cells_stamp : Try.prog.cellsOf 31 = 3 := by kernel_rfl
theorem cells_Entry : Try.prog.cellsOf 33 = 7 := by kernel_rfl
theorem bytes_Entry : Try.prog.bytesOf 33 = 40 := by kernel_rfl
theorem list2 {α : Type} {cs : List α} (h : cs.length = 2) : ∃ c0 c1, cs = [c0, c1] := by
  match cs, h with
  | [c0, c1], _ => exact ⟨c0, c1, rfl⟩
theorem list3 {α : Type} {cs : List α} (h : cs.length = 3) : ∃ c0 c1 c2, cs = [c0, c1, c2] := by
  match cs, h with
  | [c0, c1, c2], _ => exact ⟨c0, c1, c2, rfl⟩
theorem list4 {α : Type} {cs : List α} (h : cs.length = 4) : ∃ c0 c1 c2 c3, cs = [c0, c1, c2, c3] := by
  match cs, h with
  | [c0, c1, c2, c3], _ => exact ⟨c0, c1, c2, c3, rfl⟩
theorem list7 {α : Type} {cs : List α} (h : cs.length = 7) : ∃ c0 c1 c2 c3 c4 c5 c6, cs = [c0, c1, c2, c3, c4, c5, c6] := by
  match cs, h with
  | [c0, c1, c2, c3, c4, c5, c6], _ => exact ⟨c0, c1, c2, c3, c4, c5, c6, rfl⟩

section
variable {H : Type} {enc : TypeId × Value → H} {w : World} {base : Nat} {fuel : Nat} {cs : List Value} {y : DataW H × List MemPlace}
theorem trod_txn (h : DataW.trod enc Try.prog w base (fun _ => true) true fuel 27 cs = some y) : ∃ a b : Int, cs = [.int .u32 a, .int .u32 b] := by
  obtain ⟨ys, n, _, rfl, hl, hlen, hf⟩ := DataW.trod_struct Try.underlying27 h
  rw [cells_txn] at hl
  obtain ⟨c0, c1, rfl⟩ := list2 hl
  obtain ⟨y0, y1, rfl⟩ := list2 (cs := ys) (by simpa using hlen)
  obtain ⟨s0, e0, _, w0⟩ := DataW.trod_int Try.underlying25 (hf 0 _ rfl)
  obtain ⟨s1, e1, _, w1⟩ := DataW.trod_int Try.underlying25 (hf 1 _ rfl)
  simp [cells_u32] at e0 e1
  subst e0 e1
  exact ⟨s0, s1, rfl⟩
theorem trod_st (h : DataW.trod enc Try.prog w base (fun _ => true) true fuel 31 cs = some y) : ∃ a b c : Int, cs = [.int .u64 a, .int .u32 b, .int .u32 c] := by
  obtain ⟨ys, n, _, rfl, hl, hlen, hf⟩ := DataW.trod_struct Try.underlying31 h
  rw [cells_stamp] at hl
  obtain ⟨c0, c1, c2, rfl⟩ := list3 hl
  obtain ⟨y0, y1, y2, rfl⟩ := list3 (cs := ys) (by simpa using hlen)
  obtain ⟨s0, e0, _, _⟩ := DataW.trod_int Try.underlying29 (hf 0 _ rfl)
  obtain ⟨s1, e1, _, _⟩ := DataW.trod_int Try.underlying25 (hf 1 _ rfl)
  obtain ⟨s2, e2, _, _⟩ := DataW.trod_int Try.underlying25 (hf 2 _ rfl)
  simp [cells_u32, cells_u64] at e0 e1 e2
  subst e0 e1 e2
  exact ⟨s0, s1, s2, rfl⟩
theorem trod_Entry (h : DataW.trod enc Try.prog w base (fun _ => true) true fuel 33 cs = some y) : ∃ x : En, cs = ecs x := by
  obtain ⟨ys, n, _, rfl, hl, hlen, hf⟩ := DataW.trod_struct Try.underlying33 h
  rw [cells_Entry] at hl
  obtain ⟨c0, c1, c2, c3, c4, c5, c6, rfl⟩ := list7 hl
  obtain ⟨y0, y1, y2, y3, rfl⟩ := list4 (cs := ys) (by simpa using hlen)
  obtain ⟨a0, a1, e0⟩ := trod_txn (hf 0 _ rfl)
  obtain ⟨a2, e2, _, _⟩ := DataW.trod_int Try.underlying25 (hf 1 _ rfl)
  obtain ⟨a3, e3, _, _⟩ := DataW.trod_int Try.underlying28 (hf 2 _ rfl)
  obtain ⟨a4, a5, a6, e4⟩ := trod_st (hf 3 _ rfl)
  simp [cells_u32, cells_txn, cells_stamp, cells_oc] at e0 e2 e3 e4
  obtain ⟨e0, e1⟩ := e0
  obtain ⟨e4, e5, e6⟩ := e4
  subst e0 e1 e2 e3 e4 e5 e6
  exact ⟨⟨⟨a0, a1⟩, a2, a3, a4, a5, a6⟩, rfl⟩
/-- a list of entries -/
theorem Entry_cell {v : Value} (hf : DataW.trod enc Try.prog w base (fun _ => true) true fuel 22 [v] = some y) (hr : InReach 22 y.1) :
    ∃ (a : Option Addr) (cap : Nat) (xs : List En), v = .slice a xs.length cap ∧ xs.length ≤ cap ∧ RowC En.zero ecs 7 w a xs ∧ xs.length ≤ 3518437208780 ∧ xs.length ≤ Rows.uptoBulk y.1 := by
  obtain ⟨a, cap, xs, rfl, hcap, _, hrow, hel⟩ := open_rows Try.underlying22 cells_Entry (by decide) En.zero ecs (fun _ _ => True) (fun _ _ _ h _ => by obtain ⟨x, e⟩ := trod_Entry h; exact ⟨x, e, trivial⟩) hf hr
  refine ⟨a, cap, xs, rfl, hcap, hrow, ?_⟩
  rcases hel with rfl | ⟨el, sp, e1, e2, _⟩
  · simp
  · rw [e1] at hr
    have := hr.len Try.underlying22 bytes_Entry (by decide)
    rw [e2] at this
    simp only [reachBytes] at this
    refine ⟨by omega, ?_⟩
    have := bulkAll_len el
    rw [e1]; simp only [Rows.uptoBulk]; omega
end
end Go.Proofs.Ytogjhpknlopajaa.Lg
