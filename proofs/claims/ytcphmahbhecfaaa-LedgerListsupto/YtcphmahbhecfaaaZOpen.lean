import Derived.Test.YtcphmahbhecfaaaZBase
/- The opening of a list of entries. -/
namespace Go.Proofs.Ytcphmahbhecfaaa.Lg
open Go.ChangeShapes Go.WideShapes Go.ChangeAt Go.RowKit Go.Deep Lk
set_option linter.unusedVariables false

theorem cells_bool : Try.prog.cellsOf 4 = 1 := by kernel_rfl
theorem cells_int : Try.prog.cellsOf 3 = 1 := by kernel_rfl
theorem cells_oc : Try.prog.cellsOf 31 = 1 := by kernel_rfl
theorem cells_u64 : Try.prog.cellsOf 32 = 1 := by kernel_rfl
theorem cells_u32 : Try.prog.cellsOf 23 = 1 := by kernel_rfl
theorem cells_txn : Try.prog.cellsOf 30 = 2 := by kernel_rfl
theorem cells_stamp : Try.prog.cellsOf 34 = 3 := by kernel_rfl
theorem cells_Entry : Try.prog.cellsOf 36 = 7 := by kernel_rfl
theorem bytes_Entry : Try.prog.bytesOf 36 = 40 := by kernel_rfl
theorem list2 {α : Type} {cs : List α} (h : cs.length = 2) : ∃ c0 c1, cs = [c0, c1] := by
  match cs, h with
  | [c0, c1], _ => exact ⟨c0, c1, rfl⟩
theorem list3 {α : Type} {cs : List α} (h : cs.length = 3) : ∃ c0 c1 c2, cs = [c0, c1, c2] := by
  match cs, h with
  | [c0, c1, c2], _ => exact ⟨c0, c1, c2, rfl⟩
theorem list4 {α : Type} {cs : List α} (h : cs.length = 4) : ∃ c0 c1 c2 c3, cs = [c0, c1, c2, c3] := by
  match cs, h with
  | [c0, c1, c2, c3], _ => exact ⟨c0, c1, c2, c3, rfl⟩
theorem list7 {α : Type} {cs : List α} (h : cs.length = 7) : ∃ c0 c1 c2 c3 c4 c5 c6, cs = [c0, c1, c2, c3, c4, c5, c6] := by
  match cs, h with
  | [c0, c1, c2, c3, c4, c5, c6], _ => exact ⟨c0, c1, c2, c3, c4, c5, c6, rfl⟩

section
variable {H : Type} {enc : TypeId × Value → H} {w : World} {base : Nat} {fuel : Nat} {cs : List Value} {y : DataW H × List MemPlace}
theorem trod_txn (h : DataW.trod enc Try.prog w base (fun _ => true) true fuel 30 cs = some y) : ∃ a b : Int, cs = [.int .u32 a, .int .u32 b] := by
  obtain ⟨ys, n, _, rfl, hl, hlen, hf⟩ := DataW.trod_struct Try.underlying30 h
  rw [cells_txn] at hl
  obtain ⟨c0, c1, rfl⟩ := list2 hl
  obtain ⟨y0, y1, rfl⟩ := list2 (cs := ys) (by simpa using hlen)
  obtain ⟨s0, e0, _, w0⟩ := DataW.trod_int Try.underlying23 (hf 0 _ rfl)
  obtain ⟨s1, e1, _, w1⟩ := DataW.trod_int Try.underlying23 (hf 1 _ rfl)
  simp [cells_u32] at e0 e1
  subst e0 e1
  exact ⟨s0, s1, rfl⟩
theorem trod_st (h : DataW.trod enc Try.prog w base (fun _ => true) true fuel 34 cs = some y) : ∃ a b c : Int, cs = [.int .u64 a, .int .u32 b, .int .u32 c] := by
  obtain ⟨ys, n, _, rfl, hl, hlen, hf⟩ := DataW.trod_struct Try.underlying34 h
  rw [cells_stamp] at hl
  obtain ⟨c0, c1, c2, rfl⟩ := list3 hl
  obtain ⟨y0, y1, y2, rfl⟩ := list3 (cs := ys) (by simpa using hlen)
  obtain ⟨s0, e0, _, _⟩ := DataW.trod_int Try.underlying32 (hf 0 _ rfl)
  obtain ⟨s1, e1, _, _⟩ := DataW.trod_int Try.underlying23 (hf 1 _ rfl)
  obtain ⟨s2, e2, _, _⟩ := DataW.trod_int Try.underlying23 (hf 2 _ rfl)
  simp [cells_u32, cells_u64] at e0 e1 e2
  subst e0 e1 e2
  exact ⟨s0, s1, s2, rfl⟩
theorem trod_Entry (h : DataW.trod enc Try.prog w base (fun _ => true) true fuel 36 cs = some y) : ∃ x : En, cs = ecs x := by
  obtain ⟨ys, n, _, rfl, hl, hlen, hf⟩ := DataW.trod_struct Try.underlying36 h
  rw [cells_Entry] at hl
  obtain ⟨c0, c1, c2, c3, c4, c5, c6, rfl⟩ := list7 hl
  obtain ⟨y0, y1, y2, y3, rfl⟩ := list4 (cs := ys) (by simpa using hlen)
  obtain ⟨a0, a1, e0⟩ := trod_txn (hf 0 _ rfl)
  obtain ⟨a2, e2, _, _⟩ := DataW.trod_int Try.underlying23 (hf 1 _ rfl)
  obtain ⟨a3, e3, _, _⟩ := DataW.trod_int Try.underlying31 (hf 2 _ rfl)
  obtain ⟨a4, a5, a6, e4⟩ := trod_st (hf 3 _ rfl)
  simp [cells_u32, cells_txn, cells_stamp, cells_oc] at e0 e2 e3 e4
  obtain ⟨e0, e1⟩ := e0
  obtain ⟨e4, e5, e6⟩ := e4
  subst e0 e1 e2 e3 e4 e5 e6
  exact ⟨⟨⟨a0, a1⟩, a2, a3, a4, a5, a6⟩, rfl⟩
/-- a list of entries -/
theorem Entry_cell {v : Value} (hf : DataW.trod enc Try.prog w base (fun _ => true) true fuel 22 [v] = some y) (hr : InReach 22 y.1) :
    ∃ (a : Option Addr) (cap : Nat) (xs : List En), v = .slice a xs.length cap ∧ xs.length ≤ cap ∧ RowC En.zero ecs 7 w a xs ∧ xs.length ≤ 3518437208780 ∧ xs.length ≤ Rows.uptoBulk y.1 := by
  obtain ⟨a, cap, xs, rfl, hcap, _, hrow, hel⟩ := open_rows Try.underlying22 cells_Entry (by decide) En.zero ecs (fun _ _ => True) (fun _ _ _ h _ => by obtain ⟨x, e⟩ := trod_Entry h; exact ⟨x, e, trivial⟩) hf hr
  refine ⟨a, cap, xs, rfl, hcap, hrow, ?_⟩
  rcases hel with rfl | ⟨el, sp, e1, e2, _⟩
  · simp
  · rw [e1] at hr
    have := hr.len Try.underlying22 bytes_Entry (by decide)
    rw [e2] at this
    simp only [reachBytes] at this
    refine ⟨by omega, ?_⟩
    have := bulkAll_len el
    rw [e1]; simp only [Rows.uptoBulk]; omega
end
theorem cells_Laid : Try.prog.cellsOf 25 = 2 := by kernel_rfl
theorem cells_ents : Try.prog.cellsOf 22 = 1 := by kernel_rfl
set_option maxRecDepth 100000 in
theorem open_laid {H : Type} {enc : TypeId × Value → H} {W : World} {r : Reach} {b : Nat} {v : Value} {d : DataW H} {p : List MemPlace}
    (hv : Value.okWide Try.prog W r b 25 v) (h : DataW.Trod enc Try.prog W 0 (fun _ => true) true 25 v d p) (hr : InReach 25 d) :
    ∃ (a : Option Addr) (c : Nat) (xs : List En) (home : Int), v = .agg #[.slice a xs.length c, .int .u32 home] ∧ RowC En.zero ecs 7 W a xs ∧ xs.length ≤ 3518437208780 ∧ xs.length ≤ c ∧ xs.length + 1 ≤ Rows.uptoBulk d := by
  obtain ⟨cs, rfl, hs⟩ := okWide_struct Try.underlying25 hv
  obtain ⟨fuel, hf⟩ := h
  obtain ⟨ys, n, hfu, hd, hl, hlen, hfld⟩ := DataW.trod_struct Try.underlying25 hf
  rw [cells_Laid] at hl
  obtain ⟨cs⟩ := cs
  simp only [Value.cells] at hl hfld
  obtain ⟨c0, c1, rfl⟩ := list2 hl
  obtain ⟨y0, y1, rfl⟩ := list2 (cs := ys) (by simpa using hlen)
  have hd1 : d = .agg [y0.1, y1.1] := by injection hd
  rw [hd1] at hr
  have s0 : ([c0, c1].drop 0).take (Try.prog.cellsOf 22) = [c0] := by rw [cells_ents]; rfl
  have g0 : DataW.trod enc Try.prog W 0 (fun _ => true) true n 22 [c0] = some y0 := by rw [← s0]; exact hfld 0 _ rfl
  obtain ⟨a, c, xs, rfl, h1, h2, h3, h4⟩ := Entry_cell g0 (hr.part Try.underlying25 (j := 0) rfl rfl)
  obtain ⟨hm, e1, _, _⟩ := DataW.trod_int Try.underlying23 (hfld 1 _ rfl)
  simp [cells_u32] at e1
  subst e1
  refine ⟨a, c, xs, hm, rfl, h2, h3, h1, ?_⟩
  have := bulk_pos y1.1
  rw [hd1]; simp only [Rows.uptoBulk, Rows.uptoBulkAll]; omega
end Go.Proofs.Ytcphmahbhecfaaa.Lg
