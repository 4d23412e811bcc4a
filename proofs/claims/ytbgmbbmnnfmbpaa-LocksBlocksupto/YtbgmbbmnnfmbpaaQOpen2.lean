import Derived.Test.YtbgmbbmnnfmbpaaQLawP
import Derived.Test.YtbgmbbmnnfmbpaaOpenRows
/- The openings: what is held, steps, a scene. -/
namespace Go.Proofs.Ytbgmbbmnnfmbpaa.Lk
open Go.ChangeShapes Go.WideShapes Go.ChangeAt Go.RowKit Go.Deep
set_option linter.unusedVariables false

theorem cells_str : Try.prog.cellsOf 9 = 1 := by kernel_rfl
theorem cells_bool : Try.prog.cellsOf 4 = 1 := by kernel_rfl
theorem cells_int : Try.prog.cellsOf 3 = 1 := by kernel_rfl
theorem cells_u64 : Try.prog.cellsOf 36 = 1 := by kernel_rfl
theorem cells_u32 : Try.prog.cellsOf 33 = 1 := by kernel_rfl
theorem cells_txn : Try.prog.cellsOf 35 = 2 := by kernel_rfl
theorem cells_stamp : Try.prog.cellsOf 38 = 3 := by kernel_rfl
theorem cells_spans : Try.prog.cellsOf 39 = 1 := by kernel_rfl
theorem cells_writes : Try.prog.cellsOf 40 = 1 := by kernel_rfl
theorem cells_Span : Try.prog.cellsOf 23 = 2 := by kernel_rfl
theorem cells_Write : Try.prog.cellsOf 52 = 3 := by kernel_rfl
theorem cells_Held : Try.prog.cellsOf 42 = 8 := by kernel_rfl
theorem bytes_Span : Try.prog.bytesOf 23 = 32 := by kernel_rfl
theorem bytes_Write : Try.prog.bytesOf 52 = 40 := by kernel_rfl
theorem bytes_Held : Try.prog.bytesOf 42 = 80 := by kernel_rfl
theorem list2 {α : Type} {cs : List α} (h : cs.length = 2) : ∃ c0 c1, cs = [c0, c1] := by
  match cs, h with
  | [c0, c1], _ => exact ⟨c0, c1, rfl⟩
theorem list3 {α : Type} {cs : List α} (h : cs.length = 3) : ∃ c0 c1 c2, cs = [c0, c1, c2] := by
  match cs, h with
  | [c0, c1, c2], _ => exact ⟨c0, c1, c2, rfl⟩
theorem list4 {α : Type} {cs : List α} (h : cs.length = 4) : ∃ c0 c1 c2 c3, cs = [c0, c1, c2, c3] := by
  match cs, h with
  | [c0, c1, c2, c3], _ => exact ⟨c0, c1, c2, c3, rfl⟩
theorem list5 {α : Type} {cs : List α} (h : cs.length = 5) : ∃ c0 c1 c2 c3 c4, cs = [c0, c1, c2, c3, c4] := by
  match cs, h with
  | [c0, c1, c2, c3, c4], _ => exact ⟨c0, c1, c2, c3, c4, rfl⟩
theorem list8 {α : Type} {cs : List α} (h : cs.length = 8) : ∃ c0 c1 c2 c3 c4 c5 c6 c7, cs = [c0, c1, c2, c3, c4, c5, c6, c7] := by
  match cs, h with
  | [c0, c1, c2, c3, c4, c5, c6, c7], _ => exact ⟨c0, c1, c2, c3, c4, c5, c6, c7, rfl⟩
theorem list12 {α : Type} {cs : List α} (h : cs.length = 12) : ∃ c0 c1 c2 c3 c4 c5 c6 c7 c8 c9 c10 c11, cs = [c0, c1, c2, c3, c4, c5, c6, c7, c8, c9, c10, c11] := by
  match cs, h with
  | [c0, c1, c2, c3, c4, c5, c6, c7, c8, c9, c10, c11], _ => exact ⟨c0, c1, c2, c3, c4, c5, c6, c7, c8, c9, c10, c11, rfl⟩

section
variable {H : Type} {enc : TypeId × Value → H} {w : World} {base : Nat} {fuel : Nat} {cs : List Value} {y : DataW H × List MemPlace}

theorem trod_Span (h : DataW.trod enc Try.prog w base (fun _ => true) true fuel 23 cs = some y) : ∃ x : T2, cs = encS x := by
  obtain ⟨ys, n, _, rfl, hl, hlen, hf⟩ := DataW.trod_struct Try.underlying23 h
  rw [cells_Span] at hl
  obtain ⟨c0, c1, rfl⟩ := list2 hl
  obtain ⟨y0, y1, rfl⟩ := list2 (cs := ys) (by simpa using hlen)
  obtain ⟨s0, e0, _, _⟩ := DataW.trod_string Try.underlying9 (hf 0 _ rfl)
  obtain ⟨s1, e1, _, _⟩ := DataW.trod_string Try.underlying9 (hf 1 _ rfl)
  simp [cells_str] at e0 e1
  subst e0 e1
  exact ⟨(s0, s1), rfl⟩
theorem trod_Write (h : DataW.trod enc Try.prog w base (fun _ => true) true fuel 52 cs = some y) (hr : InReach 52 y.1) : ∃ x : Wr, cs = encW x ∧ x.key.size ≤ reachBytes := by
  obtain ⟨ys, n, _, rfl, hl, hlen, hf⟩ := DataW.trod_struct Try.underlying52 h
  rw [cells_Write] at hl
  obtain ⟨c0, c1, c2, rfl⟩ := list3 hl
  obtain ⟨y0, y1, y2, rfl⟩ := list3 (cs := ys) (by simpa using hlen)
  obtain ⟨s0, e0, d0, _⟩ := DataW.trod_string Try.underlying9 (hf 0 _ rfl)
  obtain ⟨b1, e1, _⟩ := DataW.trod_bool Try.underlying4 (hf 1 _ rfl)
  obtain ⟨s2, e2, _, _⟩ := DataW.trod_string Try.underlying9 (hf 2 _ rfl)
  simp [cells_str, cells_bool] at e0 e1 e2
  subst e0 e1 e2
  refine ⟨⟨s0, b1, s2⟩, rfl, ?_⟩
  have := InReach.part (ps := [y0.1, y1.1, y2.1]) hr Try.underlying52 (j := 0) rfl rfl
  rw [d0] at this
  exact this.text
theorem trod_txn (h : DataW.trod enc Try.prog w base (fun _ => true) true fuel 35 cs = some y) : ∃ a b : Int, cs = [.int .u32 a, .int .u32 b] ∧ (0 ≤ a ∧ a ≤ 4294967295) := by
  obtain ⟨ys, n, _, rfl, hl, hlen, hf⟩ := DataW.trod_struct Try.underlying35 h
  rw [cells_txn] at hl
  obtain ⟨c0, c1, rfl⟩ := list2 hl
  obtain ⟨y0, y1, rfl⟩ := list2 (cs := ys) (by simpa using hlen)
  obtain ⟨s0, e0, _, w0⟩ := DataW.trod_int Try.underlying33 (hf 0 _ rfl)
  obtain ⟨s1, e1, _, w1⟩ := DataW.trod_int Try.underlying33 (hf 1 _ rfl)
  simp [cells_u32] at e0 e1
  subst e0 e1
  refine ⟨s0, s1, rfl, ?_⟩
  simp [Lit.wf, IntKind.min, IntKind.max, IntKind.bits, IntKind.signed] at w0; omega
theorem trod_st (h : DataW.trod enc Try.prog w base (fun _ => true) true fuel 38 cs = some y) : ∃ a b c : Int, cs = [.int .u64 a, .int .u32 b, .int .u32 c] := by
  obtain ⟨ys, n, _, rfl, hl, hlen, hf⟩ := DataW.trod_struct Try.underlying38 h
  rw [cells_stamp] at hl
  obtain ⟨c0, c1, c2, rfl⟩ := list3 hl
  obtain ⟨y0, y1, y2, rfl⟩ := list3 (cs := ys) (by simpa using hlen)
  obtain ⟨s0, e0, _, _⟩ := DataW.trod_int Try.underlying36 (hf 0 _ rfl)
  obtain ⟨s1, e1, _, _⟩ := DataW.trod_int Try.underlying33 (hf 1 _ rfl)
  obtain ⟨s2, e2, _, _⟩ := DataW.trod_int Try.underlying33 (hf 2 _ rfl)
  simp [cells_u32, cells_u64] at e0 e1 e2
  subst e0 e1 e2
  exact ⟨s0, s1, s2, rfl⟩
/-- the list of spans -/
theorem Span_cell {v : Value} (hf : DataW.trod enc Try.prog w base (fun _ => true) true fuel 39 [v] = some y) (hr : InReach 39 y.1) :
    ∃ (a : Option Addr) (cap : Nat) (xs : List T2), v = .slice a xs.length cap ∧ Row2 w a xs ∧ xs.length + 1 ≤ 4398046511104 := by
  obtain ⟨a, cap, xs, rfl, _, _, hrow, hel⟩ := open_rows Try.underlying39 cells_Span (by decide) ((⟨#[]⟩, ⟨#[]⟩) : T2) encS (fun _ _ => True) (fun _ _ _ h _ => by obtain ⟨x, e⟩ := trod_Span h; exact ⟨x, e, trivial⟩) hf hr
  refine ⟨a, cap, xs, rfl, fun i hi => ?_, ?_⟩
  · obtain ⟨b, off, e, hc⟩ := hrow i hi
    exact ⟨b, off, e, hc 0 _ rfl, hc 1 _ rfl⟩
  · rcases hel with rfl | ⟨el, sp, e1, e2, _⟩
    · simp
    · rw [e1] at hr
      have := hr.len Try.underlying39 bytes_Span (by decide)
      rw [e2] at this
      simp only [reachBytes] at this
      omega
theorem Write_cell {v : Value} (hf : DataW.trod enc Try.prog w base (fun _ => true) true fuel 40 [v] = some y) (hr : InReach 40 y.1) :
    ∃ (a : Option Addr) (cap : Nat) (xs : List Wr), v = .slice a xs.length cap ∧ RowW w a xs ∧ xs.length + 1 ≤ 3518437208883 ∧ (∀ x ∈ xs, x.key.size ≤ reachBytes) ∧ xs.length ≤ Rows.uptoBulk y.1 := by
  obtain ⟨a, cap, xs, rfl, _, _, hrow, hel⟩ := open_rows Try.underlying40 cells_Write (by decide) (⟨⟨#[]⟩, false, ⟨#[]⟩⟩ : Wr) encW (fun x _ => x.key.size ≤ reachBytes) (fun _ _ _ h k => trod_Write h k) hf hr
  refine ⟨a, cap, xs, rfl, fun i hi => ?_, ?_⟩
  · obtain ⟨b, off, e, hc⟩ := hrow i hi
    exact ⟨b, off, e, hc 0 _ rfl, hc 1 _ rfl, hc 2 _ rfl⟩
  · rcases hel with rfl | ⟨el, sp, e1, e2, e3⟩
    · simp
    · rw [e1] at hr
      have := hr.len Try.underlying40 bytes_Write (by decide)
      rw [e2] at this
      simp only [reachBytes] at this
      refine ⟨by omega, fun x hx => ?_, ?_⟩
      · obtain ⟨i, hi, rfl⟩ := List.getElem_of_mem hx
        obtain ⟨d, hd, hg⟩ := e3 i hi
        simpa [hi] using hg
      · have := bulkAll_len el
        rw [e1]; simp only [Rows.uptoBulk]; omega
/-- what is held -/
theorem trod_Held (h : DataW.trod enc Try.prog w base (fun _ => true) true fuel 42 cs = some y) (hr : InReach 42 y.1) : ∃ x : Hv, cs = hcs x ∧ x.ok w ∧ (0 ≤ x.h.id.1 ∧ x.h.id.1 ≤ 4294967295) ∧ (∀ z ∈ x.h.ws, z.key.size ≤ reachBytes) ∧ x.h.ws.length ≤ Rows.uptoBulk y.1 := by
  obtain ⟨ys, n, _, rfl, hl, hlen, hf⟩ := DataW.trod_struct Try.underlying42 h
  rw [cells_Held] at hl
  obtain ⟨c0, c1, c2, c3, c4, c5, c6, c7, rfl⟩ := list8 hl
  obtain ⟨y0, y1, y2, y3, y4, rfl⟩ := list5 (cs := ys) (by simpa using hlen)
  obtain ⟨a0, a1, e0, w0⟩ := trod_txn (hf 0 _ rfl)
  obtain ⟨a2, e2, _, _⟩ := DataW.trod_int Try.underlying33 (hf 1 _ rfl)
  obtain ⟨a3, a4, a5, e3⟩ := trod_st (hf 2 _ rfl)
  have s6 : ([c0, c1, c2, c3, c4, c5, c6, c7].drop 6).take (Try.prog.cellsOf 39) = [c6] := by rw [cells_spans]; rfl
  have s7 : ([c0, c1, c2, c3, c4, c5, c6, c7].drop 7).take (Try.prog.cellsOf 40) = [c7] := by rw [cells_writes]; rfl
  have g6 : DataW.trod enc Try.prog w base (fun _ => true) true n 39 [c6] = some y3 := by rw [← s6]; exact hf 3 _ rfl
  have g7 : DataW.trod enc Try.prog w base (fun _ => true) true n 40 [c7] = some y4 := by rw [← s7]; exact hf 4 _ rfl
  obtain ⟨ra, rc, rs, rfl, hR, hrl⟩ := Span_cell g6 (InReach.part (ps := [y0.1, y1.1, y2.1, y3.1, y4.1]) hr Try.underlying42 (j := 3) rfl rfl)
  obtain ⟨wa, wc, ws, rfl, hW, hwl, hk, hbk⟩ := Write_cell g7 (InReach.part (ps := [y0.1, y1.1, y2.1, y3.1, y4.1]) hr Try.underlying42 (j := 4) rfl rfl)
  simp [cells_u32, cells_txn, cells_stamp] at e0 e2 e3
  obtain ⟨e0, e1⟩ := e0
  obtain ⟨e3, e4, e5⟩ := e3
  subst e0 e1 e2 e3 e4 e5
  refine ⟨⟨⟨⟨a0, a1⟩, a2, a3, a4, a5, rs, ws⟩, ra, rc, wa, wc⟩, rfl, ⟨hR, hW, hrl, hwl⟩, w0, hk, ?_⟩
  show ws.length ≤ _
  simp only [List.map_cons, List.map_nil, Rows.uptoBulk, Rows.uptoBulkAll]
  omega
end
end Go.Proofs.Ytbgmbbmnnfmbpaa.Lk
