import Derived.Test.YtfdbffadajepfaaGreatB39
/- The openings: records, the law's argument. -/
namespace Go.Proofs.YtfdbffadajepfaaGreat.Ys
open Go.ChangeShapes Go.WideShapes Go.ChangeAt Go.RowKit Go.Deep
set_option linter.unusedVariables false

theorem cells_str : Tryz.prog.cellsOf 9 = 1 := by kernel_rfl
theorem cells_bool : Tryz.prog.cellsOf 4 = 1 := by kernel_rfl
theorem cells_u64 : Tryz.prog.cellsOf 26 = 1 := by kernel_rfl
theorem cells_u32 : Tryz.prog.cellsOf 22 = 1 := by kernel_rfl
theorem cells_kind : Tryz.prog.cellsOf 41 = 1 := by kernel_rfl
theorem cells_outc : Tryz.prog.cellsOf 44 = 1 := by kernel_rfl
theorem cells_txn : Tryz.prog.cellsOf 43 = 2 := by kernel_rfl
theorem cells_stamp : Tryz.prog.cellsOf 28 = 3 := by kernel_rfl
theorem cells_spans : Tryz.prog.cellsOf 45 = 1 := by kernel_rfl
theorem cells_writes : Tryz.prog.cellsOf 46 = 1 := by kernel_rfl
theorem cells_recs : Tryz.prog.cellsOf 23 = 1 := by kernel_rfl
theorem cells_Span : Tryz.prog.cellsOf 25 = 2 := by kernel_rfl
theorem cells_Write : Tryz.prog.cellsOf 97 = 3 := by kernel_rfl
theorem cells_rec : Tryz.prog.cellsOf 48 = 12 := by kernel_rfl
theorem cells_past : Tryz.prog.cellsOf 30 = 8 := by kernel_rfl
theorem bytes_Span : Tryz.prog.bytesOf 25 = 32 := by kernel_rfl
theorem bytes_Write : Tryz.prog.bytesOf 97 = 40 := by kernel_rfl
theorem list2 {α : Type} {cs : List α} (h : cs.length = 2) : ∃ c0 c1, cs = [c0, c1] := by
  match cs, h with
  | [c0, c1], _ => exact ⟨c0, c1, rfl⟩
theorem list3 {α : Type} {cs : List α} (h : cs.length = 3) : ∃ c0 c1 c2, cs = [c0, c1, c2] := by
  match cs, h with
  | [c0, c1, c2], _ => exact ⟨c0, c1, c2, rfl⟩
theorem list5 {α : Type} {cs : List α} (h : cs.length = 5) : ∃ c0 c1 c2 c3 c4, cs = [c0, c1, c2, c3, c4] := by
  match cs, h with
  | [c0, c1, c2, c3, c4], _ => exact ⟨c0, c1, c2, c3, c4, rfl⟩
theorem list8 {α : Type} {cs : List α} (h : cs.length = 8) : ∃ c0 c1 c2 c3 c4 c5 c6 c7, cs = [c0, c1, c2, c3, c4, c5, c6, c7] := by
  match cs, h with
  | [c0, c1, c2, c3, c4, c5, c6, c7], _ => exact ⟨c0, c1, c2, c3, c4, c5, c6, c7, rfl⟩
theorem list9 {α : Type} {cs : List α} (h : cs.length = 9) : ∃ c0 c1 c2 c3 c4 c5 c6 c7 c8, cs = [c0, c1, c2, c3, c4, c5, c6, c7, c8] := by
  match cs, h with
  | [c0, c1, c2, c3, c4, c5, c6, c7, c8], _ => exact ⟨c0, c1, c2, c3, c4, c5, c6, c7, c8, rfl⟩
theorem list12 {α : Type} {cs : List α} (h : cs.length = 12) : ∃ c0 c1 c2 c3 c4 c5 c6 c7 c8 c9 c10 c11, cs = [c0, c1, c2, c3, c4, c5, c6, c7, c8, c9, c10, c11] := by
  match cs, h with
  | [c0, c1, c2, c3, c4, c5, c6, c7, c8, c9, c10, c11], _ => exact ⟨c0, c1, c2, c3, c4, c5, c6, c7, c8, c9, c10, c11, rfl⟩
section
variable {H : Type} {enc : TypeId × Value → H} {w : World} {base : Nat} {fuel : Nat} {cs : List Value} {y : DataW H × List MemPlace}
theorem trod_Span (h : DataW.trod enc Tryz.prog w base (fun _ => true) true fuel 25 cs = some y) : ∃ x : T2, cs = Lk.encS x := by
  obtain ⟨ys, n, _, rfl, hl, hlen, hf⟩ := DataW.trod_struct Tryz.underlying25 h
  rw [cells_Span] at hl
  obtain ⟨c0, c1, rfl⟩ := list2 hl
  obtain ⟨y0, y1, rfl⟩ := list2 (cs := ys) (by simpa using hlen)
  obtain ⟨s0, e0, _, _⟩ := DataW.trod_string Tryz.underlying9 (hf 0 _ rfl)
  obtain ⟨s1, e1, _, _⟩ := DataW.trod_string Tryz.underlying9 (hf 1 _ rfl)
  simp [cells_str] at e0 e1
  subst e0 e1
  exact ⟨(s0, s1), rfl⟩
theorem trod_Write (h : DataW.trod enc Tryz.prog w base (fun _ => true) true fuel 97 cs = some y) : ∃ x : Wr, cs = Lk.encW x := by
  obtain ⟨ys, n, _, rfl, hl, hlen, hf⟩ := DataW.trod_struct Tryz.underlying97 h
  rw [cells_Write] at hl
  obtain ⟨c0, c1, c2, rfl⟩ := list3 hl
  obtain ⟨y0, y1, y2, rfl⟩ := list3 (cs := ys) (by simpa using hlen)
  obtain ⟨s0, e0, _, _⟩ := DataW.trod_string Tryz.underlying9 (hf 0 _ rfl)
  obtain ⟨b1, e1, _⟩ := DataW.trod_bool Tryz.underlying4 (hf 1 _ rfl)
  obtain ⟨s2, e2, _, _⟩ := DataW.trod_string Tryz.underlying9 (hf 2 _ rfl)
  simp [cells_str, cells_bool] at e0 e1 e2
  subst e0 e1 e2
  exact ⟨⟨s0, b1, s2⟩, rfl⟩
theorem trod_txn (h : DataW.trod enc Tryz.prog w base (fun _ => true) true fuel 43 cs = some y) : ∃ a b : Int, cs = [.int .u32 a, .int .u32 b] ∧ 0 ≤ b := by
  obtain ⟨ys, n, _, rfl, hl, hlen, hf⟩ := DataW.trod_struct Tryz.underlying43 h
  rw [cells_txn] at hl
  obtain ⟨c0, c1, rfl⟩ := list2 hl
  obtain ⟨y0, y1, rfl⟩ := list2 (cs := ys) (by simpa using hlen)
  obtain ⟨s0, e0, _, _⟩ := DataW.trod_int Tryz.underlying22 (hf 0 _ rfl)
  obtain ⟨s1, e1, _, w1⟩ := DataW.trod_int Tryz.underlying22 (hf 1 _ rfl)
  simp [cells_u32] at e0 e1
  subst e0 e1
  exact ⟨s0, s1, rfl, (bounds_u32 w1).1⟩
theorem trod_st (h : DataW.trod enc Tryz.prog w base (fun _ => true) true fuel 28 cs = some y) : ∃ t : Vs.Sp, cs = [.int .u64 t.a, .int .u32 t.b, .int .u32 t.c] ∧ OkS t := by
  obtain ⟨ys, n, _, rfl, hl, hlen, hf⟩ := DataW.trod_struct Tryz.underlying28 h
  rw [cells_stamp] at hl
  obtain ⟨c0, c1, c2, rfl⟩ := list3 hl
  obtain ⟨y0, y1, y2, rfl⟩ := list3 (cs := ys) (by simpa using hlen)
  obtain ⟨s0, e0, _, w0⟩ := DataW.trod_int Tryz.underlying26 (hf 0 _ rfl)
  obtain ⟨s1, e1, _, w1⟩ := DataW.trod_int Tryz.underlying22 (hf 1 _ rfl)
  obtain ⟨s2, e2, _, w2⟩ := DataW.trod_int Tryz.underlying22 (hf 2 _ rfl)
  simp [cells_u32, cells_u64] at e0 e1 e2
  subst e0 e1 e2
  exact ⟨⟨s0, s1, s2⟩, rfl, bounds_u64 w0, bounds_u32 w1, bounds_u32 w2⟩
theorem Span_cell {v : Value} (hf : DataW.trod enc Tryz.prog w base (fun _ => true) true fuel 45 [v] = some y) (hr : InReach 45 y.1) :
    ∃ (a : Option Addr) (cap : Nat) (xs : List T2), v = .slice a xs.length cap ∧ Row2 w a xs ∧ xs.length + 1 ≤ 8796093022208 := by
  obtain ⟨a, cap, xs, rfl, _, _, hrow, hel⟩ := open_rows Tryz.underlying45 cells_Span (by decide) ((⟨#[]⟩, ⟨#[]⟩) : T2) Lk.encS (fun _ _ => True) (fun _ _ _ h _ => by obtain ⟨x, e⟩ := trod_Span h; exact ⟨x, e, trivial⟩) hf hr
  refine ⟨a, cap, xs, rfl, fun i hi => ?_, ?_⟩
  · obtain ⟨b, off, e, hc⟩ := hrow i hi
    exact ⟨b, off, e, hc 0 _ rfl, hc 1 _ rfl⟩
  · rcases hel with rfl | ⟨el, sp, e1, e2, _⟩
    · simp
    · rw [e1] at hr
      have := hr.len Tryz.underlying45 bytes_Span (by decide)
      rw [e2] at this
      simp only [reachBytes] at this
      omega
theorem Write_cell {v : Value} (hf : DataW.trod enc Tryz.prog w base (fun _ => true) true fuel 46 [v] = some y) (hr : InReach 46 y.1) :
    ∃ (a : Option Addr) (cap : Nat) (xs : List Wr), v = .slice a xs.length cap ∧ RowW w a xs ∧ xs.length + 1 ≤ 7036874417766 := by
  obtain ⟨a, cap, xs, rfl, _, _, hrow, hel⟩ := open_rows Tryz.underlying46 cells_Write (by decide) (⟨⟨#[]⟩, false, ⟨#[]⟩⟩ : Wr) Lk.encW (fun _ _ => True) (fun _ _ _ h _ => by obtain ⟨x, e⟩ := trod_Write h; exact ⟨x, e, trivial⟩) hf hr
  refine ⟨a, cap, xs, rfl, fun i hi => ?_, ?_⟩
  · obtain ⟨b, off, e, hc⟩ := hrow i hi
    exact ⟨b, off, e, hc 0 _ rfl, hc 1 _ rfl, hc 2 _ rfl⟩
  · rcases hel with rfl | ⟨el, sp, e1, e2, _⟩
    · simp
    · rw [e1] at hr
      have := hr.len Tryz.underlying46 bytes_Write (by decide)
      rw [e2] at this
      simp only [reachBytes] at this
      omega
set_option maxRecDepth 100000 in
theorem trod_Rec (h : DataW.trod enc Tryz.prog w base (fun _ => true) true fuel 48 cs = some y) (hr : InReach 48 y.1) : ∃ r : Rg, cs = rcs r ∧ RgA w r := by
  obtain ⟨ys, n, _, rfl, hl, hlen, hfld⟩ := DataW.trod_struct Tryz.underlying48 h
  rw [cells_rec] at hl
  obtain ⟨c0, c1, c2, c3, c4, c5, c6, c7, c8, c9, c10, c11, rfl⟩ := list12 hl
  obtain ⟨y0, y1, y2, y3, y4, y5, y6, y7, y8, rfl⟩ := list9 (cs := ys) (by simpa using hlen)
  obtain ⟨a0, e0, _, _⟩ := DataW.trod_int Tryz.underlying41 (hfld 0 _ rfl)
  obtain ⟨a1, e1, _, w1⟩ := DataW.trod_int Tryz.underlying26 (hfld 1 _ rfl)
  obtain ⟨a2, a3, e2, ht⟩ := trod_txn (hfld 2 _ rfl)
  obtain ⟨a4, e4, _, _⟩ := DataW.trod_int Tryz.underlying22 (hfld 3 _ rfl)
  obtain ⟨a5, e5, _, _⟩ := DataW.trod_int Tryz.underlying44 (hfld 4 _ rfl)
  obtain ⟨t, e6, hst⟩ := trod_st (hfld 5 _ rfl)
  obtain ⟨s8, e8, _, _⟩ := DataW.trod_string Tryz.underlying9 (hfld 8 _ rfl)
  have s6 : ([c0, c1, c2, c3, c4, c5, c6, c7, c8, c9, c10, c11].drop 9).take (Tryz.prog.cellsOf 45) = [c9] := by rw [cells_spans]; rfl
  have s7 : ([c0, c1, c2, c3, c4, c5, c6, c7, c8, c9, c10, c11].drop 10).take (Tryz.prog.cellsOf 46) = [c10] := by rw [cells_writes]; rfl
  have g6 : DataW.trod enc Tryz.prog w base (fun _ => true) true n 45 [c9] = some y6 := by rw [← s6]; exact hfld 6 _ rfl
  have g7 : DataW.trod enc Tryz.prog w base (fun _ => true) true n 46 [c10] = some y7 := by rw [← s7]; exact hfld 7 _ rfl
  obtain ⟨ra, rc, rs, rfl, hR, hrl⟩ := Span_cell g6 (InReach.part (ps := [y0.1, y1.1, y2.1, y3.1, y4.1, y5.1, y6.1, y7.1, y8.1]) hr Tryz.underlying48 (j := 6) rfl rfl)
  obtain ⟨wa, wc, ws, rfl, hW, hwl⟩ := Write_cell g7 (InReach.part (ps := [y0.1, y1.1, y2.1, y3.1, y4.1, y5.1, y6.1, y7.1, y8.1]) hr Tryz.underlying48 (j := 7) rfl rfl)
  simp [cells_kind, cells_u64, cells_u32, cells_outc, cells_txn, cells_stamp, cells_str] at e0 e1 e2 e4 e5 e6 e8
  obtain ⟨e2, e3⟩ := e2
  obtain ⟨e6, e7, e9⟩ := e6
  subst e0 e1 e2 e3 e4 e5 e6 e7 e8 e9
  exact ⟨⟨a0, a1, a2, a3, a4, a5, t.a, t.b, t.c, ra, rs, rc, wa, ws, wc, s8⟩, rfl, ⟨hR, hW, by show rs.length ≤ _; omega, by show ws.length ≤ _; omega, ht, hst.a⟩, ⟨bounds_u64 w1, hst⟩, hrl, hwl⟩
theorem Rec_cell {v : Value} (hf : DataW.trod enc Tryz.prog w base (fun _ => true) true fuel 23 [v] = some y) (hr : InReach 23 y.1) (hk : Rows.uptoBulk y.1 ≤ 1048576) :
    ∃ (a : Option Addr) (cap : Nat) (xs : List Rg), v = .slice a xs.length cap ∧ RowG w a xs ∧ xs.length ≤ 1048576 := by
  obtain ⟨a, cap, xs, rfl, _, _, hrow, hel⟩ := open_rows Tryz.underlying23 cells_rec (by decide) Rg.zero rcs (fun r _ => RgA w r) (fun _ _ _ h k => trod_Rec h k) hf hr
  refine ⟨a, cap, xs, rfl, fun i r hr' => ?_, ?_⟩
  · have hi : i < xs.length := (List.getElem?_eq_some_iff.1 hr').1
    obtain ⟨b, off, e, hc⟩ := hrow i hi
    rw [hr'] at hc
    refine ⟨⟨b, off, e, hc 0 _ rfl, hc 1 _ rfl, hc 2 _ rfl, hc 3 _ rfl, hc 4 _ rfl, hc 5 _ rfl, hc 6 _ rfl, hc 7 _ rfl, hc 8 _ rfl, hc 9 _ rfl, hc 10 _ rfl, hc 11 _ rfl⟩, ?_⟩
    rcases hel with rfl | ⟨el, sp, _, _, e3⟩
    · simp at hi
    · obtain ⟨d, _, hg⟩ := e3 i hi
      rw [hr'] at hg
      exact hg
  · rcases hel with rfl | ⟨el, sp, e1, e2, _⟩
    · simp
    · rw [e1] at hk
      have h1 := bulkAll_len el
      simp only [Rows.uptoBulk] at hk
      omega
end
set_option maxRecDepth 100000 in
theorem open_past {H : Type} {enc : TypeId × Value → H} {W : World} {r : Reach} {b : Nat} {v : Value} {d : DataW H} {p : List MemPlace}
    (hv : Value.okWide Tryz.prog W r b 30 v) (h : DataW.Trod enc Tryz.prog W 0 (fun _ => true) true 30 v d p) (hk : Rows.uptoBulk d ≤ 1048576) :
    ∃ x : Pa, v = x.val ∧ RowG W x.la x.ls ∧ x.ls.length ≤ 1048576 ∧ RowG W x.ya x.ys ∧ x.ys.length ≤ 1048576 ∧ OkS x.t := by
  obtain ⟨cs, rfl, hs⟩ := okWide_struct Tryz.underlying30 hv
  obtain ⟨fuel, hf⟩ := h
  obtain ⟨ys, n, hfu, hd, hl, hlen, hfld⟩ := DataW.trod_struct Tryz.underlying30 hf
  rw [cells_past] at hl
  obtain ⟨cs⟩ := cs
  simp only [Value.cells] at hl hfld
  obtain ⟨c0, c1, c2, c3, c4, c5, c6, c7, rfl⟩ := list8 hl
  obtain ⟨y0, y1, y2, y3, y4, rfl⟩ := list5 (cs := ys) (by simpa using hlen)
  have hd1 : d = .agg [y0.1, y1.1, y2.1, y3.1, y4.1] := by injection hd
  rw [hd1] at hk
  simp only [Rows.uptoBulk, Rows.uptoBulkAll] at hk
  obtain ⟨a0, e0, _, _⟩ := DataW.trod_int Tryz.underlying22 (hfld 0 _ rfl)
  obtain ⟨s2, e2⟩ := trod_Span (hfld 2 _ rfl)
  obtain ⟨t, e3, ht⟩ := trod_st (hfld 3 _ rfl)
  have s1 : ([c0, c1, c2, c3, c4, c5, c6, c7].drop 1).take (Tryz.prog.cellsOf 23) = [c1] := by rw [cells_recs]; rfl
  have s4 : ([c0, c1, c2, c3, c4, c5, c6, c7].drop 7).take (Tryz.prog.cellsOf 23) = [c7] := by rw [cells_recs]; rfl
  have g1 : DataW.trod enc Tryz.prog W 0 (fun _ => true) true n 23 [c1] = some y1 := by rw [← s1]; exact hfld 1 _ rfl
  have g4 : DataW.trod enc Tryz.prog W 0 (fun _ => true) true n 23 [c7] = some y4 := by rw [← s4]; exact hfld 4 _ rfl
  have k1 : Rows.uptoBulk y1.1 ≤ 1048576 := by omega
  have k4 : Rows.uptoBulk y4.1 ≤ 1048576 := by omega
  obtain ⟨la, lc, ls, rfl, hL, hll⟩ := Rec_cell g1 (.inr k1) k1
  obtain ⟨ya, yc, yl, rfl, hY, hyl⟩ := Rec_cell g4 (.inr k4) k4
  simp [cells_u32, cells_Span, cells_stamp] at e0 e2 e3
  obtain ⟨e2, e4⟩ := e2
  obtain ⟨e3, e5, e6⟩ := e3
  subst e0 e2 e3 e4 e5 e6
  exact ⟨⟨a0, la, ls, lc, s2.1, s2.2, t, ya, yl, yc⟩, rfl, hL, hll, hY, hyl, ht⟩
end Go.Proofs.YtfdbffadajepfaaGreat.Ys
