import Derived.Test.YtneojeidpfjpbaaGreatDoorStateFreshC04
import Derived.Deep.DeepWitnessRowRef
import Derived.Lib.LaidTab
import Derived.LaidLaws
set_option linter.unusedVariables false
namespace Go.Proofs.YtneojeidpfjpbaaGreatDoor.Ig
open Ys Go.ChangeShapes Go.WideShapes Go.ChangeAt Go.RowKit Go.Deep
abbrev rcs (m : Rg) : List Value := [.int .i64 m.k, .int .u64 m.x, .int .u32 m.c, .int .u32 m.s, .int .u32 m.h, .int .i64 m.oc, .int .u64 m.w, .int .u32 m.l, .int .u32 m.n, .slice m.ra m.rs.length m.rc, .slice m.wa m.ws.length m.wc, .string m.im]
theorem cells_str : Tryz.prog.cellsOf 9 = 1 := by kernel_rfl
theorem cells_bool : Tryz.prog.cellsOf 4 = 1 := by kernel_rfl
theorem cells_u64 : Tryz.prog.cellsOf 26 = 1 := by kernel_rfl
theorem cells_u32 : Tryz.prog.cellsOf 22 = 1 := by kernel_rfl
theorem cells_kind : Tryz.prog.cellsOf 36 = 1 := by kernel_rfl
theorem cells_outc : Tryz.prog.cellsOf 39 = 1 := by kernel_rfl
theorem cells_txn : Tryz.prog.cellsOf 38 = 2 := by kernel_rfl
theorem cells_stamp : Tryz.prog.cellsOf 28 = 3 := by kernel_rfl
theorem cells_spans : Tryz.prog.cellsOf 40 = 1 := by kernel_rfl
theorem cells_writes : Tryz.prog.cellsOf 41 = 1 := by kernel_rfl
theorem cells_recs : Tryz.prog.cellsOf 23 = 1 := by kernel_rfl
theorem cells_Span : Tryz.prog.cellsOf 25 = 2 := by kernel_rfl
theorem cells_Write : Tryz.prog.cellsOf 103 = 3 := by kernel_rfl
theorem cells_rec : Tryz.prog.cellsOf 43 = 12 := by kernel_rfl
theorem cells_past : Tryz.prog.cellsOf 30 = 8 := by kernel_rfl
theorem bytes_Span : Tryz.prog.bytesOf 25 = 32 := by kernel_rfl
theorem bytes_Write : Tryz.prog.bytesOf 103 = 40 := by kernel_rfl
theorem list2 {α : Type} {cs : List α} (h : cs.length = 2) : ∃ c0 c1, cs = [c0, c1] := by
 match cs, h with
 | [c0, c1], _ => exact ⟨c0, c1, rfl⟩
theorem list3 {α : Type} {cs : List α} (h : cs.length = 3) : ∃ c0 c1 c2, cs = [c0, c1, c2] := by
 match cs, h with
 | [c0, c1, c2], _ => exact ⟨c0, c1, c2, rfl⟩
theorem list5 {α : Type} {cs : List α} (h : cs.length = 5) : ∃ c0 c1 c2 c3 c4, cs = [c0, c1, c2, c3, c4] := by
 match cs, h with
 | [c0, c1, c2, c3, c4], _ => exact ⟨c0, c1, c2, c3, c4, rfl⟩
theorem list8 {α : Type} {cs : List α} (h : cs.length = 8) : ∃ c0 c1 c2 c3 c4 c5 c6 c7, cs = [c0, c1, c2, c3, c4, c5, c6, c7] := by
 match cs, h with
 | [c0, c1, c2, c3, c4, c5, c6, c7], _ => exact ⟨c0, c1, c2, c3, c4, c5, c6, c7, rfl⟩
theorem bulk_mem {H : Type} : ∀ {l : List (DataW H)} {i : Nat} {d : DataW H}, l[i]? = some d → Rows.uptoBulk d ≤ Rows.uptoBulkAll l
 | [], _, _, h => by simp at h
 | x :: l, 0, d, h => by
  have : x = d := by simpa using h
  rw [← this]; simp only [Rows.uptoBulkAll]; omega
 | x :: l, i + 1, d, h => by
  have := bulk_mem (l := l) (i := i) (d := d) (by simpa using h); simp only [Rows.uptoBulkAll]; omega
theorem list9 {α : Type} {cs : List α} (h : cs.length = 9) : ∃ c0 c1 c2 c3 c4 c5 c6 c7 c8, cs = [c0, c1, c2, c3, c4, c5, c6, c7, c8] := by
 match cs, h with
 | [c0, c1, c2, c3, c4, c5, c6, c7, c8], _ => exact ⟨c0, c1, c2, c3, c4, c5, c6, c7, c8, rfl⟩
theorem list12 {α : Type} {cs : List α} (h : cs.length = 12) : ∃ c0 c1 c2 c3 c4 c5 c6 c7 c8 c9 c10 c11, cs = [c0, c1, c2, c3, c4, c5, c6, c7, c8, c9, c10, c11] := by
 match cs, h with
 | [c0, c1, c2, c3, c4, c5, c6, c7, c8, c9, c10, c11], _ => exact ⟨c0, c1, c2, c3, c4, c5, c6, c7, c8, c9, c10, c11, rfl⟩
section
variable {H : Type} {enc : TypeId × Value → H} {w : World} {base : Nat} {fuel : Nat} {cs : List Value} {y : DataW H × List MemPlace}
theorem trod_Span (h : DataW.trod enc Tryz.prog w base (fun _ => true) true fuel 25 cs = some y) : ∃ x : T2, cs = Lk.encS x := by
 obtain ⟨ys, n, _, rfl, hl, hlen, hf⟩ := DataW.trod_struct Tryz.underlying25 h; rw [cells_Span] at hl; obtain ⟨c0, c1, rfl⟩ := list2 hl; obtain ⟨y0, y1, rfl⟩ := list2 (cs := ys) (by simpa using hlen); obtain ⟨s0, e0, _, _⟩ := DataW.trod_string Tryz.underlying9 (hf 0 _ rfl); obtain ⟨s1, e1, _, _⟩ := DataW.trod_string Tryz.underlying9 (hf 1 _ rfl); simp [cells_str] at e0 e1; subst e0 e1; exact ⟨(s0, s1), rfl⟩
theorem trod_Write (h : DataW.trod enc Tryz.prog w base (fun _ => true) true fuel 103 cs = some y) : ∃ x : Wr, cs = Lk.encW x := by
 obtain ⟨ys, n, _, rfl, hl, hlen, hf⟩ := DataW.trod_struct Tryz.underlying103 h; rw [cells_Write] at hl; obtain ⟨c0, c1, c2, rfl⟩ := list3 hl; obtain ⟨y0, y1, y2, rfl⟩ := list3 (cs := ys) (by simpa using hlen); obtain ⟨s0, e0, _, _⟩ := DataW.trod_string Tryz.underlying9 (hf 0 _ rfl); obtain ⟨b1, e1, _⟩ := DataW.trod_bool Tryz.underlying4 (hf 1 _ rfl); obtain ⟨s2, e2, _, _⟩ := DataW.trod_string Tryz.underlying9 (hf 2 _ rfl); simp [cells_str, cells_bool] at e0 e1 e2; subst e0 e1 e2; exact ⟨⟨s0, b1, s2⟩, rfl⟩
theorem trod_txn (h : DataW.trod enc Tryz.prog w base (fun _ => true) true fuel 38 cs = some y) : ∃ a b : Int, cs = [.int .u32 a, .int .u32 b] ∧ okU 4294967295 a ∧ okU 4294967295 b := by
 obtain ⟨ys, n, _, rfl, hl, hlen, hf⟩ := DataW.trod_struct Tryz.underlying38 h; rw [cells_txn] at hl; obtain ⟨c0, c1, rfl⟩ := list2 hl; obtain ⟨y0, y1, rfl⟩ := list2 (cs := ys) (by simpa using hlen); obtain ⟨s0, e0, _, w0⟩ := DataW.trod_int Tryz.underlying22 (hf 0 _ rfl); obtain ⟨s1, e1, _, w1⟩ := DataW.trod_int Tryz.underlying22 (hf 1 _ rfl); simp [cells_u32] at e0 e1; subst e0 e1; exact ⟨s0, s1, rfl, bounds_u32 w0, bounds_u32 w1⟩
theorem trod_st (h : DataW.trod enc Tryz.prog w base (fun _ => true) true fuel 28 cs = some y) : ∃ t : Vs.Sp, cs = [.int .u64 t.a, .int .u32 t.b, .int .u32 t.c] ∧ OkS t ∧ 4 ≤ Rows.uptoBulk y.1 := by
 obtain ⟨ys, n, _, rfl, hl, hlen, hf⟩ := DataW.trod_struct Tryz.underlying28 h; rw [cells_stamp] at hl; obtain ⟨c0, c1, c2, rfl⟩ := list3 hl; obtain ⟨y0, y1, y2, rfl⟩ := list3 (cs := ys) (by simpa using hlen); obtain ⟨s0, e0, _, w0⟩ := DataW.trod_int Tryz.underlying26 (hf 0 _ rfl); obtain ⟨s1, e1, _, w1⟩ := DataW.trod_int Tryz.underlying22 (hf 1 _ rfl); obtain ⟨s2, e2, _, w2⟩ := DataW.trod_int Tryz.underlying22 (hf 2 _ rfl); simp [cells_u32, cells_u64] at e0 e1 e2; subst e0 e1 e2; refine ⟨⟨s0, s1, s2⟩, rfl, ⟨bounds_u64 w0, bounds_u32 w1, bounds_u32 w2⟩, ?_⟩; have h0 := bulk_pos y0.1; have h1 := bulk_pos y1.1; have h2 := bulk_pos y2.1; simp only [List.map_cons, List.map_nil, Rows.uptoBulk, Rows.uptoBulkAll]; omega
theorem Span_cell {v : Value} (hf : DataW.trod enc Tryz.prog w base (fun _ => true) true fuel 40 [v] = some y) (hr : InReach 40 y.1) :
  ∃ (a : Option Addr) (cap : Nat) (xs : List T2), v = .slice a xs.length cap ∧ Row2 w a xs ∧ xs.length + 1 ≤ 8796093022208 ∧ xs.length ≤ Rows.uptoBulk y.1 := by
 obtain ⟨a, cap, xs, rfl, _, _, hrow, hel⟩ := open_rows Tryz.underlying40 cells_Span (by decide) ((⟨#[]⟩, ⟨#[]⟩) : T2) Lk.encS (fun _ _ => True) (fun _ _ _ h _ => by obtain ⟨x, e⟩ := trod_Span h; exact ⟨x, e, trivial⟩) hf hr; refine ⟨a, cap, xs, rfl, fun i hi => ?_, ?_, ?_⟩; rotate_right
 ·rcases hel with rfl | ⟨el, sp, e1, e2, _⟩
  ·simp
  ·have := bulkAll_len el; rw [e1]; simp only [Rows.uptoBulk]; omega
 ·obtain ⟨b, off, e, hc⟩ := hrow i hi; exact ⟨b, off, e, hc 0 _ rfl, hc 1 _ rfl⟩
 ·rcases hel with rfl | ⟨el, sp, e1, e2, _⟩
  ·simp
  ·rw [e1] at hr; have := hr.len Tryz.underlying40 bytes_Span (by decide); rw [e2] at this; simp only [reachBytes] at this; omega
theorem Write_cell {v : Value} (hf : DataW.trod enc Tryz.prog w base (fun _ => true) true fuel 41 [v] = some y) (hr : InReach 41 y.1) :
  ∃ (a : Option Addr) (cap : Nat) (xs : List Wr), v = .slice a xs.length cap ∧ RowW w a xs ∧ xs.length + 1 ≤ 7036874417766 ∧ xs.length ≤ Rows.uptoBulk y.1 := by
 obtain ⟨a, cap, xs, rfl, _, _, hrow, hel⟩ := open_rows Tryz.underlying41 cells_Write (by decide) (⟨⟨#[]⟩, false, ⟨#[]⟩⟩ : Wr) Lk.encW (fun _ _ => True) (fun _ _ _ h _ => by obtain ⟨x, e⟩ := trod_Write h; exact ⟨x, e, trivial⟩) hf hr; refine ⟨a, cap, xs, rfl, fun i hi => ?_, ?_, ?_⟩; rotate_right
 ·rcases hel with rfl | ⟨el, sp, e1, e2, _⟩
  ·simp
  ·have := bulkAll_len el; rw [e1]; simp only [Rows.uptoBulk]; omega
 ·obtain ⟨b, off, e, hc⟩ := hrow i hi; exact ⟨b, off, e, hc 0 _ rfl, hc 1 _ rfl, hc 2 _ rfl⟩
 ·rcases hel with rfl | ⟨el, sp, e1, e2, _⟩
  ·simp
  ·rw [e1] at hr; have := hr.len Tryz.underlying41 bytes_Write (by decide); rw [e2] at this; simp only [reachBytes] at this; omega
set_option maxRecDepth 100000 in
theorem trod_Rec (h : DataW.trod enc Tryz.prog w base (fun _ => true) true fuel 43 cs = some y) (hr : InReach 43 y.1) : ∃ r : Rg, cs = rcs r ∧ RgL w r ∧ 13 ≤ Rows.uptoBulk y.1 ∧ r.rs.length ≤ Rows.uptoBulk y.1 ∧ r.ws.length ≤ Rows.uptoBulk y.1 := by
 obtain ⟨ys, n, _, rfl, hl, hlen, hfld⟩ := DataW.trod_struct Tryz.underlying43 h; rw [cells_rec] at hl; obtain ⟨c0, c1, c2, c3, c4, c5, c6, c7, c8, c9, c10, c11, rfl⟩ := list12 hl; obtain ⟨y0, y1, y2, y3, y4, y5, y6, y7, y8, rfl⟩ := list9 (cs := ys) (by simpa using hlen); obtain ⟨a0, e0, _, _⟩ := DataW.trod_int Tryz.underlying36 (hfld 0 _ rfl); obtain ⟨a1, e1, _, w1⟩ := DataW.trod_int Tryz.underlying26 (hfld 1 _ rfl); obtain ⟨a2, a3, e2, hc, hs⟩ := trod_txn (hfld 2 _ rfl); obtain ⟨a4, e4, _, w4⟩ := DataW.trod_int Tryz.underlying22 (hfld 3 _ rfl); obtain ⟨a5, e5, _, _⟩ := DataW.trod_int Tryz.underlying39 (hfld 4 _ rfl); obtain ⟨t, e6, hst, hb5⟩ := trod_st (hfld 5 _ rfl); obtain ⟨s8, e8, _, _⟩ := DataW.trod_string Tryz.underlying9 (hfld 8 _ rfl); have s6 : ([c0, c1, c2, c3, c4, c5, c6, c7, c8, c9, c10, c11].drop 9).take (Tryz.prog.cellsOf 40) = [c9] := by rw [cells_spans]; rfl
 have s7 : ([c0, c1, c2, c3, c4, c5, c6, c7, c8, c9, c10, c11].drop 10).take (Tryz.prog.cellsOf 41) = [c10] := by rw [cells_writes]; rfl
 have g6 : DataW.trod enc Tryz.prog w base (fun _ => true) true n 40 [c9] = some y6 := by rw [← s6]; exact hfld 6 _ rfl
 have g7 : DataW.trod enc Tryz.prog w base (fun _ => true) true n 41 [c10] = some y7 := by rw [← s7]; exact hfld 7 _ rfl
 obtain ⟨ra, rc, rs, rfl, hR, hrl, hrb⟩ := Span_cell g6 (InReach.part (ps := [y0.1, y1.1, y2.1, y3.1, y4.1, y5.1, y6.1, y7.1, y8.1]) hr Tryz.underlying43 (j := 6) rfl rfl); obtain ⟨wa, wc, ws, rfl, hW, hwl, hwb⟩ := Write_cell g7 (InReach.part (ps := [y0.1, y1.1, y2.1, y3.1, y4.1, y5.1, y6.1, y7.1, y8.1]) hr Tryz.underlying43 (j := 7) rfl rfl); have HBK : 13 ≤ Rows.uptoBulk (DataW.agg [y0.1, y1.1, y2.1, y3.1, y4.1, y5.1, y6.1, y7.1, y8.1]) := by
  have h0 := bulk_pos y0.1; have h1 := bulk_pos y1.1; have h2 := bulk_pos y2.1; have h3 := bulk_pos y3.1; have h4 := bulk_pos y4.1; have h6 := bulk_pos y6.1; have h7 := bulk_pos y7.1; have h8 := bulk_pos y8.1; simp only [Rows.uptoBulk, Rows.uptoBulkAll]; omega
 have HLR : rs.length ≤ Rows.uptoBulk (DataW.agg [y0.1, y1.1, y2.1, y3.1, y4.1, y5.1, y6.1, y7.1, y8.1]) ∧ ws.length ≤ Rows.uptoBulk (DataW.agg [y0.1, y1.1, y2.1, y3.1, y4.1, y5.1, y6.1, y7.1, y8.1]) := by
  simp only [Rows.uptoBulk, Rows.uptoBulkAll]; omega
 simp [cells_kind, cells_u64, cells_u32, cells_outc, cells_txn, cells_stamp, cells_str] at e0 e1 e2 e4 e5 e6 e8; obtain ⟨e2, e3⟩ := e2; obtain ⟨e6, e7, e9⟩ := e6; subst e0 e1 e2 e3 e4 e5 e6 e7 e8 e9; exact ⟨⟨a0, a1, a2, a3, a4, a5, t.a, t.b, t.c, ra, rs, rc, wa, ws, wc, s8⟩, rfl, ⟨⟨hR, hW, by show rs.length ≤ _; omega, by show ws.length ≤ _; omega, hs.1, hst.a⟩, ⟨bounds_u64 w1, hst⟩, ⟨hc, hs, bounds_u32 w4⟩, hrl, hwl⟩, HBK, HLR⟩
theorem sum_const {α : Type} (c : Nat) : ∀ l : List α, (l.map (fun _ => c)).sum = c * l.length
 | [] => by simp
 | x :: l => by
  have := sum_const c l; rw [List.map_cons, List.sum_cons, List.length_cons, Nat.mul_add, this]; omega
theorem Rec_cell {v : Value} (hf : DataW.trod enc Tryz.prog w base (fun _ => true) true fuel 23 [v] = some y) (hr : InReach 23 y.1) (hk : Rows.uptoBulk y.1 ≤ 1048576) :
  ∃ (a : Option Addr) (cap : Nat) (xs : List Rg), v = .slice a xs.length cap ∧ RowL w a xs ∧ xs.length ≤ 92000 ∧ ∀ r ∈ xs, r.rs.length ≤ 1048576 ∧ r.ws.length ≤ 1048576 := by
 obtain ⟨a, cap, xs, rfl, _, _, hrow, hel⟩ := open_rows Tryz.underlying23 cells_rec (by decide) Rg.zero rcs (fun r d => RgL w r ∧ 13 ≤ Rows.uptoBulk d ∧ r.rs.length ≤ Rows.uptoBulk d ∧ r.ws.length ≤ Rows.uptoBulk d) (fun _ _ _ h k => trod_Rec h k) hf hr; refine ⟨a, cap, xs, rfl, fun i r hr' => ?_, ?_, ?_⟩; rotate_right
 ·intro r hr; rcases hel with rfl | ⟨el, sp, e1, e2, e3⟩
  ·cases hr
  ·obtain ⟨i, hi, e⟩ := List.getElem_of_mem hr; obtain ⟨d, hd, hg⟩ := e3 i hi; have hx : xs[i]? = some r := by rw [← e]; exact List.getElem?_eq_getElem hi
   rw [hx] at hg; have h1 := bulk_mem hd; rw [e1] at hk; simp only [Rows.uptoBulk] at hk; have h2 : r.rs.length ≤ Rows.uptoBulk d ∧ r.ws.length ≤ Rows.uptoBulk d := hg.2.2; omega
 ·have hi : i < xs.length := (List.getElem?_eq_some_iff.1 hr').1; obtain ⟨b, off, e, hc⟩ := hrow i hi; rw [hr'] at hc; refine ⟨⟨b, off, e, hc 0 _ rfl, hc 1 _ rfl, hc 2 _ rfl, hc 3 _ rfl, hc 4 _ rfl, hc 5 _ rfl, hc 6 _ rfl, hc 7 _ rfl, hc 8 _ rfl, hc 9 _ rfl, hc 10 _ rfl, hc 11 _ rfl⟩, ?_⟩; rcases hel with rfl | ⟨el, sp, _, _, e3⟩
  ·simp at hi
  ·obtain ⟨d, _, hg⟩ := e3 i hi; rw [hr'] at hg; exact hg.1
 ·rcases hel with rfl | ⟨el, sp, e1, e2, e3⟩
  ·simp
  ·rw [e1] at hk; have h1 := bulkAll_sum Rg.zero (fun _ => 13) (el := el) (xs := xs) e2 (fun i hi => by
    obtain ⟨d, hd, hg⟩ := e3 i hi; exact ⟨d, hd, hg.2.1⟩)
   rw [sum_const] at h1; simp only [Rows.uptoBulk] at hk; omega
end
set_option maxRecDepth 100000 in
theorem open_px {H : Type} {enc : TypeId × Value → H} {W : World} {r : Reach} {b : Nat} {v : Value} {d : DataW H} {p : List MemPlace}
  (hv : Value.okWide Tryz.prog W r b 30 v) (h : DataW.Trod enc Tryz.prog W 0 (fun _ => true) true 30 v d p) (hk : Rows.uptoBulk d ≤ 1048576) :
  ∃ x : Px, v = x.val ∧ RowL W x.la x.ls ∧ x.ls.length ≤ 92000 ∧ okU 4294967295 x.node ∧ ∀ r ∈ x.ls, r.rs.length ≤ 1048576 ∧ r.ws.length ≤ 1048576 := by
 obtain ⟨cs, rfl, hs⟩ := okWide_struct Tryz.underlying30 hv; obtain ⟨fuel, hf⟩ := h; obtain ⟨ys, n, hfu, hd, hl, hlen, hfld⟩ := DataW.trod_struct Tryz.underlying30 hf; rw [cells_past] at hl; obtain ⟨cs⟩ := cs; simp only [Value.cells] at hl hfld; obtain ⟨c0, c1, c2, c3, c4, c5, c6, c7, rfl⟩ := list8 hl; obtain ⟨y0, y1, y2, y3, y4, rfl⟩ := list5 (cs := ys) (by simpa using hlen); have hd1 : d = .agg [y0.1, y1.1, y2.1, y3.1, y4.1] := by injection hd
 rw [hd1] at hk; simp only [Rows.uptoBulk, Rows.uptoBulkAll] at hk; obtain ⟨a0, e0, _, w0⟩ := DataW.trod_int Tryz.underlying22 (hfld 0 _ rfl); obtain ⟨s2, e2⟩ := trod_Span (hfld 2 _ rfl); obtain ⟨t, e3, ht, _⟩ := trod_st (hfld 3 _ rfl); have s1 : ([c0, c1, c2, c3, c4, c5, c6, c7].drop 1).take (Tryz.prog.cellsOf 23) = [c1] := by rw [cells_recs]; rfl
 have s4 : ([c0, c1, c2, c3, c4, c5, c6, c7].drop 7).take (Tryz.prog.cellsOf 23) = [c7] := by rw [cells_recs]; rfl
 have g1 : DataW.trod enc Tryz.prog W 0 (fun _ => true) true n 23 [c1] = some y1 := by rw [← s1]; exact hfld 1 _ rfl
 have g4 : DataW.trod enc Tryz.prog W 0 (fun _ => true) true n 23 [c7] = some y4 := by rw [← s4]; exact hfld 4 _ rfl
 have k1 : Rows.uptoBulk y1.1 ≤ 1048576 := by omega
 have k4 : Rows.uptoBulk y4.1 ≤ 1048576 := by omega
 obtain ⟨la, lc, ls, rfl, hL, hll, hlb⟩ := Rec_cell g1 (.inr k1) k1; obtain ⟨ya, yc, yl, rfl, _, _, _⟩ := Rec_cell g4 (.inr k4) k4; simp [cells_u32, cells_Span, cells_stamp] at e0 e2 e3; obtain ⟨e2, e4⟩ := e2; obtain ⟨e3, e5, e6⟩ := e3; subst e0 e2 e3 e4 e5 e6; exact ⟨⟨a0, la, ls, lc, s2.1, s2.2, t, ya, yl.length, yc⟩, rfl, hL, hll, bounds_u32 w0, hlb⟩
end Go.Proofs.YtneojeidpfjpbaaGreatDoor.Ig
namespace Go.Proofs.YtneojeidpfjpbaaGreatDoor
open Lk
open Go.ChangeShapes Go.WideShapes Go.ChangeAt Go.RowKit Go.Deep
abbrev theLaid : List (String × DataW Unit) := [("math/bits.deBruijn32tab", Rows.laid_math_bits_deBruijn32tab), ("math/bits.deBruijn64tab", Rows.laid_math_bits_deBruijn64tab), ("internal/strconv.uint64pow10", Rows.laid_internal_strconv_uint64pow10)]
theorem tPow : (Tryz.prog.globals[0]?).map (·.type) = some 279 := by kernel_rfl
theorem powData : Rows.laid_internal_strconv_uint64pow10 (H := Unit) = Lib.tabData .u64 Lib.pow10Tab := by kernel_rfl
theorem pow_of {W : World} (hL : laidMetH Tryz.prog theLaid W) : PowTab W := by
 have hL' : laidMet Tryz.prog theLaid W := hL; obtain ⟨ps, ⟨_, _, _, _, _, _, _, _, _, _, ⟨_, _, _, _, _, _, _, _, _, _, ⟨g, t, cs, fuel, p, q, hg, ht, hvar, hd, _, _⟩, _⟩, _⟩, _⟩ := hL'; obtain rfl := Option.some.inj (gPow.symm.trans hg); obtain rfl := Option.some.inj (tPow.symm.trans ht); rw [powData] at hd; show Lib.TabIs _ _ _ _ _
 unfold Lib.TabIs; rw [hvar, ← Lib.cells_of_tab Tryz.underlying279 Tryz.underlying26 (by kernel_rfl) (by kernel_rfl) hd]
def intsOf (d : DataW Unit) : Array Value := match d with
 | .agg ps => (ps.map fun x => match x with | .lit (.int k n) => Value.int k n | _ => Value.bool false).toArray
 | _ => #[]
def putG (h : Array Obj) (g : Nat) (cs : Array Value) : Array Obj := h.modify g fun
 | .cells _ t frozen => .cells cs t frozen
 | o => o
set_option maxRecDepth 1000000 in
theorem laid_met (os : Os) (args : Array Value) : laidMet Tryz.prog theLaid (({ World.holding Tryz.prog os ⟨#[], #[], []⟩ with heap := putG (putG (putG (World.holding Tryz.prog os ⟨#[], #[], []⟩).heap 0 (intsOf Rows.laid_internal_strconv_uint64pow10)) 1 (intsOf Rows.laid_math_bits_deBruijn32tab)) 2 (intsOf Rows.laid_math_bits_deBruijn64tab) } : World).forCall (fun _ _ => 0) ⟨#[], args, []⟩).memory :=
 laidMet_of_run' 8 (by kernel_rfl) (by kernel_rfl)
end Go.Proofs.YtneojeidpfjpbaaGreatDoor
namespace Go.Proofs.YtneojeidpfjpbaaGreatDoor.Ig
open Go.ChangeShapes Go.WideShapes Go.ChangeAt Go.RowKit Go.Deep
set_option maxRecDepth 100000 in
theorem opened_stateFresh {H : Type} {enc : TypeId × Value → H} {W : World} {r : Reach} {b : Nat} {v : Value} {d : DataW H} {p : List MemPlace}
  (hv : Value.okWide Tryz.prog W r b 30 v) (h : DataW.Trod enc Tryz.prog W 0 (fun _ => true) true 30 v d p) (hk : Rows.uptoBulk d ≤ 1048576) (hL : laidMetH Tryz.prog theLaid W) :
  Calls Tryz.prog 3 #[v] W fun e w' => e = .returned (.bool true) ∧ Below W.heap.size W w' := by
 obtain ⟨x, rfl, h1, h2, h3, h4⟩ := open_px hv h hk; exact fresh_law h1 (by omega) h3 h4 (pow_of hL)
end Go.Proofs.YtneojeidpfjpbaaGreatDoor.Ig
