import Derived.Test.YtngnifemghahkaaDoorVStabLaw
import Derived.Test.YtngnifemghahkaaDoorVOpen
namespace Go.Proofs.YtngnifemghahkaaDoor.Vs
open Go.ChangeShapes Go.WideShapes Go.ChangeAt Go.RowKit Go.Deep
set_option linter.unusedVariables false

theorem cells_int : Tryd.prog.cellsOf 3 = 1 := by kernel_rfl
theorem cells_vers : Tryd.prog.cellsOf 52 = 1 := by kernel_rfl
theorem cells_Step : Tryd.prog.cellsOf 72 = 9 := by kernel_rfl
theorem cells_steps : Tryd.prog.cellsOf 62 = 1 := by kernel_rfl
theorem cells_Late : Tryd.prog.cellsOf 64 = 7 := by kernel_rfl
theorem list7 {α : Type} {cs : List α} (h : cs.length = 7) : ∃ c0 c1 c2 c3 c4 c5 c6, cs = [c0, c1, c2, c3, c4, c5, c6] := by
  match cs, h with
  | [c0, c1, c2, c3, c4, c5, c6], _ => exact ⟨c0, c1, c2, c3, c4, c5, c6, rfl⟩
theorem list9 {α : Type} {cs : List α} (h : cs.length = 9) : ∃ c0 c1 c2 c3 c4 c5 c6 c7 c8, cs = [c0, c1, c2, c3, c4, c5, c6, c7, c8] := by
  match cs, h with
  | [c0, c1, c2, c3, c4, c5, c6, c7, c8], _ => exact ⟨c0, c1, c2, c3, c4, c5, c6, c7, c8, rfl⟩
set_option maxRecDepth 16000 in
theorem trod_Stp {H : Type} {enc : TypeId × Value → H} {w : World} {base : Nat} {fuel : Nat} {cs : List Value} {y : DataW H × List MemPlace}
    (h : DataW.trod enc Tryd.prog w base (fun _ => true) true fuel 72 cs = some y) :
    ∃ q : Sx, cs = [.int .i64 q.k, .int .i64 q.on, .int .u64 q.t.a, .int .u32 q.t.b, .int .u32 q.t.c, .string q.lo, .string q.hi, .slice q.wa q.ws.length q.wc, .slice q.va q.vn q.vc] ∧ RowW w q.wa q.ws ∧ q.ws.length ≤ Rows.uptoBulk y.1 ∧ q.t.nn := by
  obtain ⟨ys, n, _, rfl, hl, hlen, hf⟩ := DataW.trod_struct Tryd.underlying72 h
  rw [cells_Step] at hl
  obtain ⟨c0, c1, c2, c3, c4, c5, c6, c7, c8, rfl⟩ := list9 hl
  obtain ⟨y0, y1, y2, y3, y4, y5, rfl⟩ := list6 (cs := ys) (by simpa using hlen)
  obtain ⟨a0, e0, _, _⟩ := DataW.trod_int Tryd.underlying3 (hf 0 _ rfl)
  obtain ⟨a1, e1, _, _⟩ := DataW.trod_int Tryd.underlying3 (hf 1 _ rfl)
  obtain ⟨s, e2, hs⟩ := trod_Stm (hf 2 _ rfl)
  obtain ⟨lo, hi, e3⟩ := trod_Spn (hf 3 _ rfl)
  have g4 := hf 4 _ rfl
  have s4 : ([c0, c1, c2, c3, c4, c5, c6, c7, c8].drop 7).take (Tryd.prog.cellsOf 32) = [c7] := by rw [cells_writes]; rfl
  have g4' : DataW.trod enc Tryd.prog w base (fun _ => true) true n 32 [c7] = some y4 := by rw [← s4]; exact g4
  obtain ⟨wa, wc, ws, rfl, hr, _, hwl⟩ := Write_cell g4'
  have g5 := hf 5 _ rfl
  have s5 : ([c0, c1, c2, c3, c4, c5, c6, .slice wa ws.length wc, c8].drop 8).take (Tryd.prog.cellsOf 52) = [c8] := by rw [cells_vers]; rfl
  have g5' : DataW.trod enc Tryd.prog w base (fun _ => true) true n 52 [c8] = some y5 := by rw [← s5]; exact g5
  obtain ⟨va, vn, vc, e5⟩ : ∃ va vn vc, c8 = .slice va vn vc := by
    rcases open_slice Tryd.underlying52 g5' with ⟨e, _⟩ | ⟨a, len, cap, _, _, _, _, e, _⟩
    · injection e with e; exact ⟨_, _, _, e⟩
    · injection e with e; exact ⟨_, _, _, e⟩
  simp [cells_int, cells_stamp, cells_Span] at e0 e1 e2 e3
  obtain ⟨rfl, rfl, rfl⟩ := e2
  obtain ⟨rfl, rfl⟩ := e3
  subst e0 e1 e5
  refine ⟨⟨a0, a1, s, lo, hi, wa, wc, ws, va, vn, vc⟩, rfl, hr, ?_, hs⟩
  show ws.length ≤ _
  rcases hwl with h0 | ⟨el, sp, e, e'⟩
  · omega
  · have h1 := bulkAll_len el
    have h2 : Rows.uptoBulkAll el ≤ Rows.uptoBulk y4.1 := by rw [e]; simp only [Rows.uptoBulk]; omega
    simp only [List.map_cons, List.map_nil, Rows.uptoBulk, Rows.uptoBulkAll]
    omega

theorem steps_cell {H : Type} {enc : TypeId × Value → H} {W : World} {base fuel : Nat} {v : Value} {y : DataW H × List MemPlace}
    (hf : DataW.trod enc Tryd.prog W base (fun _ => true) true fuel 62 [v] = some y) (hk : Rows.uptoBulk y.1 ≤ 1048576) :
    ∃ (a : Option Addr) (cap : Nat) (ps : List Sx), v = .slice a ps.length cap ∧ RowS W a ps ∧ ps.length ≤ 1048576 := by
  rcases open_slice Tryd.underlying62 hf with ⟨e3, _⟩ | ⟨a, len, cap, m, n', D, Pl, e3, hb, hlc, hm, hmm, hxx, hel⟩
  · injection e3 with e3
    subst e3
    exact ⟨none, 0, [], rfl, fun i hi => by simp at hi, by simp⟩
  · injection e3 with e3
    subst e3
    have hlm : len ≤ m := by rw [hmm]; split <;> omega
    have hx1 := congrArg Prod.fst hxx
    have each : ∀ i, i < len → ∃ x : Sx, (RowW W x.wa x.ws ∧ x.ws.length ≤ Rows.uptoBulk (D i) ∧ x.t.nn) ∧ ∃ bb off, a = ⟨bb, off, none⟩ ∧ W.cell? ⟨bb, off + i * 9, none⟩ = some (.int .i64 x.k) ∧ W.cell? ⟨bb, off + i * 9 + 1, none⟩ = some (.int .i64 x.on) ∧ W.cell? ⟨bb, off + i * 9 + 2, none⟩ = some (.int .u64 x.t.a) ∧ W.cell? ⟨bb, off + i * 9 + 3, none⟩ = some (.int .u32 x.t.b)
        ∧ W.cell? ⟨bb, off + i * 9 + 4, none⟩ = some (.int .u32 x.t.c) ∧ W.cell? ⟨bb, off + i * 9 + 5, none⟩ = some (.string x.lo) ∧ W.cell? ⟨bb, off + i * 9 + 6, none⟩ = some (.string x.hi) ∧ W.cell? ⟨bb, off + i * 9 + 7, none⟩ = some (.slice x.wa x.ws.length x.wc) ∧ W.cell? ⟨bb, off + i * 9 + 8, none⟩ = some (.slice x.va x.vn x.vc) := by
      intro i hi
      obtain ⟨cs', hc, ht⟩ := hel i (by omega)
      obtain ⟨x, rfl, hy1, hy2, hy3⟩ := trod_Stp ht
      rw [cells_Step] at hc
      obtain ⟨_, _, hcell⟩ := World.cells?_some hc
      have e0 := hcell 0 (by omega)
      have e1 := hcell 1 (by omega)
      have e2 := hcell 2 (by omega)
      have e3 := hcell 3 (by omega)
      have e4 := hcell 4 (by omega)
      have e5 := hcell 5 (by omega)
      have e6 := hcell 6 (by omega)
      have e7 := hcell 7 (by omega)
      have e8 := hcell 8 (by omega)
      obtain ⟨bb, off, spot⟩ := a
      have hspot : spot = none := by
        obtain ⟨cs0, hc0, ht0⟩ := hel 0 (by omega)
        obtain ⟨y, rfl, -, -, -⟩ := trod_Stp ht0
        simp only [cells_Step] at hc0
        obtain ⟨_, hl0, hcell0⟩ := World.cells?_some hc0
        have hv0 : W.cell? (((⟨bb, off, spot⟩ : Addr).add (0 * 9)).add 0) = some (.int .i64 y.k) := hcell0 0 (by omega)
        have hs := World.cell?_spot hv0
        clear hcell0 hcell e0 e1 e2 e3 e4 e5 e6 e7 e8
        simpa [Addr.add] using hs
      subst hspot
      simp only [Addr.add_lit, Nat.add_zero] at e0 e1 e2 e3 e4 e5 e6 e7 e8
      exact ⟨x, ⟨hy1, hy2, hy3⟩, bb, off, rfl, by simpa using e0, by simpa using e1, by simpa using e2, by simpa using e3, by simpa using e4, by simpa using e5, by simpa using e6, by simpa using e7, by simpa using e8⟩
    obtain ⟨f, hq⟩ := @choose_lt Sx ⟨⟨0, 0, ⟨0, 0, 0⟩, ⟨#[]⟩, ⟨#[]⟩, none, 0, [], none, 0, 0⟩⟩ _ _ each
    obtain ⟨hb1, hb2⟩ := bulkAll_mem D len
    have hd : Rows.uptoBulkAll ((List.range len).map D) ≤ 1048576 := by
      rw [hx1] at hk
      simp only [Rows.uptoBulk] at hk
      omega
    refine ⟨some a, cap, (List.range len).map f, by simp, fun i hi => ?_, by simp; omega⟩
    have hi' : i < len := by simpa using hi
    obtain ⟨⟨h1, h2, h3⟩, bb, off, e, c0, c1, c2, c3, c4, c5, c6, c7, c8⟩ := hq i hi'
    have h4 := hb2 i hi'
    have hn : nthS ((List.range len).map f) i = f i := by simp [nthS, hi']
    rw [hn]
    exact ⟨bb, off, by rw [e], c0, c1, c2, c3, c4, c5, c6, c7, c8, h1, by omega, h3⟩

set_option maxRecDepth 16000 in
theorem open_late {H : Type} {enc : TypeId × Value → H} {W : World} {r : Reach} {b : Nat} {v : Value} {d : DataW H} {p : List MemPlace}
    (hv : Value.okWide Tryd.prog W r b 64 v) (h : DataW.Trod enc Tryd.prog W 0 (fun _ => true) true 64 v d p) (hk : Rows.uptoBulk d ≤ 1048576) :
    ∃ (a : Option Addr) (cap : Nat) (ps : List Pt) (lo hi : ByteArray) (s : Sp) (a2 : Option Addr) (cap2 : Nat) (ss : List Sx), v = .agg #[.slice a ps.length cap, .string lo, .string hi, .int .u64 s.a, .int .u32 s.b, .int .u32 s.c, .slice a2 ss.length cap2] ∧ RowT W a ps ∧ ps.length ≤ 1048576 ∧ s.nn ∧ RowS W a2 ss ∧ ss.length ≤ 1048576 := by
  obtain ⟨cs, rfl, hs⟩ := okWide_struct Tryd.underlying64 hv
  obtain ⟨fuel, hf⟩ := h
  obtain ⟨ys, n, hfu, hd, hl, hlen, hfld⟩ := DataW.trod_struct Tryd.underlying64 hf
  rw [cells_Late] at hl
  obtain ⟨cs⟩ := cs
  simp only [Value.cells] at hl hfld
  obtain ⟨c0, c1, c2, c3, c4, c5, c6, rfl⟩ := list7 hl
  obtain ⟨y0, y1, y2, y3, rfl⟩ := list4 (cs := ys) (by simpa using hlen)
  have g0 := hfld 0 _ rfl
  have s0 : ([c0, c1, c2, c3, c4, c5, c6].drop 0).take (Tryd.prog.cellsOf 38) = [c0] := by rw [cells_puts]; rfl
  have g0' : DataW.trod enc Tryd.prog W 0 (fun _ => true) true n 38 [c0] = some y0 := by rw [← s0]; exact g0
  have g3 := hfld 3 _ rfl
  have s3 : ([c0, c1, c2, c3, c4, c5, c6].drop 6).take (Tryd.prog.cellsOf 62) = [c6] := by rw [cells_steps]; rfl
  have g3' : DataW.trod enc Tryd.prog W 0 (fun _ => true) true n 62 [c6] = some y3 := by rw [← s3]; exact g3
  have hd1 : d = .agg [y0.1, y1.1, y2.1, y3.1] := by injection hd
  have hk0 : Rows.uptoBulk y0.1 ≤ 1048576 ∧ Rows.uptoBulk y3.1 ≤ 1048576 := by rw [hd1] at hk; simp only [Rows.uptoBulk, Rows.uptoBulkAll] at hk; omega
  obtain ⟨a, cap, ps, rfl, hr, hn⟩ := puts_cell g0' hk0.1
  obtain ⟨a2, cap2, ss, rfl, hr2, hn2⟩ := steps_cell g3' hk0.2
  obtain ⟨lo, hi, e1⟩ := trod_Spn (hfld 1 _ rfl)
  obtain ⟨s, e2, hsn⟩ := trod_Stm (hfld 2 _ rfl)
  simp [cells_Span, cells_stamp] at e1 e2
  obtain ⟨rfl, rfl⟩ := e1
  obtain ⟨rfl, rfl, rfl⟩ := e2
  exact ⟨a, cap, ps, lo, hi, s, a2, cap2, ss, rfl, hr, hn, hsn, hr2, hn2⟩
end Go.Proofs.YtngnifemghahkaaDoor.Vs
namespace Go.Proofs.YtngnifemghahkaaDoor
open Go.ChangeShapes Go.WideShapes Go.ChangeAt Go.RowKit

set_option maxRecDepth 16000 in
theorem opened_mvccStable {H : Type} {enc : TypeId × Value → H} {W : World} {r : Reach} {b : Nat} {v : Value} {d : DataW H} {p : List MemPlace}
    (hv : Value.okWide Tryd.prog W r b 64 v) (h : DataW.Trod enc Tryd.prog W 0 (fun _ => true) true 64 v d p) (hk : Rows.uptoBulk d ≤ 1048576) (hL : laidMetH Tryd.prog theLaid W) :
    Calls Tryd.prog 5 #[v] W fun e w' => e = .returned (.bool true) ∧ Below W.heap.size W w' := by
  obtain ⟨a, cap, ps, lo, hi, s, a2, cap2, ss, rfl, hr, hn, hs, hr2, hn2⟩ := Vs.open_late hv h hk
  exact Vs.law_stable hr hn hr2 hn2 hs (pow_of hL)
end Go.Proofs.YtngnifemghahkaaDoor
