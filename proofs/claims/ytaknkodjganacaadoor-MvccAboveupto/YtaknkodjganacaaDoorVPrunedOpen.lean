import Derived.Test.YtaknkodjganacaaDoorVOpen
/- The opening: a Pruned. -/
namespace Go.Proofs.YtaknkodjganacaaDoor.Vs
open Go.ChangeShapes Go.WideShapes Go.ChangeAt Go.RowKit Go.Deep
set_option linter.unusedVariables false

theorem cells_stamps : Tryd.prog.cellsOf 29 = 1 := by kernel_rfl
theorem cells_Pruned : Tryd.prog.cellsOf 31 = 7 := by kernel_rfl
theorem list7' {α : Type} {cs : List α} (h : cs.length = 7) : ∃ c0 c1 c2 c3 c4 c5 c6, cs = [c0, c1, c2, c3, c4, c5, c6] := by
  match cs, h with
  | [c0, c1, c2, c3, c4, c5, c6], _ => exact ⟨c0, c1, c2, c3, c4, c5, c6, rfl⟩
theorem stamps_cell {H : Type} {enc : TypeId × Value → H} {W : World} {base fuel : Nat} {v : Value} {y : DataW H × List MemPlace}
    (hf : DataW.trod enc Tryd.prog W base (fun _ => true) true fuel 29 [v] = some y) (hk : Rows.uptoBulk y.1 ≤ 1048576) :
    ∃ (a : Option Addr) (cap : Nat) (ts : List Sp), v = .slice a ts.length cap ∧ RowA W a ts ∧ ts.length ≤ 1048576 := by
  rcases open_slice Tryd.underlying29 hf with ⟨e3, _⟩ | ⟨a, len, cap, m, n', D, Pl, e3, hb, hlc, hm, hmm, hxx, hel⟩
  · injection e3 with e3
    subst e3
    exact ⟨none, 0, [], rfl, fun i hi => by simp at hi, by simp⟩
  · injection e3 with e3
    subst e3
    have hlm : len ≤ m := by rw [hmm]; split <;> omega
    have hx1 := congrArg Prod.fst hxx
    have each : ∀ i, i < len → ∃ x : Sp, x.nn ∧ ∃ bb off, a = ⟨bb, off, none⟩ ∧ W.cell? ⟨bb, off + i * 3, none⟩ = some (.int .u64 x.a) ∧ W.cell? ⟨bb, off + i * 3 + 1, none⟩ = some (.int .u32 x.b) ∧ W.cell? ⟨bb, off + i * 3 + 2, none⟩ = some (.int .u32 x.c) := by
      intro i hi
      obtain ⟨cs', hc, ht⟩ := hel i (by omega)
      obtain ⟨x, rfl, hy⟩ := trod_Stm ht
      rw [cells_stamp] at hc
      obtain ⟨_, _, hcell⟩ := World.cells?_some hc
      have e0 := hcell 0 (by omega)
      have e1 := hcell 1 (by omega)
      have e2 := hcell 2 (by omega)
      obtain ⟨bb, off, spot⟩ := a
      have hspot : spot = none := by
        obtain ⟨cs0, hc0, ht0⟩ := hel 0 (by omega)
        obtain ⟨y, rfl, -⟩ := trod_Stm ht0
        simp only [cells_stamp] at hc0
        obtain ⟨_, hl0, hcell0⟩ := World.cells?_some hc0
        have hv0 : W.cell? (((⟨bb, off, spot⟩ : Addr).add (0 * 3)).add 0) = some (.int .u64 y.a) := hcell0 0 (by omega)
        have hs := World.cell?_spot hv0
        clear hcell0 hcell e0 e1 e2
        simpa [Addr.add] using hs
      subst hspot
      simp only [Addr.add_lit, Nat.add_zero] at e0 e1 e2
      exact ⟨x, hy, bb, off, rfl, by simpa using e0, by simpa using e1, by simpa using e2⟩
    obtain ⟨f, hq⟩ := @choose_lt Sp ⟨⟨0, 0, 0⟩⟩ _ _ each
    obtain ⟨hb1, hb2⟩ := bulkAll_mem D len
    have hd : Rows.uptoBulkAll ((List.range len).map D) ≤ 1048576 := by
      rw [hx1] at hk
      simp only [Rows.uptoBulk] at hk
      omega
    refine ⟨some a, cap, (List.range len).map f, by simp, fun i hi => ?_, by simp; omega⟩
    have hi' : i < len := by simpa using hi
    obtain ⟨h1, bb, off, e, c0, c1, c2⟩ := hq i hi'
    have hn : nthS1 ((List.range len).map f) i = f i := by simp [nthS1, hi']
    rw [hn]
    exact ⟨bb, off, by rw [e], c0, c1, c2, h1⟩

set_option maxRecDepth 16000 in
theorem open_pruned {H : Type} {enc : TypeId × Value → H} {W : World} {r : Reach} {b : Nat} {v : Value} {d : DataW H} {p : List MemPlace}
    (hv : Value.okWide Tryd.prog W r b 31 v) (h : DataW.Trod enc Tryd.prog W 0 (fun _ => true) true 31 v d p) (hk : Rows.uptoBulk d ≤ 1048576) :
    ∃ (a ta : Option Addr) (cap tc : Nat) (ps : List Pt) (ts : List Sp) (lo hi : ByteArray) (s : Sp), v = .agg #[.slice a ps.length cap, .int .u64 s.a, .int .u32 s.b, .int .u32 s.c, .string lo, .string hi, .slice ta ts.length tc] ∧ RowT W a ps ∧ ps.length ≤ 1048576 ∧ sumT ps ≤ 1048576 ∧ RowA W ta ts ∧ ts.length ≤ 1048576 ∧ s.nn := by
  obtain ⟨cs, rfl, hs⟩ := okWide_struct Tryd.underlying31 hv
  obtain ⟨fuel, hf⟩ := h
  obtain ⟨ys, n, hfu, hd, hl, hlen, hfld⟩ := DataW.trod_struct Tryd.underlying31 hf
  rw [cells_Pruned] at hl
  obtain ⟨cs⟩ := cs
  simp only [Value.cells] at hl hfld
  obtain ⟨c0, c1, c2, c3, c4, c5, c6, rfl⟩ := list7' hl
  obtain ⟨y0, y1, y2, y3, rfl⟩ := list4 (cs := ys) (by simpa using hlen)
  have g0 := hfld 0 _ rfl
  have s0 : ([c0, c1, c2, c3, c4, c5, c6].drop 0).take (Tryd.prog.cellsOf 22) = [c0] := by rw [cells_puts]; rfl
  have g0' : DataW.trod enc Tryd.prog W 0 (fun _ => true) true n 22 [c0] = some y0 := by rw [← s0]; exact g0
  have g3 := hfld 3 _ rfl
  have s3 : ([c0, c1, c2, c3, c4, c5, c6].drop 6).take (Tryd.prog.cellsOf 29) = [c6] := by rw [cells_stamps]; rfl
  have g3' : DataW.trod enc Tryd.prog W 0 (fun _ => true) true n 29 [c6] = some y3 := by rw [← s3]; exact g3
  have hd1 : d = .agg [y0.1, y1.1, y2.1, y3.1] := by injection hd
  have hk0 : Rows.uptoBulk y0.1 ≤ 1048576 ∧ Rows.uptoBulk y3.1 ≤ 1048576 := by rw [hd1] at hk; simp only [Rows.uptoBulk, Rows.uptoBulkAll] at hk; omega
  obtain ⟨a, cap, ps, rfl, hr, hn, hsu⟩ := puts_cell g0' hk0.1
  obtain ⟨ta, tc, ts, rfl, htr, htl⟩ := stamps_cell g3' hk0.2
  obtain ⟨s, e1, hsn⟩ := trod_Stm (hfld 1 _ rfl)
  obtain ⟨lo, hi, e2⟩ := trod_Spn (hfld 2 _ rfl)
  simp [cells_Span, cells_stamp] at e1 e2
  obtain ⟨rfl, rfl, rfl⟩ := e1
  obtain ⟨rfl, rfl⟩ := e2
  exact ⟨a, ta, cap, tc, ps, ts, lo, hi, s, rfl, hr, hn, hsu, htr, htl, hsn⟩
end Go.Proofs.YtaknkodjganacaaDoor.Vs
