import Derived.Test.YtaknkodjganacaaDoorVOpen
/- The opening: a Replay. -/
namespace Go.Proofs.YtaknkodjganacaaDoor.Vs
open Go.ChangeShapes Go.WideShapes Go.ChangeAt Go.RowKit Go.Deep
set_option linter.unusedVariables false

theorem cells_Replay : Tryd.prog.cellsOf 68 = 6 := by kernel_rfl
set_option maxRecDepth 16000 in
theorem open_replay {H : Type} {enc : TypeId × Value → H} {W : World} {r : Reach} {b : Nat} {v : Value} {d : DataW H} {p : List MemPlace}
    (hv : Value.okWide Tryd.prog W r b 68 v) (h : DataW.Trod enc Tryd.prog W 0 (fun _ => true) true 68 v d p) (hk : Rows.uptoBulk d ≤ 1048576) :
    ∃ (a : Option Addr) (cap : Nat) (ps : List Pt) (lo hi : ByteArray) (s : Sp), v = .agg #[.slice a ps.length cap, .string lo, .string hi, .int .u64 s.a, .int .u32 s.b, .int .u32 s.c] ∧ RowT W a ps ∧ ps.length ≤ 1048576 ∧ s.nn ∧ sumT ps ≤ 1048576 := by
  obtain ⟨cs, rfl, hs⟩ := okWide_struct Tryd.underlying68 hv
  obtain ⟨fuel, hf⟩ := h
  obtain ⟨ys, n, hfu, hd, hl, hlen, hfld⟩ := DataW.trod_struct Tryd.underlying68 hf
  rw [cells_Replay] at hl
  obtain ⟨cs⟩ := cs
  simp only [Value.cells] at hl hfld
  obtain ⟨c0, c1, c2, c3, c4, c5, rfl⟩ := list6 hl
  obtain ⟨y0, y1, y2, rfl⟩ := list3 (cs := ys) (by simpa using hlen)
  have g0 := hfld 0 _ rfl
  have s0 : ([c0, c1, c2, c3, c4, c5].drop 0).take (Tryd.prog.cellsOf 22) = [c0] := by rw [cells_puts]; rfl
  have g0' : DataW.trod enc Tryd.prog W 0 (fun _ => true) true n 22 [c0] = some y0 := by rw [← s0]; exact g0
  have hd1 : d = .agg [y0.1, y1.1, y2.1] := by injection hd
  have hk0 : Rows.uptoBulk y0.1 ≤ 1048576 := by rw [hd1] at hk; simp only [Rows.uptoBulk, Rows.uptoBulkAll] at hk; omega
  obtain ⟨a, cap, ps, rfl, hr, hn, hsu⟩ := puts_cell g0' hk0
  obtain ⟨lo, hi, e1⟩ := trod_Spn (hfld 1 _ rfl)
  obtain ⟨s, e2, hsn⟩ := trod_Stm (hfld 2 _ rfl)
  simp [cells_Span, cells_stamp] at e1 e2
  obtain ⟨rfl, rfl⟩ := e1
  obtain ⟨rfl, rfl, rfl⟩ := e2
  exact ⟨a, cap, ps, lo, hi, s, rfl, hr, hn, hsn, hsu⟩
end Go.Proofs.YtaknkodjganacaaDoor.Vs
