import Derived.Test.YtmbmagfdeadibaaDAlike
import Derived.OpenShut
import Derived.Deep.Slices
import Derived.Deep.DeepHandedRow
import Derived.ProofKit
/- Openings: a list of steps; what is done ahead of a sync and behind it; what is done ahead of a crash. -/
namespace Go.Proofs.Ytmbmagfdeadibaa
open Go.ChangeShapes Go.WideShapes Go.ChangeAt Go.RowKit Go.Deep
set_option linter.unusedVariables false

theorem cells_str : Try.prog.cellsOf 9 = 1 := by kernel_rfl
theorem cells_int : Try.prog.cellsOf 3 = 1 := by kernel_rfl
theorem cells_step : Try.prog.cellsOf 29 = 6 := by kernel_rfl
theorem cells_steps : Try.prog.cellsOf 22 = 1 := by kernel_rfl
theorem cells_two : Try.prog.cellsOf 24 = 3 := by kernel_rfl
theorem cells_crashed : Try.prog.cellsOf 39 = 4 := by kernel_rfl
theorem list3 {α : Type} {cs : List α} (h : cs.length = 3) : ∃ c0 c1 c2, cs = [c0, c1, c2] := by
  match cs, h with
  | [c0, c1, c2], _ => exact ⟨c0, c1, c2, rfl⟩
theorem list4 {α : Type} {cs : List α} (h : cs.length = 4) : ∃ c0 c1 c2 c3, cs = [c0, c1, c2, c3] := by
  match cs, h with
  | [c0, c1, c2, c3], _ => exact ⟨c0, c1, c2, c3, rfl⟩
theorem list6 {α : Type} {cs : List α} (h : cs.length = 6) : ∃ c0 c1 c2 c3 c4 c5, cs = [c0, c1, c2, c3, c4, c5] := by
  match cs, h with
  | [c0, c1, c2, c3, c4, c5], _ => exact ⟨c0, c1, c2, c3, c4, c5, rfl⟩

theorem trod_step {H : Type} {enc : TypeId × Value → H} {w : World} {base : Nat} {spare : Nat → Bool} {held : Bool} {fuel : Nat} {cs : List Value} {y : DataW H × List MemPlace}
    (h : DataW.trod enc Try.prog w base spare held fuel 29 cs = some y) : ∃ x : Stp, x.ok ∧ cs = x.cells.toList := by
  obtain ⟨ys, n, _, rfl, hl, hlen, hf⟩ := DataW.trod_struct Try.underlying29 h
  rw [cells_step] at hl
  obtain ⟨c0, c1, c2, c3, c4, c5, rfl⟩ := list6 hl
  obtain ⟨y0, y1, y2, y3, y4, y5, rfl⟩ := list6 (cs := ys) (by simpa using hlen)
  obtain ⟨a0, e0, _, w0⟩ := DataW.trod_int Try.underlying3 (hf 0 _ rfl)
  obtain ⟨a1, e1, _, w1⟩ := DataW.trod_int Try.underlying3 (hf 1 _ rfl)
  obtain ⟨a2, e2, _, w2⟩ := DataW.trod_int Try.underlying3 (hf 2 _ rfl)
  obtain ⟨a3, e3, _, w3⟩ := DataW.trod_int Try.underlying3 (hf 3 _ rfl)
  obtain ⟨a4, e4, _, w4⟩ := DataW.trod_int Try.underlying3 (hf 4 _ rfl)
  obtain ⟨s5, e5, _, _⟩ := DataW.trod_string Try.underlying9 (hf 5 _ rfl)
  simp [cells_str, cells_int] at e0 e1 e2 e3 e4 e5
  subst e0 e1 e2 e3 e4 e5
  refine ⟨⟨a0, a1, a2, a3, a4, nums s5⟩, ⟨bounds_i64 w0, bounds_i64 w1, bounds_i64 w2, bounds_i64 w3, bounds_i64 w4, nums_b8 s5⟩, ?_⟩
  simp [ofNats_nums]

theorem steps_cell {H : Type} {enc : TypeId × Value → H} {W : World} {base fuel : Nat} {v : Value} {y : DataW H × List MemPlace}
    (hf : DataW.trod enc Try.prog W base (fun _ => true) true fuel 22 [v] = some y) :
    ∃ (a : Option Addr) (cap : Nat) (xs : List Stp), v = .slice a xs.length cap ∧ RowS W a xs ∧ xs.length ≤ 9223372036854775807 := by
  rcases open_slice Try.underlying22 hf with ⟨e3, _⟩ | ⟨a, len, cap, m, n', D, Pl, e3, hb, hlc, hm, hmm, hxx, hel⟩
  · injection e3 with e3
    subst e3
    exact ⟨none, 0, [], rfl, fun i hi => by simp at hi, by simp⟩
  · injection e3 with e3
    subst e3
    have hlm : len ≤ m := by rw [hmm]; split <;> omega
    have each : ∀ i, i < len → ∃ x : Stp, x.ok ∧ ∃ bb off, a = ⟨bb, off, none⟩ ∧ W.cell? ⟨bb, off + i * 6, none⟩ = some (.int .i64 x.k) ∧ W.cell? ⟨bb, off + i * 6 + 1, none⟩ = some (.int .i64 x.o) ∧ W.cell? ⟨bb, off + i * 6 + 2, none⟩ = some (.int .i64 x.s)
        ∧ W.cell? ⟨bb, off + i * 6 + 3, none⟩ = some (.int .i64 x.n) ∧ W.cell? ⟨bb, off + i * 6 + 4, none⟩ = some (.int .i64 x.m) ∧ W.cell? ⟨bb, off + i * 6 + 5, none⟩ = some (.string (ofNats x.t)) := by
      intro i hi
      obtain ⟨cs', hc, ht⟩ := hel i (by omega)
      obtain ⟨x, hx, rfl⟩ := trod_step ht
      rw [cells_step] at hc
      obtain ⟨_, _, hcell⟩ := World.cells?_some hc
      have e0 := hcell 0 (by omega)
      have e1 := hcell 1 (by omega)
      have e2 := hcell 2 (by omega)
      have e3 := hcell 3 (by omega)
      have e4 := hcell 4 (by omega)
      have e5 := hcell 5 (by omega)
      obtain ⟨bb, off, spot⟩ := a
      have hspot : spot = none := by
        obtain ⟨cs0, hc0, ht0⟩ := hel 0 (by omega)
        obtain ⟨y, _, rfl⟩ := trod_step ht0
        simp only [cells_step] at hc0
        obtain ⟨_, hl0, hcell0⟩ := World.cells?_some hc0
        have hv0 : W.cell? (((⟨bb, off, spot⟩ : Addr).add (0 * 6)).add 0) = some (.int .i64 y.k) := hcell0 0 (by omega)
        have hs := World.cell?_spot hv0
        clear hcell0 hcell e0 e1 e2 e3 e4 e5
        simpa [Addr.add] using hs
      subst hspot
      simp only [Addr.add_lit, Nat.add_zero] at e0 e1 e2 e3 e4 e5
      exact ⟨x, hx, bb, off, rfl, by simpa using e0, by simpa using e1, by simpa using e2, by simpa using e3, by simpa using e4, by simpa using e5⟩
    obtain ⟨f, hq⟩ := @choose_lt Stp ⟨zstp⟩ _ _ each
    refine ⟨some a, cap, (List.range len).map f, by simp, fun i hi => ?_, by simp [maxLen] at hm ⊢; omega⟩
    have hi' : i < len := by simpa using hi
    obtain ⟨hx, bb, off, e, c⟩ := hq i hi'
    have hn : nthS ((List.range len).map f) i = f i := by simp [nthS, hi']
    rw [hn]
    exact ⟨hx, bb, off, by rw [e], c⟩

theorem open_steps {H : Type} {enc : TypeId × Value → H} {W : World} {r : Reach} {b : Nat} {v : Value} {d : DataW H} {p : List MemPlace}
    (hv : Value.okWide Try.prog W r b 22 v) (h : DataW.Trod enc Try.prog W 0 (fun _ => true) true 22 v d p) :
    ∃ (a : Option Addr) (cap : Nat) (xs : List Stp), v = .slice a xs.length cap ∧ RowS W a xs ∧ xs.length ≤ 9223372036854775807 := by
  obtain ⟨a0, len, cap, rfl⟩ := okWide_slice Try.underlying22 hv
  obtain ⟨fuel, hf⟩ := h
  exact steps_cell hf

theorem open_two {H : Type} {enc : TypeId × Value → H} {W : World} {r : Reach} {b : Nat} {v : Value} {d : DataW H} {p : List MemPlace}
    (hv : Value.okWide Try.prog W r b 24 v) (h : DataW.Trod enc Try.prog W 0 (fun _ => true) true 24 v d p) :
    ∃ (c : Int) (a1 a2 : Option Addr) (k1 k2 : Nat) (xs ys : List Stp), v = .agg #[.int .i64 c, .slice a1 xs.length k1, .slice a2 ys.length k2] ∧ I64 c ∧ RowS W a1 xs ∧ RowS W a2 ys ∧ xs.length ≤ 9223372036854775807 ∧ ys.length ≤ 9223372036854775807 := by
  obtain ⟨cs, rfl, hs⟩ := okWide_struct Try.underlying24 hv
  obtain ⟨fuel, hf⟩ := h
  obtain ⟨ys, n, _, hd, hl, hlen, hfld⟩ := DataW.trod_struct Try.underlying24 hf
  rw [cells_two] at hl
  obtain ⟨cs⟩ := cs
  simp only [Value.cells] at hl hfld
  obtain ⟨c0, c1, c2, rfl⟩ := list3 hl
  obtain ⟨y0, y1, y2, rfl⟩ := list3 (cs := ys) (by simpa using hlen)
  obtain ⟨a0, e0, _, w0⟩ := DataW.trod_int Try.underlying3 (hfld 0 _ rfl)
  have g1 := hfld 1 _ rfl
  have g2 := hfld 2 _ rfl
  have s1 : ([c0, c1, c2].drop 1).take (Try.prog.cellsOf 22) = [c1] := by rw [cells_steps]; rfl
  have s2 : ([c0, c1, c2].drop 2).take (Try.prog.cellsOf 22) = [c2] := by rw [cells_steps]; rfl
  have g1' : DataW.trod enc Try.prog W 0 (fun _ => true) true n 22 [c1] = some y1 := by rw [← s1]; exact g1
  have g2' : DataW.trod enc Try.prog W 0 (fun _ => true) true n 22 [c2] = some y2 := by rw [← s2]; exact g2
  obtain ⟨ra, rc, rs, rfl, hr, hrl⟩ := steps_cell g1'
  obtain ⟨wa, wc, ws, rfl, hw, hwl⟩ := steps_cell g2'
  simp [cells_int] at e0
  subst e0
  exact ⟨a0, ra, wa, rc, wc, rs, ws, rfl, bounds_i64 w0, hr, hw, hrl, hwl⟩

theorem open_crashed {H : Type} {enc : TypeId × Value → H} {W : World} {r : Reach} {b : Nat} {v : Value} {d : DataW H} {p : List MemPlace}
    (hv : Value.okWide Try.prog W r b 39 v) (h : DataW.Trod enc Try.prog W 0 (fun _ => true) true 39 v d p) :
    ∃ (c : Int) (a1 : Option Addr) (k1 : Nat) (xs : List Stp) (e0 e1 : Int), v = .agg #[.int .i64 c, .slice a1 xs.length k1, .int .i64 e0, .int .i64 e1] ∧ I64 c ∧ RowS W a1 xs ∧ xs.length ≤ 9223372036854775807 ∧ I64 e0 ∧ I64 e1 := by
  obtain ⟨cs, rfl, hs⟩ := okWide_struct Try.underlying39 hv
  obtain ⟨fuel, hf⟩ := h
  obtain ⟨ys, n, _, hd, hl, hlen, hfld⟩ := DataW.trod_struct Try.underlying39 hf
  rw [cells_crashed] at hl
  obtain ⟨cs⟩ := cs
  simp only [Value.cells] at hl hfld
  obtain ⟨c0, c1, c2, c3, rfl⟩ := list4 hl
  obtain ⟨y0, y1, y2, y3, rfl⟩ := list4 (cs := ys) (by simpa using hlen)
  obtain ⟨a0, e0, _, w0⟩ := DataW.trod_int Try.underlying3 (hfld 0 _ rfl)
  obtain ⟨a2, e2, _, w2⟩ := DataW.trod_int Try.underlying3 (hfld 2 _ rfl)
  obtain ⟨a3, e3, _, w3⟩ := DataW.trod_int Try.underlying3 (hfld 3 _ rfl)
  have g1 := hfld 1 _ rfl
  have s1 : ([c0, c1, c2, c3].drop 1).take (Try.prog.cellsOf 22) = [c1] := by rw [cells_steps]; rfl
  have g1' : DataW.trod enc Try.prog W 0 (fun _ => true) true n 22 [c1] = some y1 := by rw [← s1]; exact g1
  obtain ⟨ra, rc, rs, rfl, hr, hrl⟩ := steps_cell g1'
  simp [cells_int] at e0 e2 e3
  subst e0 e2 e3
  exact ⟨a0, ra, rc, rs, a2, a3, rfl, bounds_i64 w0, hr, hrl, bounds_i64 w2, bounds_i64 w3⟩

end Go.Proofs.Ytmbmagfdeadibaa
