import Derived.Test.YtoejdjiclgjgkaaDoorMStatus
import Derived.OpenShut
import Derived.Deep.Strs
import Derived.Deep.DeepHandedRow
import Derived.Deep.DeepWitnessRowRef
import Derived.Lib.LaidTab
import Derived.LaidLaws
import Derived.ProofKit
namespace Go.Proofs.YtoejdjiclgjgkaaDoor
open Go.ChangeShapes Go.WideShapes Go.ChangeAt Go.RowKit Go.Deep
set_option linter.unusedVariables false

theorem cells_str : Tryd.prog.cellsOf 9 = 1 := by kernel_rfl
theorem cells_bool : Tryd.prog.cellsOf 4 = 1 := by kernel_rfl
theorem cells_stamp : Tryd.prog.cellsOf 28 = 3 := by kernel_rfl
theorem cells_u64 : Tryd.prog.cellsOf 26 = 1 := by kernel_rfl
theorem cells_u32 : Tryd.prog.cellsOf 23 = 1 := by kernel_rfl
theorem list2 {α : Type} {cs : List α} (h : cs.length = 2) : ∃ c0 c1, cs = [c0, c1] := by
  match cs, h with
  | [c0, c1], _ => exact ⟨c0, c1, rfl⟩
theorem list3 {α : Type} {cs : List α} (h : cs.length = 3) : ∃ c0 c1 c2, cs = [c0, c1, c2] := by
  match cs, h with
  | [c0, c1, c2], _ => exact ⟨c0, c1, c2, rfl⟩

theorem cells_Span : Tryd.prog.cellsOf 51 = 2 := by kernel_rfl
theorem trod_Span {H : Type} {enc : TypeId × Value → H} {w : World} {base : Nat} {spare : Nat → Bool} {held : Bool} {fuel : Nat} {cs : List Value} {y : DataW H × List MemPlace}
    (h : DataW.trod enc Tryd.prog w base spare held fuel 51 cs = some y) : ∃ x : T2, cs = [.string x.1, .string x.2] := by
  obtain ⟨ys, n, _, rfl, hl, hlen, hf⟩ := DataW.trod_struct Tryd.underlying51 h
  rw [cells_Span] at hl
  obtain ⟨c0, c1, rfl⟩ := list2 hl
  obtain ⟨y0, y1, rfl⟩ := list2 (cs := ys) (by simpa using hlen)
  obtain ⟨s0, e0, _, _⟩ := DataW.trod_string Tryd.underlying9 (hf 0 _ rfl)
  obtain ⟨s1, e1, _, _⟩ := DataW.trod_string Tryd.underlying9 (hf 1 _ rfl)
  simp [cells_str] at e0 e1
  subst e0 e1
  exact ⟨(s0, s1), rfl⟩
theorem Span_cell {H : Type} {enc : TypeId × Value → H} {W : World} {base fuel : Nat} {v : Value} {y : DataW H × List MemPlace}
    (hf : DataW.trod enc Tryd.prog W base (fun _ => true) true fuel 31 [v] = some y) :
    ∃ (a : Option Addr) (cap : Nat) (xs : List T2), v = .slice a xs.length cap ∧ Row2 W a xs ∧ xs.length ≤ 9223372036854775807 := by
  rcases open_slice Tryd.underlying31 hf with ⟨e3, _⟩ | ⟨a, len, cap, m, n', D, Pl, e3, hb, hlc, hm, hmm, hxx, hel⟩
  · injection e3 with e3
    subst e3
    exact ⟨none, 0, [], rfl, fun i hi => by simp at hi, by simp⟩
  · injection e3 with e3
    subst e3
    have hlm : len ≤ m := by rw [hmm]; split <;> omega
    have each : ∀ i, i < len → ∃ x : T2, ∃ bb off, a = ⟨bb, off, none⟩ ∧ W.cell? ⟨bb, off + i * 2, none⟩ = some (.string x.1) ∧ W.cell? ⟨bb, off + i * 2 + 1, none⟩ = some (.string x.2) := by
      intro i hi
      obtain ⟨cs', hc, ht⟩ := hel i (by omega)
      obtain ⟨x, rfl⟩ := trod_Span ht
      rw [cells_Span] at hc
      obtain ⟨_, _, hcell⟩ := World.cells?_some hc
      have e0 := hcell 0 (by omega)
      have e1 := hcell 1 (by omega)
      obtain ⟨bb, off, spot⟩ := a
      have hspot : spot = none := by
        obtain ⟨cs0, hc0, ht0⟩ := hel 0 (by omega)
        obtain ⟨y, rfl⟩ := trod_Span ht0
        simp only [cells_Span] at hc0
        obtain ⟨_, hl0, hcell0⟩ := World.cells?_some hc0
        have hv0 : W.cell? (((⟨bb, off, spot⟩ : Addr).add (0 * 2)).add 0) = some (.string y.1) := hcell0 0 (by omega)
        have hs := World.cell?_spot hv0
        clear hcell0 hcell e0 e1
        simpa [Addr.add] using hs
      subst hspot
      simp only [Addr.add_lit, Nat.add_zero] at e0 e1
      exact ⟨x, bb, off, rfl, by simpa using e0, by simpa using e1⟩
    obtain ⟨f, hq⟩ := @choose_lt T2 ⟨(⟨#[]⟩, ⟨#[]⟩)⟩ _ _ each
    refine ⟨some a, cap, (List.range len).map f, by simp, fun i hi => ?_, by simp [maxLen] at hm ⊢; omega⟩
    have hi' : i < len := by simpa using hi
    obtain ⟨bb, off, e, c0, c1⟩ := hq i hi'
    have hn : nth2 ((List.range len).map f) i = f i := by simp [nth2, hi']
    rw [hn]
    exact ⟨bb, off, by rw [e], c0, c1⟩

theorem cells_Pair : Tryd.prog.cellsOf 55 = 2 := by kernel_rfl
theorem trod_Pair {H : Type} {enc : TypeId × Value → H} {w : World} {base : Nat} {spare : Nat → Bool} {held : Bool} {fuel : Nat} {cs : List Value} {y : DataW H × List MemPlace}
    (h : DataW.trod enc Tryd.prog w base spare held fuel 55 cs = some y) : ∃ x : T2, cs = [.string x.1, .string x.2] := by
  obtain ⟨ys, n, _, rfl, hl, hlen, hf⟩ := DataW.trod_struct Tryd.underlying55 h
  rw [cells_Pair] at hl
  obtain ⟨c0, c1, rfl⟩ := list2 hl
  obtain ⟨y0, y1, rfl⟩ := list2 (cs := ys) (by simpa using hlen)
  obtain ⟨s0, e0, _, _⟩ := DataW.trod_string Tryd.underlying9 (hf 0 _ rfl)
  obtain ⟨s1, e1, _, _⟩ := DataW.trod_string Tryd.underlying9 (hf 1 _ rfl)
  simp [cells_str] at e0 e1
  subst e0 e1
  exact ⟨(s0, s1), rfl⟩
theorem Pair_cell {H : Type} {enc : TypeId × Value → H} {W : World} {base fuel : Nat} {v : Value} {y : DataW H × List MemPlace}
    (hf : DataW.trod enc Tryd.prog W base (fun _ => true) true fuel 33 [v] = some y) :
    ∃ (a : Option Addr) (cap : Nat) (xs : List T2), v = .slice a xs.length cap ∧ Row2 W a xs ∧ xs.length ≤ 9223372036854775807 := by
  rcases open_slice Tryd.underlying33 hf with ⟨e3, _⟩ | ⟨a, len, cap, m, n', D, Pl, e3, hb, hlc, hm, hmm, hxx, hel⟩
  · injection e3 with e3
    subst e3
    exact ⟨none, 0, [], rfl, fun i hi => by simp at hi, by simp⟩
  · injection e3 with e3
    subst e3
    have hlm : len ≤ m := by rw [hmm]; split <;> omega
    have each : ∀ i, i < len → ∃ x : T2, ∃ bb off, a = ⟨bb, off, none⟩ ∧ W.cell? ⟨bb, off + i * 2, none⟩ = some (.string x.1) ∧ W.cell? ⟨bb, off + i * 2 + 1, none⟩ = some (.string x.2) := by
      intro i hi
      obtain ⟨cs', hc, ht⟩ := hel i (by omega)
      obtain ⟨x, rfl⟩ := trod_Pair ht
      rw [cells_Pair] at hc
      obtain ⟨_, _, hcell⟩ := World.cells?_some hc
      have e0 := hcell 0 (by omega)
      have e1 := hcell 1 (by omega)
      obtain ⟨bb, off, spot⟩ := a
      have hspot : spot = none := by
        obtain ⟨cs0, hc0, ht0⟩ := hel 0 (by omega)
        obtain ⟨y, rfl⟩ := trod_Pair ht0
        simp only [cells_Pair] at hc0
        obtain ⟨_, hl0, hcell0⟩ := World.cells?_some hc0
        have hv0 : W.cell? (((⟨bb, off, spot⟩ : Addr).add (0 * 2)).add 0) = some (.string y.1) := hcell0 0 (by omega)
        have hs := World.cell?_spot hv0
        clear hcell0 hcell e0 e1
        simpa [Addr.add] using hs
      subst hspot
      simp only [Addr.add_lit, Nat.add_zero] at e0 e1
      exact ⟨x, bb, off, rfl, by simpa using e0, by simpa using e1⟩
    obtain ⟨f, hq⟩ := @choose_lt T2 ⟨(⟨#[]⟩, ⟨#[]⟩)⟩ _ _ each
    refine ⟨some a, cap, (List.range len).map f, by simp, fun i hi => ?_, by simp [maxLen] at hm ⊢; omega⟩
    have hi' : i < len := by simpa using hi
    obtain ⟨bb, off, e, c0, c1⟩ := hq i hi'
    have hn : nth2 ((List.range len).map f) i = f i := by simp [nth2, hi']
    rw [hn]
    exact ⟨bb, off, by rw [e], c0, c1⟩

theorem cells_Write : Tryd.prog.cellsOf 53 = 3 := by kernel_rfl
theorem trod_Write {H : Type} {enc : TypeId × Value → H} {w : World} {base : Nat} {spare : Nat → Bool} {held : Bool} {fuel : Nat} {cs : List Value} {y : DataW H × List MemPlace}
    (h : DataW.trod enc Tryd.prog w base spare held fuel 53 cs = some y) : ∃ x : Wr, cs = [.string x.key, .bool x.del, .string x.val] := by
  obtain ⟨ys, n, _, rfl, hl, hlen, hf⟩ := DataW.trod_struct Tryd.underlying53 h
  rw [cells_Write] at hl
  obtain ⟨c0, c1, c2, rfl⟩ := list3 hl
  obtain ⟨y0, y1, y2, rfl⟩ := list3 (cs := ys) (by simpa using hlen)
  obtain ⟨s0, e0, _, _⟩ := DataW.trod_string Tryd.underlying9 (hf 0 _ rfl)
  obtain ⟨b1, e1, _⟩ := DataW.trod_bool Tryd.underlying4 (hf 1 _ rfl)
  obtain ⟨s2, e2, _, _⟩ := DataW.trod_string Tryd.underlying9 (hf 2 _ rfl)
  simp [cells_str, cells_bool] at e0 e1 e2
  subst e0 e1 e2
  exact ⟨⟨s0, b1, s2⟩, rfl⟩
theorem Write_cell {H : Type} {enc : TypeId × Value → H} {W : World} {base fuel : Nat} {v : Value} {y : DataW H × List MemPlace}
    (hf : DataW.trod enc Tryd.prog W base (fun _ => true) true fuel 32 [v] = some y) :
    ∃ (a : Option Addr) (cap : Nat) (xs : List Wr), v = .slice a xs.length cap ∧ RowW W a xs ∧ xs.length ≤ 9223372036854775807 := by
  rcases open_slice Tryd.underlying32 hf with ⟨e3, _⟩ | ⟨a, len, cap, m, n', D, Pl, e3, hb, hlc, hm, hmm, hxx, hel⟩
  · injection e3 with e3
    subst e3
    exact ⟨none, 0, [], rfl, fun i hi => by simp at hi, by simp⟩
  · injection e3 with e3
    subst e3
    have hlm : len ≤ m := by rw [hmm]; split <;> omega
    have each : ∀ i, i < len → ∃ x : Wr, ∃ bb off, a = ⟨bb, off, none⟩ ∧ W.cell? ⟨bb, off + i * 3, none⟩ = some (.string x.key) ∧ W.cell? ⟨bb, off + i * 3 + 1, none⟩ = some (.bool x.del) ∧ W.cell? ⟨bb, off + i * 3 + 2, none⟩ = some (.string x.val) := by
      intro i hi
      obtain ⟨cs', hc, ht⟩ := hel i (by omega)
      obtain ⟨x, rfl⟩ := trod_Write ht
      rw [cells_Write] at hc
      obtain ⟨_, _, hcell⟩ := World.cells?_some hc
      have e0 := hcell 0 (by omega)
      have e1 := hcell 1 (by omega)
      have e2 := hcell 2 (by omega)
      obtain ⟨bb, off, spot⟩ := a
      have hspot : spot = none := by
        obtain ⟨cs0, hc0, ht0⟩ := hel 0 (by omega)
        obtain ⟨y, rfl⟩ := trod_Write ht0
        simp only [cells_Write] at hc0
        obtain ⟨_, hl0, hcell0⟩ := World.cells?_some hc0
        have hv0 : W.cell? (((⟨bb, off, spot⟩ : Addr).add (0 * 3)).add 0) = some (.string y.key) := hcell0 0 (by omega)
        have hs := World.cell?_spot hv0
        clear hcell0 hcell e0 e1 e2
        simpa [Addr.add] using hs
      subst hspot
      simp only [Addr.add_lit, Nat.add_zero] at e0 e1 e2
      exact ⟨x, bb, off, rfl, by simpa using e0, by simpa using e1, by simpa using e2⟩
    obtain ⟨f, hq⟩ := @choose_lt Wr ⟨⟨⟨#[]⟩, false, ⟨#[]⟩⟩⟩ _ _ each
    refine ⟨some a, cap, (List.range len).map f, by simp, fun i hi => ?_, by simp [maxLen] at hm ⊢; omega⟩
    have hi' : i < len := by simpa using hi
    obtain ⟨bb, off, e, c0, c1, c2⟩ := hq i hi'
    have hn : nthW ((List.range len).map f) i = f i := by simp [nthW, hi']
    rw [hn]
    exact ⟨bb, off, by rw [e], c0, c1, c2⟩

theorem cells_txn : Tryd.prog.cellsOf 25 = 2 := by kernel_rfl
theorem cells_msg : Tryd.prog.cellsOf 35 = 15 := by kernel_rfl
theorem cells_kind : Tryd.prog.cellsOf 22 = 1 := by kernel_rfl
theorem cells_errno : Tryd.prog.cellsOf 29 = 1 := by kernel_rfl
theorem cells_outcome : Tryd.prog.cellsOf 30 = 1 := by kernel_rfl
theorem cells_spans : Tryd.prog.cellsOf 31 = 1 := by kernel_rfl
theorem cells_writes : Tryd.prog.cellsOf 32 = 1 := by kernel_rfl
theorem cells_pairs : Tryd.prog.cellsOf 33 = 1 := by kernel_rfl
theorem list6 {α : Type} {cs : List α} (h : cs.length = 6) : ∃ c0 c1 c2 c3 c4 c5, cs = [c0, c1, c2, c3, c4, c5] := by
  match cs, h with
  | [c0, c1, c2, c3, c4, c5], _ => exact ⟨c0, c1, c2, c3, c4, c5, rfl⟩
theorem list12 {α : Type} {cs : List α} (h : cs.length = 12) : ∃ c0 c1 c2 c3 c4 c5 c6 c7 c8 c9 c10 c11, cs = [c0, c1, c2, c3, c4, c5, c6, c7, c8, c9, c10, c11] := by
  obtain ⟨c0, c1, c2, c3, c4, c5, e1⟩ := list6 (cs := cs.take 6) (by simp [h])
  obtain ⟨c6, c7, c8, c9, c10, c11, e2⟩ := list6 (cs := cs.drop 6) (by simp [h])
  exact ⟨c0, c1, c2, c3, c4, c5, c6, c7, c8, c9, c10, c11, by rw [← List.take_append_drop 6 cs, e1, e2]; rfl⟩
theorem list15 {α : Type} {cs : List α} (h : cs.length = 15) : ∃ c0 c1 c2 c3 c4 c5 c6 c7 c8 c9 c10 c11 c12 c13 c14, cs = [c0, c1, c2, c3, c4, c5, c6, c7, c8, c9, c10, c11, c12, c13, c14] := by
  obtain ⟨c0, c1, c2, c3, c4, c5, c6, c7, c8, c9, c10, c11, e1⟩ := list12 (cs := cs.take 12) (by simp [h])
  obtain ⟨c12, c13, c14, e2⟩ := list3 (cs := cs.drop 12) (by simp [h])
  exact ⟨c0, c1, c2, c3, c4, c5, c6, c7, c8, c9, c10, c11, c12, c13, c14, by rw [← List.take_append_drop 12 cs, e1, e2]; rfl⟩
theorem trod_st {H : Type} {enc : TypeId × Value → H} {w : World} {base : Nat} {spare : Nat → Bool} {held : Bool} {fuel : Nat} {cs : List Value} {y : DataW H × List MemPlace}
    (h : DataW.trod enc Tryd.prog w base spare held fuel 28 cs = some y) : ∃ a b c : Int, cs = [.int .u64 a, .int .u32 b, .int .u32 c] := by
  obtain ⟨ys, n, _, rfl, hl, hlen, hf⟩ := DataW.trod_struct Tryd.underlying28 h
  rw [cells_stamp] at hl
  obtain ⟨c0, c1, c2, rfl⟩ := list3 hl
  obtain ⟨y0, y1, y2, rfl⟩ := list3 (cs := ys) (by simpa using hlen)
  obtain ⟨a0, e0, _, _⟩ := DataW.trod_int Tryd.underlying26 (hf 0 _ rfl)
  obtain ⟨a1, e1, _, _⟩ := DataW.trod_int Tryd.underlying23 (hf 1 _ rfl)
  obtain ⟨a2, e2, _, _⟩ := DataW.trod_int Tryd.underlying23 (hf 2 _ rfl)
  simp [cells_u32, cells_u64] at e0 e1 e2
  subst e0 e1 e2
  exact ⟨a0, a1, a2, rfl⟩
theorem u32_le {a : Int} (h : (Lit.int .u32 a).wf = true) : 0 ≤ a ∧ a ≤ 4294967295 := by
  simp [Lit.wf, IntKind.min, IntKind.max, IntKind.bits, IntKind.signed] at h; omega
theorem trod_txn {H : Type} {enc : TypeId × Value → H} {w : World} {base : Nat} {spare : Nat → Bool} {held : Bool} {fuel : Nat} {cs : List Value} {y : DataW H × List MemPlace}
    (h : DataW.trod enc Tryd.prog w base spare held fuel 25 cs = some y) : ∃ c s : Int, cs = [.int .u32 c, .int .u32 s] ∧ 0 ≤ s := by
  obtain ⟨ys, n, _, rfl, hl, hlen, hf⟩ := DataW.trod_struct Tryd.underlying25 h
  rw [cells_txn] at hl
  obtain ⟨c0, c1, rfl⟩ := list2 hl
  obtain ⟨y0, y1, rfl⟩ := list2 (cs := ys) (by simpa using hlen)
  obtain ⟨a0, e0, _, _⟩ := DataW.trod_int Tryd.underlying23 (hf 0 _ rfl)
  obtain ⟨a1, e1, _, w1⟩ := DataW.trod_int Tryd.underlying23 (hf 1 _ rfl)
  simp [cells_u32] at e0 e1
  subst e0 e1
  exact ⟨a0, a1, rfl, (u32_le w1).1⟩

set_option maxRecDepth 16000 in
theorem open_msg {H : Type} {enc : TypeId × Value → H} {W : World} {r : Reach} {b : Nat} {v : Value} {d : DataW H} {p : List MemPlace}
    (hv : Value.okWide Tryd.prog W r b 35 v) (h : DataW.Trod enc Tryd.prog W 0 (fun _ => true) true 35 v d p) :
    ∃ m : Mg, v = m.val ∧ m.ok W ∧ 0 ≤ m.s := by
  obtain ⟨cs, rfl, hs⟩ := okWide_struct Tryd.underlying35 hv
  obtain ⟨fuel, hf⟩ := h
  obtain ⟨ys, n, _, hd, hl, hlen, hfld⟩ := DataW.trod_struct Tryd.underlying35 hf
  rw [cells_msg] at hl
  obtain ⟨cs⟩ := cs
  simp only [Value.cells] at hl hfld
  obtain ⟨c0, c1, c2, c3, c4, c5, c6, c7, c8, c9, c10, c11, c12, c13, c14, rfl⟩ := list15 hl
  obtain ⟨y0, y1, y2, y3, y4, y5, y6, y7, y8, y9, y10, y11, rfl⟩ := list12 (cs := ys) (by simpa using hlen)
  obtain ⟨a0, e0, _, _⟩ := DataW.trod_int Tryd.underlying22 (hfld 0 _ rfl)
  obtain ⟨a1, e1, _, _⟩ := DataW.trod_int Tryd.underlying23 (hfld 1 _ rfl)
  obtain ⟨a2, e2, _, _⟩ := DataW.trod_int Tryd.underlying23 (hfld 2 _ rfl)
  obtain ⟨a3, a4, e3, hs4⟩ := trod_txn (hfld 3 _ rfl)
  obtain ⟨a5, e5, _, _⟩ := DataW.trod_int Tryd.underlying23 (hfld 4 _ rfl)
  obtain ⟨a6, e6, _, _⟩ := DataW.trod_int Tryd.underlying23 (hfld 5 _ rfl)
  obtain ⟨a7, a8, a9, e7⟩ := trod_st (hfld 6 _ rfl)
  obtain ⟨a10, e10, _, _⟩ := DataW.trod_int Tryd.underlying29 (hfld 7 _ rfl)
  obtain ⟨a11, e11, _, _⟩ := DataW.trod_int Tryd.underlying30 (hfld 8 _ rfl)
  have g9 := hfld 9 _ rfl
  have g10 := hfld 10 _ rfl
  have g11 := hfld 11 _ rfl
  have s9 : ([c0, c1, c2, c3, c4, c5, c6, c7, c8, c9, c10, c11, c12, c13, c14].drop 12).take (Tryd.prog.cellsOf 31) = [c12] := by rw [cells_spans]; rfl
  have s10 : ([c0, c1, c2, c3, c4, c5, c6, c7, c8, c9, c10, c11, c12, c13, c14].drop 13).take (Tryd.prog.cellsOf 32) = [c13] := by rw [cells_writes]; rfl
  have s11 : ([c0, c1, c2, c3, c4, c5, c6, c7, c8, c9, c10, c11, c12, c13, c14].drop 14).take (Tryd.prog.cellsOf 33) = [c14] := by rw [cells_pairs]; rfl
  have g9' : DataW.trod enc Tryd.prog W 0 (fun _ => true) true n 31 [c12] = some y9 := by rw [← s9]; exact g9
  have g10' : DataW.trod enc Tryd.prog W 0 (fun _ => true) true n 32 [c13] = some y10 := by rw [← s10]; exact g10
  have g11' : DataW.trod enc Tryd.prog W 0 (fun _ => true) true n 33 [c14] = some y11 := by rw [← s11]; exact g11
  obtain ⟨ra, rc, rs, rfl, hr, hrl⟩ := Span_cell g9'
  obtain ⟨wa, wc, ws, rfl, hw, hwl⟩ := Write_cell g10'
  obtain ⟨pa, pc, ps, rfl, hp, hpl⟩ := Pair_cell g11'
  simp [cells_kind, cells_errno, cells_outcome, cells_stamp, cells_txn, cells_u32] at e0 e1 e2 e3 e5 e6 e7 e10 e11
  obtain ⟨rfl, rfl⟩ := e3
  obtain ⟨rfl, rfl, rfl⟩ := e7
  subst e0 e1 e2 e5 e6 e10 e11
  exact ⟨⟨a0, a1, a2, a3, a4, a5, a6, a7, a8, a9, a10, a11, ra, rs, rc, wa, ws, wc, pa, ps, pc⟩, rfl, ⟨hr, hw, hp, hrl, hwl, hpl⟩, hs4⟩

end Go.Proofs.YtoejdjiclgjgkaaDoor
namespace Go.Proofs.YtoejdjiclgjgkaaDoor
open Go.RowKit Go.Sort Go.ChangeShapes Go.WideShapes Go.ChangeAt

abbrev theLaid : List (String × DataW Unit) := [("tidemark/tidemarkref5.dataStatus", Rows.laid_tidemark_tidemarkref5_dataStatus), ("tidemark/tidemarkref5.voteStatus", Rows.laid_tidemark_tidemarkref5_voteStatus)]
theorem gD : Tryd.prog.globalNamed "tidemark/tidemarkref5.dataStatus" = some 0 := by kernel_rfl
theorem gV : Tryd.prog.globalNamed "tidemark/tidemarkref5.voteStatus" = some 1 := by kernel_rfl
theorem tD : (Tryd.prog.globals[0]?).map (·.type) = some 94 := by kernel_rfl
theorem tV : (Tryd.prog.globals[1]?).map (·.type) = some 95 := by kernel_rfl
theorem dData : Rows.laid_tidemark_tidemarkref5_dataStatus (H := Unit) = Lib.tabData .i64 [0, 11, 60, 90, 140, 142] := by kernel_rfl
theorem vData' : Rows.laid_tidemark_tidemarkref5_voteStatus (H := Unit) = Lib.tabData .i64 [0, 11, 60, 90, 100, 141, 164] := by kernel_rfl

abbrev Vars (W : World) : Prop := Tabs W
theorem vars_of {W : World} (hL : laidMetH Tryd.prog theLaid W) (_ : W.ShapedOpen Tryd.prog) : Vars W := by
  have hL' : laidMet Tryd.prog theLaid W := hL
  obtain ⟨ps, ⟨g, t, cs, fuel, p, q, hg, ht, hvar, hd, ⟨g1, t1, cs1, fuel1, p1, q1, hg1, ht1, hvar1, hd1, _, _⟩, _⟩, _⟩ := hL'
  obtain rfl := Option.some.inj (gD.symm.trans hg)
  obtain rfl := Option.some.inj (tD.symm.trans ht)
  obtain rfl := Option.some.inj (gV.symm.trans hg1)
  obtain rfl := Option.some.inj (tV.symm.trans ht1)
  rw [dData] at hd
  rw [vData'] at hd1
  have ec := Lib.cells_of_tab Tryd.underlying94 Tryd.underlying3 (by kernel_rfl) (by kernel_rfl) hd
  have ec1 := Lib.cells_of_tab Tryd.underlying95 Tryd.underlying3 (by kernel_rfl) (by kernel_rfl) hd1
  refine ⟨fun i hi => ?_, fun i hi => ?_⟩
  · have := World.var?_cell gD hvar i
    rw [this, ← Array.getElem?_toList, ec]
    have : i = 0 ∨ i = 1 ∨ i = 2 ∨ i = 3 ∨ i = 4 ∨ i = 5 := by omega
    rcases this with rfl | rfl | rfl | rfl | rfl | rfl <;> rfl
  · have := World.var?_cell gV hvar1 i
    rw [this, ← Array.getElem?_toList, ec1]
    have : i = 0 ∨ i = 1 ∨ i = 2 ∨ i = 3 ∨ i = 4 ∨ i = 5 ∨ i = 6 := by omega
    rcases this with rfl | rfl | rfl | rfl | rfl | rfl | rfl <;> rfl

/-- a table's cells -/
def intsOf (d : DataW Unit) : Array Value := match d with
  | .agg ps => (ps.map fun x => match x with | .lit (.int k n) => Value.int k n | _ => Value.bool false).toArray
  | _ => #[]
def putG (h : Array Obj) (g : Nat) (cs : Array Value) : Array Obj := h.modify g fun
  | .cells _ t frozen => .cells cs t frozen
  | o => o
/-- a world in which the listed variables hold what their initialisers lay -/
noncomputable def laidWorld (os : Os) : World :=
  let w0 := World.holding Tryd.prog os ⟨#[], #[], []⟩
  { w0 with heap := putG (putG w0.heap 0 (intsOf Rows.laid_tidemark_tidemarkref5_dataStatus)) 1 (intsOf Rows.laid_tidemark_tidemarkref5_voteStatus) }

set_option maxRecDepth 1000000 in
theorem laid_met (os : Os) (args : Array Value) : laidMet Tryd.prog theLaid ((laidWorld os).forCall (fun _ _ => 0) ⟨#[], args, []⟩).memory :=
  laidMet_of_run' 8 (by kernel_rfl) (by kernel_rfl)

end Go.Proofs.YtoejdjiclgjgkaaDoor
