import Derived.Test.YtngnifemghahkaaGLaw
import Derived.OpenShut
import Derived.Deep.Slices
import Derived.Deep.DeepHandedRow
import Derived.ProofKit
import Derived.SizedLaws
/- The opening of a record. -/
namespace Go.Proofs.Ytngnifemghahkaa
open Go.ChangeShapes Go.WideShapes Go.ChangeAt Go.RowKit Go.Deep
set_option linter.unusedVariables false

theorem cells_str : Try.prog.cellsOf 9 = 1 := by kernel_rfl
theorem cells_bool : Try.prog.cellsOf 4 = 1 := by kernel_rfl
theorem cells_u64 : Try.prog.cellsOf 23 = 1 := by kernel_rfl
theorem cells_u32 : Try.prog.cellsOf 24 = 1 := by kernel_rfl
theorem cells_kind : Try.prog.cellsOf 22 = 1 := by kernel_rfl
theorem cells_outc : Try.prog.cellsOf 27 = 1 := by kernel_rfl
theorem cells_txn : Try.prog.cellsOf 26 = 2 := by kernel_rfl
theorem cells_stamp : Try.prog.cellsOf 29 = 3 := by kernel_rfl
theorem cells_spans : Try.prog.cellsOf 30 = 1 := by kernel_rfl
theorem cells_writes : Try.prog.cellsOf 31 = 1 := by kernel_rfl
theorem cells_Span : Try.prog.cellsOf 43 = 2 := by kernel_rfl
theorem cells_Write : Try.prog.cellsOf 45 = 3 := by kernel_rfl
theorem cells_rec : Try.prog.cellsOf 33 = 12 := by kernel_rfl
theorem bytes_Span : Try.prog.bytesOf 43 = 32 := by kernel_rfl
theorem bytes_Write : Try.prog.bytesOf 45 = 40 := by kernel_rfl
theorem list2 {α : Type} {cs : List α} (h : cs.length = 2) : ∃ c0 c1, cs = [c0, c1] := by
  match cs, h with
  | [c0, c1], _ => exact ⟨c0, c1, rfl⟩
theorem list3 {α : Type} {cs : List α} (h : cs.length = 3) : ∃ c0 c1 c2, cs = [c0, c1, c2] := by
  match cs, h with
  | [c0, c1, c2], _ => exact ⟨c0, c1, c2, rfl⟩
theorem list9 {α : Type} {cs : List α} (h : cs.length = 9) : ∃ c0 c1 c2 c3 c4 c5 c6 c7 c8, cs = [c0, c1, c2, c3, c4, c5, c6, c7, c8] := by
  match cs, h with
  | [c0, c1, c2, c3, c4, c5, c6, c7, c8], _ => exact ⟨c0, c1, c2, c3, c4, c5, c6, c7, c8, rfl⟩
theorem list12 {α : Type} {cs : List α} (h : cs.length = 12) : ∃ c0 c1 c2 c3 c4 c5 c6 c7 c8 c9 c10 c11, cs = [c0, c1, c2, c3, c4, c5, c6, c7, c8, c9, c10, c11] := by
  match cs, h with
  | [c0, c1, c2, c3, c4, c5, c6, c7, c8, c9, c10, c11], _ => exact ⟨c0, c1, c2, c3, c4, c5, c6, c7, c8, c9, c10, c11, rfl⟩

theorem trod_Span {H : Type} {enc : TypeId × Value → H} {w : World} {base : Nat} {spare : Nat → Bool} {held : Bool} {fuel : Nat} {cs : List Value} {y : DataW H × List MemPlace}
    (h : DataW.trod enc Try.prog w base spare held fuel 43 cs = some y) : ∃ x : T2, cs = [.string x.1, .string x.2] := by
  obtain ⟨ys, n, _, rfl, hl, hlen, hf⟩ := DataW.trod_struct Try.underlying43 h
  rw [cells_Span] at hl
  obtain ⟨c0, c1, rfl⟩ := list2 hl
  obtain ⟨y0, y1, rfl⟩ := list2 (cs := ys) (by simpa using hlen)
  obtain ⟨s0, e0, _, _⟩ := DataW.trod_string Try.underlying9 (hf 0 _ rfl)
  obtain ⟨s1, e1, _, _⟩ := DataW.trod_string Try.underlying9 (hf 1 _ rfl)
  simp [cells_str] at e0 e1
  subst e0 e1
  exact ⟨(s0, s1), rfl⟩
theorem trod_Write {H : Type} {enc : TypeId × Value → H} {w : World} {base : Nat} {spare : Nat → Bool} {held : Bool} {fuel : Nat} {cs : List Value} {y : DataW H × List MemPlace}
    (h : DataW.trod enc Try.prog w base spare held fuel 45 cs = some y) : ∃ x : Wr, cs = [.string x.key, .bool x.del, .string x.val] := by
  obtain ⟨ys, n, _, rfl, hl, hlen, hf⟩ := DataW.trod_struct Try.underlying45 h
  rw [cells_Write] at hl
  obtain ⟨c0, c1, c2, rfl⟩ := list3 hl
  obtain ⟨y0, y1, y2, rfl⟩ := list3 (cs := ys) (by simpa using hlen)
  obtain ⟨s0, e0, _, _⟩ := DataW.trod_string Try.underlying9 (hf 0 _ rfl)
  obtain ⟨b1, e1, _⟩ := DataW.trod_bool Try.underlying4 (hf 1 _ rfl)
  obtain ⟨s2, e2, _, _⟩ := DataW.trod_string Try.underlying9 (hf 2 _ rfl)
  simp [cells_str, cells_bool] at e0 e1 e2
  subst e0 e1 e2
  exact ⟨⟨s0, b1, s2⟩, rfl⟩
theorem trod_txn {H : Type} {enc : TypeId × Value → H} {w : World} {base : Nat} {spare : Nat → Bool} {held : Bool} {fuel : Nat} {cs : List Value} {y : DataW H × List MemPlace}
    (h : DataW.trod enc Try.prog w base spare held fuel 26 cs = some y) : ∃ a b : Int, cs = [.int .u32 a, .int .u32 b] ∧ 0 ≤ b := by
  obtain ⟨ys, n, _, rfl, hl, hlen, hf⟩ := DataW.trod_struct Try.underlying26 h
  rw [cells_txn] at hl
  obtain ⟨c0, c1, rfl⟩ := list2 hl
  obtain ⟨y0, y1, rfl⟩ := list2 (cs := ys) (by simpa using hlen)
  obtain ⟨s0, e0, _, _⟩ := DataW.trod_int Try.underlying24 (hf 0 _ rfl)
  obtain ⟨s1, e1, _, w1⟩ := DataW.trod_int Try.underlying24 (hf 1 _ rfl)
  simp [cells_u32] at e0 e1
  subst e0 e1
  exact ⟨s0, s1, rfl, (bounds_u32 w1).1⟩
theorem trod_st {H : Type} {enc : TypeId × Value → H} {w : World} {base : Nat} {spare : Nat → Bool} {held : Bool} {fuel : Nat} {cs : List Value} {y : DataW H × List MemPlace}
    (h : DataW.trod enc Try.prog w base spare held fuel 29 cs = some y) : ∃ a b c : Int, cs = [.int .u64 a, .int .u32 b, .int .u32 c] ∧ 0 ≤ a ∧ a ≤ 18446744073709551615 := by
  obtain ⟨ys, n, _, rfl, hl, hlen, hf⟩ := DataW.trod_struct Try.underlying29 h
  rw [cells_stamp] at hl
  obtain ⟨c0, c1, c2, rfl⟩ := list3 hl
  obtain ⟨y0, y1, y2, rfl⟩ := list3 (cs := ys) (by simpa using hlen)
  obtain ⟨s0, e0, _, w0⟩ := DataW.trod_int Try.underlying23 (hf 0 _ rfl)
  obtain ⟨s1, e1, _, _⟩ := DataW.trod_int Try.underlying24 (hf 1 _ rfl)
  obtain ⟨s2, e2, _, _⟩ := DataW.trod_int Try.underlying24 (hf 2 _ rfl)
  simp [cells_u32, cells_u64] at e0 e1 e2
  subst e0 e1 e2
  exact ⟨s0, s1, s2, rfl, bounds_u64 w0⟩

theorem Span_cell {H : Type} {enc : TypeId × Value → H} {W : World} {base fuel : Nat} {v : Value} {y : DataW H × List MemPlace}
    (hf : DataW.trod enc Try.prog W base (fun _ => true) true fuel 30 [v] = some y) :
    ∃ (a : Option Addr) (cap : Nat) (xs : List T2), v = .slice a xs.length cap ∧ Row2 W a xs ∧ xs.length ≤ 9223372036854775807 ∧ (xs.length = 0 ∨ ∃ el sp, y.1 = .slice el sp ∧ el.length = xs.length) := by
  rcases open_slice Try.underlying30 hf with ⟨e3, _⟩ | ⟨a, len, cap, m, n', D, Pl, e3, hb, hlc, hm, hmm, hxx, hel⟩
  · injection e3 with e3
    subst e3
    exact ⟨none, 0, [], rfl, fun i hi => by simp at hi, by simp, .inl rfl⟩
  · injection e3 with e3
    subst e3
    have hlm : len ≤ m := by rw [hmm]; split <;> omega
    have each : ∀ i, i < len → ∃ x : T2, ∃ bb off, a = ⟨bb, off, none⟩ ∧ W.cell? ⟨bb, off + i * 2, none⟩ = some (.string x.1) ∧ W.cell? ⟨bb, off + i * 2 + 1, none⟩ = some (.string x.2) := by
      intro i hi
      obtain ⟨cs', hc, ht⟩ := hel i (by omega)
      obtain ⟨x, rfl⟩ := trod_Span ht
      rw [cells_Span] at hc
      obtain ⟨_, _, hcell⟩ := World.cells?_some hc
      have e0 := hcell 0 (by omega)
      have e1 := hcell 1 (by omega)
      obtain ⟨bb, off, spot⟩ := a
      have hspot : spot = none := by
        obtain ⟨cs0, hc0, ht0⟩ := hel 0 (by omega)
        obtain ⟨y, rfl⟩ := trod_Span ht0
        simp only [cells_Span] at hc0
        obtain ⟨_, hl0, hcell0⟩ := World.cells?_some hc0
        have hv0 : W.cell? (((⟨bb, off, spot⟩ : Addr).add (0 * 2)).add 0) = some (.string y.1) := hcell0 0 (by omega)
        have hs := World.cell?_spot hv0
        clear hcell0 hcell e0 e1
        simpa [Addr.add] using hs
      subst hspot
      simp only [Addr.add_lit, Nat.add_zero] at e0 e1
      exact ⟨x, bb, off, rfl, by simpa using e0, by simpa using e1⟩
    obtain ⟨f, hq⟩ := @choose_lt T2 ⟨(⟨#[]⟩, ⟨#[]⟩)⟩ _ _ each
    refine ⟨some a, cap, (List.range len).map f, by simp, fun i hi => ?_, by simp [maxLen] at hm ⊢; omega, .inr ⟨_, _, by rw [hxx], by simp⟩⟩
    have hi' : i < len := by simpa using hi
    obtain ⟨bb, off, e, c0, c1⟩ := hq i hi'
    have hn : nth2 ((List.range len).map f) i = f i := by simp [nth2, hi']
    rw [hn]
    exact ⟨bb, off, by rw [e], c0, c1⟩
theorem Write_cell {H : Type} {enc : TypeId × Value → H} {W : World} {base fuel : Nat} {v : Value} {y : DataW H × List MemPlace}
    (hf : DataW.trod enc Try.prog W base (fun _ => true) true fuel 31 [v] = some y) :
    ∃ (a : Option Addr) (cap : Nat) (xs : List Wr), v = .slice a xs.length cap ∧ RowW W a xs ∧ xs.length ≤ 9223372036854775807 ∧ (xs.length = 0 ∨ ∃ el sp, y.1 = .slice el sp ∧ el.length = xs.length) := by
  rcases open_slice Try.underlying31 hf with ⟨e3, _⟩ | ⟨a, len, cap, m, n', D, Pl, e3, hb, hlc, hm, hmm, hxx, hel⟩
  · injection e3 with e3
    subst e3
    exact ⟨none, 0, [], rfl, fun i hi => by simp at hi, by simp, .inl rfl⟩
  · injection e3 with e3
    subst e3
    have hlm : len ≤ m := by rw [hmm]; split <;> omega
    have each : ∀ i, i < len → ∃ x : Wr, ∃ bb off, a = ⟨bb, off, none⟩ ∧ W.cell? ⟨bb, off + i * 3, none⟩ = some (.string x.key) ∧ W.cell? ⟨bb, off + i * 3 + 1, none⟩ = some (.bool x.del) ∧ W.cell? ⟨bb, off + i * 3 + 2, none⟩ = some (.string x.val) := by
      intro i hi
      obtain ⟨cs', hc, ht⟩ := hel i (by omega)
      obtain ⟨x, rfl⟩ := trod_Write ht
      rw [cells_Write] at hc
      obtain ⟨_, _, hcell⟩ := World.cells?_some hc
      have e0 := hcell 0 (by omega)
      have e1 := hcell 1 (by omega)
      have e2 := hcell 2 (by omega)
      obtain ⟨bb, off, spot⟩ := a
      have hspot : spot = none := by
        obtain ⟨cs0, hc0, ht0⟩ := hel 0 (by omega)
        obtain ⟨y, rfl⟩ := trod_Write ht0
        simp only [cells_Write] at hc0
        obtain ⟨_, hl0, hcell0⟩ := World.cells?_some hc0
        have hv0 : W.cell? (((⟨bb, off, spot⟩ : Addr).add (0 * 3)).add 0) = some (.string y.key) := hcell0 0 (by omega)
        have hs := World.cell?_spot hv0
        clear hcell0 hcell e0 e1 e2
        simpa [Addr.add] using hs
      subst hspot
      simp only [Addr.add_lit, Nat.add_zero] at e0 e1 e2
      exact ⟨x, bb, off, rfl, by simpa using e0, by simpa using e1, by simpa using e2⟩
    obtain ⟨f, hq⟩ := @choose_lt Wr ⟨⟨⟨#[]⟩, false, ⟨#[]⟩⟩⟩ _ _ each
    refine ⟨some a, cap, (List.range len).map f, by simp, fun i hi => ?_, by simp [maxLen] at hm ⊢; omega, .inr ⟨_, _, by rw [hxx], by simp⟩⟩
    have hi' : i < len := by simpa using hi
    obtain ⟨bb, off, e, c0, c1, c2⟩ := hq i hi'
    have hn : nthW ((List.range len).map f) i = f i := by simp [nthW, hi']
    rw [hn]
    exact ⟨bb, off, by rw [e], c0, c1, c2⟩

set_option maxRecDepth 16000 in
theorem open_record {H : Type} {enc : TypeId × Value → H} {W : World} {r : Reach} {b : Nat} {v : Value} {d : DataW H} {p : List MemPlace} {ts : List TypeId} {gs : List (DataW H)}
    (hv : Value.okWide Try.prog W r b 33 v) (h : DataW.Trod enc Try.prog W 0 (fun _ => true) true 33 v d p)
    (hsz : (DataW.weightsEach Try.prog (33 :: ts) (d :: gs)).all (· ≤ reachBytes) = true) :
    ∃ m : Rg, v = m.val ∧ m.ok W ∧ m.rs.length + 1 ≤ 8796093022208 ∧ m.ws.length + 1 ≤ 7036874417766 := by
  obtain ⟨cs, rfl, hs⟩ := okWide_struct Try.underlying33 hv
  obtain ⟨fuel, hf⟩ := h
  obtain ⟨ys, n, hfu, hd, hl, hlen, hfld⟩ := DataW.trod_struct Try.underlying33 hf
  rw [cells_rec] at hl
  obtain ⟨cs⟩ := cs
  simp only [Value.cells] at hl hfld
  obtain ⟨c0, c1, c2, c3, c4, c5, c6, c7, c8, c9, c10, c11, rfl⟩ := list12 hl
  obtain ⟨y0, y1, y2, y3, y4, y5, y6, y7, y8, rfl⟩ := list9 (cs := ys) (by simpa using hlen)
  obtain ⟨a0, e0, _, _⟩ := DataW.trod_int Try.underlying22 (hfld 0 _ rfl)
  obtain ⟨a1, e1, _, _⟩ := DataW.trod_int Try.underlying23 (hfld 1 _ rfl)
  obtain ⟨a2, a3, e2, ht⟩ := trod_txn (hfld 2 _ rfl)
  obtain ⟨a4, e4, _, _⟩ := DataW.trod_int Try.underlying24 (hfld 3 _ rfl)
  obtain ⟨a5, e5, _, _⟩ := DataW.trod_int Try.underlying27 (hfld 4 _ rfl)
  obtain ⟨a6, a7, a8, e6, hst⟩ := trod_st (hfld 5 _ rfl)
  have g6 := hfld 6 _ rfl
  have g7 := hfld 7 _ rfl
  obtain ⟨s8, e8, _, _⟩ := DataW.trod_string Try.underlying9 (hfld 8 _ rfl)
  have s6 : ([c0, c1, c2, c3, c4, c5, c6, c7, c8, c9, c10, c11].drop 9).take (Try.prog.cellsOf 30) = [c9] := by rw [cells_spans]; rfl
  have s7 : ([c0, c1, c2, c3, c4, c5, c6, c7, c8, c9, c10, c11].drop 10).take (Try.prog.cellsOf 31) = [c10] := by rw [cells_writes]; rfl
  have g6' : DataW.trod enc Try.prog W 0 (fun _ => true) true n 30 [c9] = some y6 := by rw [← s6]; exact g6
  have g7' : DataW.trod enc Try.prog W 0 (fun _ => true) true n 31 [c10] = some y7 := by rw [← s7]; exact g7
  obtain ⟨ra, rc, rs, rfl, hr, hrl, hrw⟩ := Span_cell g6'
  obtain ⟨wa, wc, ws, rfl, hw, hwl, hww⟩ := Write_cell g7'
  have hd1 : d = .agg [y0.1, y1.1, y2.1, y3.1, y4.1, y5.1, y6.1, y7.1, y8.1] := by injection hd
  have hin : ∀ k ∈ d.weights Try.prog 33, k ≤ reachBytes := fun k hk => by
    have := List.all_eq_true.1 hsz k (DataW.weights_mem_each (j := 0) rfl rfl k hk)
    simpa using this
  have hb6 : rs.length + 1 ≤ 8796093022208 := by
    rcases hrw with e | ⟨el, sp, e, e'⟩
    · omega
    · have := hin ((el.length + sp.length) * Try.prog.bytesOf 43) (by
        rw [hd1]
        simp only [DataW.weights, Try.underlying33]
        exact DataW.weights_mem_each (j := 6) (t := 30) (d := y6.1) rfl rfl _ (by rw [e]; simp [DataW.weights, Try.underlying30]))
      rw [bytes_Span] at this
      simp only [reachBytes] at this
      omega
  have hb7 : ws.length + 1 ≤ 7036874417766 := by
    rcases hww with e | ⟨el, sp, e, e'⟩
    · omega
    · have := hin ((el.length + sp.length) * Try.prog.bytesOf 45) (by
        rw [hd1]
        simp only [DataW.weights, Try.underlying33]
        exact DataW.weights_mem_each (j := 7) (t := 31) (d := y7.1) rfl rfl _ (by rw [e]; simp [DataW.weights, Try.underlying31]))
      rw [bytes_Write] at this
      simp only [reachBytes] at this
      omega
  simp [cells_kind, cells_u64, cells_u32, cells_outc, cells_txn, cells_stamp, cells_str] at e0 e1 e2 e4 e5 e6 e8
  obtain ⟨e2, e3⟩ := e2
  obtain ⟨e6, e7, e9⟩ := e6
  subst e0 e1 e2 e3 e4 e5 e6 e7 e8 e9
  exact ⟨⟨a0, a1, a2, a3, a4, a5, a6, a7, a8, ra, rs, rc, wa, ws, wc, s8⟩, rfl, ⟨hr, hw, hrl, hwl, ht, hst⟩, hb6, hb7⟩

theorem opened_of (V : FaceV) {H : Type} {enc : TypeId × Value → H} {W : World} {r : Reach} {b : Nat} {v : Value} {d : DataW H} {p : List MemPlace} {ts : List TypeId} {gs : List (DataW H)}
    (hv : Value.okWide Try.prog W r b 33 v) (h : DataW.Trod enc Try.prog W 0 (fun _ => true) true 33 v d p)
    (hsz : (DataW.weightsEach Try.prog (33 :: ts) (d :: gs)).all (· ≤ reachBytes) = true) :
    Calls Try.prog 3 #[v] W fun e w' => e = .returned (.bool true) ∧ Below W.heap.size W w' := by
  obtain ⟨m, rfl, h1, h2, h3⟩ := open_record hv h hsz
  exact law_valids V h1 h2 h3

end Go.Proofs.Ytngnifemghahkaa
