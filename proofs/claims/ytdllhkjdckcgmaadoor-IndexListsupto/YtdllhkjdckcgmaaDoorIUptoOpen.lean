import Derived.Test.YtdllhkjdckcgmaaDoorIOpen
import Derived.Test.YtdllhkjdckcgmaaDoorRows
/- Opening a script whose bulk is small. -/
namespace Go.Proofs.YtdllhkjdckcgmaaDoor
open Go.ChangeShapes Go.WideShapes Go.ChangeAt Go.RowKit Go.Deep
set_option linter.unusedVariables false

theorem bulk_pos {H : Type} (d : DataW H) : 1 ≤ Rows.uptoBulk d := by
  cases d with
  | lit l => cases l <;> simp [Rows.uptoBulk]
  | _ => simp [Rows.uptoBulk]
theorem bulkAll_app {H : Type} (l r : List (DataW H)) : Rows.uptoBulkAll (l ++ r) = Rows.uptoBulkAll l + Rows.uptoBulkAll r := by
  induction l with
  | nil => simp [Rows.uptoBulkAll]
  | cons x l ih => simp only [List.cons_append, Rows.uptoBulkAll, ih]; omega
theorem bulkAll_seven {H : Type} (D : Nat → DataW H) : ∀ n, (∀ i, i < n → 7 ≤ Rows.uptoBulk (D i)) → 7 * n ≤ Rows.uptoBulkAll ((List.range n).map D) ∧ ∀ i, i < n → Rows.uptoBulk (D i) ≤ Rows.uptoBulkAll ((List.range n).map D)
  | 0, _ => by simp [Rows.uptoBulkAll]
  | n + 1, h => by
    have ih := bulkAll_seven D n (fun i hi => h i (by omega))
    have e : Rows.uptoBulkAll ((List.range (n + 1)).map D) = Rows.uptoBulkAll ((List.range n).map D) + Rows.uptoBulk (D n) := by
      rw [List.range_succ, List.map_append, bulkAll_app]; simp [Rows.uptoBulkAll]
    have := h n (by omega)
    rw [e]
    refine ⟨by omega, fun i hi => ?_⟩
    rcases Nat.lt_or_ge i n with h1 | h1
    · have := ih.2 i h1; omega
    · obtain rfl : i = n := by omega
      omega

theorem trod_opU {H : Type} {enc : TypeId × Value → H} {w : World} {base : Nat} {spare : Nat → Bool} {held : Bool} {fuel : Nat} {cs : List Value} {y : DataW H × List MemPlace}
    (h : DataW.trod enc Tryd.prog w base spare held fuel 33 cs = some y) :
    ∃ x : Ao, cs = [.int .i64 x.k, .int .i64 x.pl, .string x.key, .string x.hi, .int .i64 x.v, .int .i64 x.st] ∧ x.key.size ≤ Rows.uptoBulk y.1 ∧ x.hi.size ≤ Rows.uptoBulk y.1 ∧ 7 ≤ Rows.uptoBulk y.1 := by
  obtain ⟨ys, n, hy, rfl, hl, hlen, hf⟩ := DataW.trod_struct Tryd.underlying33 h
  rw [cells_op] at hl
  obtain ⟨c0, c1, c2, c3, c4, c5, rfl⟩ := list6 hl
  obtain ⟨y0, y1, y2, y3, y4, y5, rfl⟩ := list6 (cs := ys) (by simpa using hlen)
  obtain ⟨a0, e0, _, w0⟩ := DataW.trod_int Tryd.underlying3 (hf 0 _ rfl)
  obtain ⟨a1, e1, _, w1⟩ := DataW.trod_int Tryd.underlying3 (hf 1 _ rfl)
  obtain ⟨s2, e2, x2, _⟩ := DataW.trod_string Tryd.underlying9 (hf 2 _ rfl)
  obtain ⟨s3, e3, x3, _⟩ := DataW.trod_string Tryd.underlying9 (hf 3 _ rfl)
  obtain ⟨a4, e4, _, w4⟩ := DataW.trod_int Tryd.underlying3 (hf 4 _ rfl)
  obtain ⟨a5, e5, _, w5⟩ := DataW.trod_int Tryd.underlying3 (hf 5 _ rfl)
  simp [cells_str, cells_int] at e0 e1 e2 e3 e4 e5
  subst e0 e1 e2 e3 e4 e5
  have p2 : Rows.uptoBulk y2.1 = s2.size + 1 := by rw [x2]; simp [Rows.uptoBulk]
  have p3 : Rows.uptoBulk y3.1 = s3.size + 1 := by rw [x3]; simp [Rows.uptoBulk]
  have q0 := bulk_pos y0.1
  have q1 := bulk_pos y1.1
  have q4 := bulk_pos y4.1
  have q5 := bulk_pos y5.1
  refine ⟨⟨a0, a1, s2, s3, a4, a5⟩, rfl, ?_, ?_, ?_⟩ <;>
  · simp only [List.map_cons, List.map_nil, Rows.uptoBulk, Rows.uptoBulkAll]
    omega

theorem opsU_cell {H : Type} {enc : TypeId × Value → H} {W : World} {base fuel : Nat} {v : Value} {y : DataW H × List MemPlace}
    (hf : DataW.trod enc Tryd.prog W base (fun _ => true) true fuel 22 [v] = some y) (hk : Rows.uptoBulk y.1 ≤ 1048576) :
    ∃ (a : Option Addr) (cap : Nat) (xs : List Ao), v = .slice a xs.length cap ∧ RowO W a xs ∧ xs.length ≤ 149797 ∧ xs.length ≤ cap ∧ (∀ x ∈ xs, x.key.size ≤ 1048576) ∧ (∀ x ∈ xs, x.hi.size ≤ 1048576) := by
  rcases open_slice Tryd.underlying22 hf with ⟨e3, _⟩ | ⟨a, len, cap, m, n', D, Pl, e3, hb, hlc, hm, hmm, hxx, hel⟩
  · injection e3 with e3
    subst e3
    exact ⟨none, 0, [], rfl, fun i hi => by simp at hi, by simp, by simp, fun x hx => (by simp at hx), fun x hx => (by simp at hx)⟩
  · injection e3 with e3
    subst e3
    have hlm : len ≤ m := by rw [hmm]; split <;> omega
    have hx1 := congrArg Prod.fst hxx
    have each : ∀ i, i < len → ∃ x : Ao, (x.key.size ≤ Rows.uptoBulk (D i) ∧ x.hi.size ≤ Rows.uptoBulk (D i) ∧ 7 ≤ Rows.uptoBulk (D i)) ∧ ∃ bb off, a = ⟨bb, off, none⟩ ∧ W.cell? ⟨bb, off + i * 6, none⟩ = some (.int .i64 x.k) ∧ W.cell? ⟨bb, off + i * 6 + 1, none⟩ = some (.int .i64 x.pl) ∧ W.cell? ⟨bb, off + i * 6 + 2, none⟩ = some (.string x.key)
        ∧ W.cell? ⟨bb, off + i * 6 + 3, none⟩ = some (.string x.hi) ∧ W.cell? ⟨bb, off + i * 6 + 4, none⟩ = some (.int .i64 x.v) ∧ W.cell? ⟨bb, off + i * 6 + 5, none⟩ = some (.int .i64 x.st) := by
      intro i hi
      obtain ⟨cs', hc, ht⟩ := hel i (by omega)
      obtain ⟨x, rfl, hy1, hy2, hy3⟩ := trod_opU ht
      rw [cells_op] at hc
      obtain ⟨_, _, hcell⟩ := World.cells?_some hc
      have e0 := hcell 0 (by omega)
      have e1 := hcell 1 (by omega)
      have e2 := hcell 2 (by omega)
      have e3 := hcell 3 (by omega)
      have e4 := hcell 4 (by omega)
      have e5 := hcell 5 (by omega)
      obtain ⟨bb, off, spot⟩ := a
      have hspot : spot = none := by
        obtain ⟨cs0, hc0, ht0⟩ := hel 0 (by omega)
        obtain ⟨y, rfl, -, -, -⟩ := trod_opU ht0
        simp only [cells_op] at hc0
        obtain ⟨_, hl0, hcell0⟩ := World.cells?_some hc0
        have hv0 : W.cell? (((⟨bb, off, spot⟩ : Addr).add (0 * 6)).add 0) = some (.int .i64 y.k) := hcell0 0 (by omega)
        have hs := World.cell?_spot hv0
        clear hcell0 hcell e0 e1 e2 e3 e4 e5
        simpa [Addr.add] using hs
      subst hspot
      simp only [Addr.add_lit, Nat.add_zero] at e0 e1 e2 e3 e4 e5
      exact ⟨x, ⟨hy1, hy2, hy3⟩, bb, off, rfl, by simpa using e0, by simpa using e1, by simpa using e2, by simpa using e3, by simpa using e4, by simpa using e5⟩
    obtain ⟨f, hq⟩ := @choose_lt Ao ⟨zao⟩ _ _ each
    obtain ⟨hb1, hb2⟩ := bulkAll_seven D len (fun i hi => (hq i hi).1.2.2)
    have hd : Rows.uptoBulkAll ((List.range len).map D) ≤ 1048576 := by
      rw [hx1] at hk
      simp only [Rows.uptoBulk] at hk
      omega
    refine ⟨some a, cap, (List.range len).map f, by simp, fun i hi => ?_, by simp; omega, by simpa using hlc, fun x hx => ?_, fun x hx => ?_⟩
    · have hi' : i < len := by simpa using hi
      obtain ⟨_, bb, off, e, c⟩ := hq i hi'
      have hn : nthO ((List.range len).map f) i = f i := by simp [nthO, hi']
      rw [hn]
      exact ⟨bb, off, by rw [e], c⟩
    · obtain ⟨i, hi, rfl⟩ := List.mem_map.1 hx
      have h1 := (hq i (List.mem_range.1 hi)).1.1
      have h2 := hb2 i (List.mem_range.1 hi)
      omega
    · obtain ⟨i, hi, rfl⟩ := List.mem_map.1 hx
      have h1 := (hq i (List.mem_range.1 hi)).1.2.1
      have h2 := hb2 i (List.mem_range.1 hi)
      omega

theorem open_upto {H : Type} {enc : TypeId × Value → H} {W : World} {r : Reach} {b : Nat} {v : Value} {d : DataW H} {p : List MemPlace}
    (hv : Value.okWide Tryd.prog W r b 22 v) (h : DataW.Trod enc Tryd.prog W 0 (fun _ => true) true 22 v d p) (hk : Rows.uptoBulk d ≤ 1048576) :
    ∃ (a : Option Addr) (cap : Nat) (xs : List Ao), v = .slice a xs.length cap ∧ RowO W a xs ∧ xs.length ≤ 149797 ∧ xs.length ≤ cap ∧ (∀ x ∈ xs, x.key.size ≤ 1048576) ∧ (∀ x ∈ xs, x.hi.size ≤ 1048576) := by
  obtain ⟨a0, len, cap, rfl⟩ := okWide_slice Tryd.underlying22 hv
  obtain ⟨fuel, hf⟩ := h
  exact opsU_cell (y := (d, p)) hf hk

end Go.Proofs.YtdllhkjdckcgmaaDoor
