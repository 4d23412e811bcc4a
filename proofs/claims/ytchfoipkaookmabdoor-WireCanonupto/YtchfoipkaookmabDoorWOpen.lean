import Derived.Test.YtchfoipkaookmabDoorOpens
import Derived.Test.YtchfoipkaookmabDoorWAdded
import Derived.Deep.DeepHandedRow
import Derived.Deep.DeepWitnessRowRef
import Derived.Lib.LaidTab
import Derived.LaidLaws
import Derived.ProofKit
namespace Go.Proofs.YtchfoipkaookmabDoor
open Go.ChangeShapes Go.WideShapes Go.ChangeAt Go.RowKit Go.Deep
set_option linter.unusedVariables false

theorem cells_item : Tryd.prog.cellsOf 41 = 7 := by kernel_rfl
theorem cells_int : Tryd.prog.cellsOf 3 = 1 := by kernel_rfl
theorem cells_str : Tryd.prog.cellsOf 9 = 1 := by kernel_rfl
theorem cells_strs : Tryd.prog.cellsOf 36 = 1 := by kernel_rfl
theorem u64_le {a : Int} (h : (Lit.int .u64 a).wf = true) : 0 ≤ a ∧ a ≤ 18446744073709551615 := by
  simp [Lit.wf, IntKind.min, IntKind.max, IntKind.bits, IntKind.signed] at h; omega
theorem u32_le {a : Int} (h : (Lit.int .u32 a).wf = true) : 0 ≤ a ∧ a ≤ 4294967295 := by
  simp [Lit.wf, IntKind.min, IntKind.max, IntKind.bits, IntKind.signed] at h; omega
theorem bulk_pos {H : Type} (d : DataW H) : 1 ≤ Rows.uptoBulk d := by
  cases d with
  | lit l => cases l <;> simp [Rows.uptoBulk]
  | _ => simp [Rows.uptoBulk]

/-- a list of texts, as numbers -/
def numsL (Sx : Nat → ByteArray) (n : Nat) : List (List Nat) := (List.range n).map fun i => nums (Sx i)
theorem numsL_length (Sx : Nat → ByteArray) (n : Nat) : (numsL Sx n).length = n := by simp [numsL]
theorem numsL_get {Sx : Nat → ByteArray} {n i : Nat} {t : List Nat} (h : (numsL Sx n)[i]? = some t) : i < n ∧ t = nums (Sx i) := by
  simp only [numsL, List.getElem?_map, Option.map_eq_some_iff] at h
  obtain ⟨j, h1, h2⟩ := h
  have hi : i < n := by
    rcases Nat.lt_or_ge i n with h3 | h3
    · exact h3
    · rw [List.getElem?_eq_none (by simpa using h3)] at h1; cases h1
  rw [List.getElem?_range hi] at h1
  injection h1 with h1
  subst h1
  exact ⟨hi, h2.symm⟩
theorem numsL_bulk {H : Type} (Sx : Nat → ByteArray) (hs : ∀ i, (Sx i).size < 18446744073709551616) : ∀ n, n + ((numsL Sx n).flatMap eText).length ≤ 11 * Rows.uptoBulkAll ((List.range n).map fun i => (DataW.lit (.string (Sx i).data.toList) : DataW H))
  | 0 => by simp [numsL, Rows.uptoBulkAll]
  | n + 1 => by
    have ih := numsL_bulk (H := H) Sx hs n
    have happ : ∀ (l r : List (DataW H)), Rows.uptoBulkAll (l ++ r) = Rows.uptoBulkAll l + Rows.uptoBulkAll r := by
      intro l r
      induction l with
      | nil => simp [Rows.uptoBulkAll]
      | cons x l ih => simp only [List.cons_append, Rows.uptoBulkAll, ih]; omega
    have h1 := eText_length_le (nums (Sx n)) (by rw [nums_length]; exact hs n)
    have e1 : numsL Sx (n + 1) = numsL Sx n ++ [nums (Sx n)] := by simp [numsL, List.range_succ]
    rw [e1, List.range_succ, List.map_append, happ, List.flatMap_append, List.length_append]
    have h2 : ([nums (Sx n)].flatMap eText).length = (eText (nums (Sx n))).length := by simp
    have h3 : Rows.uptoBulkAll ([n].map fun i => (DataW.lit (.string (Sx i).data.toList) : DataW H)) = (Sx n).size + 1 := by
      simp [Rows.uptoBulkAll, Rows.uptoBulk]
    rw [h2, h3]
    rw [nums_length] at h1
    omega

section
variable {H : Type} {enc : TypeId × Value → H} {w : World} {base : Nat} {spare : Nat → Bool} {held : Bool}

/-- a []string's cell -/
theorem trod_texts {fuel : Nat} {c : Value} {y : DataW H × List MemPlace} (h : DataW.trod enc Tryd.prog w base spare held fuel 36 [c] = some y) :
    ∃ (a : Option Addr) (cap : Nat) (l : List (List Nat)), c = .slice a l.length cap ∧ TRow w a l ∧ l.length + (l.flatMap eText).length ≤ 11 * Rows.uptoBulk y.1 := by
  rcases open_strs Tryd.underlying36 Tryd.underlying9 cells_str h with ⟨e1, e2⟩ | ⟨a, len, cap, m, Sx, e1, hb, hlc, hm, hmm, e2, hc⟩
  · injection e1 with e1
    subst e1
    exact ⟨none, 0, [], rfl, fun i t e => by simp at e, by simp⟩
  · injection e1 with e1
    subst e1
    have hlm : len ≤ m := by rw [hmm]; split <;> omega
    obtain ⟨Sy, hSy⟩ : ∃ Sy : Nat → ByteArray, ∀ i, Sy i = if i < m then Sx i else ByteArray.empty := ⟨_, fun _ => rfl⟩
    have hsz : ∀ i, (Sy i).size < 18446744073709551616 := fun i => by
      rw [hSy]
      split
      · rename_i hi
        have := (hc i hi).2
        simp [maxLen] at this
        omega
      · decide
    refine ⟨some a, cap, numsL Sy len, by rw [numsL_length], fun i t e => ?_, ?_⟩
    · obtain ⟨hi, rfl⟩ := numsL_get e
      refine ⟨nums_b8 _, ?_⟩
      have h1 := (hc i (by omega)).1
      obtain ⟨bb, off, spot⟩ := a
      have hspot : spot = none := by
        have := World.cell?_spot (hc 0 (by omega)).1
        simpa [Addr.add] using this
      subst hspot
      refine ⟨bb, off, rfl, ?_⟩
      rw [ofNats_nums, hSy, if_pos (by omega)]
      simpa [Addr.add_lit] using h1
    · rw [numsL_length]
      have := numsL_bulk (H := H) Sy hsz len
      rw [e2]
      simp only [Rows.uptoBulk]
      have e3 : (List.range len).map (fun i => (DataW.lit (.string (Sx i).data.toList) : DataW H)) = (List.range len).map (fun i => (DataW.lit (.string (Sy i).data.toList) : DataW H)) := by
        refine List.map_congr_left fun i hi => ?_
        have := List.mem_range.1 hi
        rw [hSy, if_pos (by omega)]
      rw [e3]
      omega

theorem list7 {α : Type} {cs : List α} (h : cs.length = 7) : ∃ c0 c1 c2 c3 c4 c5 c6, cs = [c0, c1, c2, c3, c4, c5, c6] := by
  match cs, h with
  | [c0, c1, c2, c3, c4, c5, c6], _ => exact ⟨c0, c1, c2, c3, c4, c5, c6, rfl⟩
theorem list5y {α : Type} {cs : List α} (h : cs.length = 5) : ∃ c0 c1 c2 c3 c4, cs = [c0, c1, c2, c3, c4] := by
  match cs, h with
  | [c0, c1, c2, c3, c4], _ => exact ⟨c0, c1, c2, c3, c4, rfl⟩

theorem trod_item {fuel : Nat} {cs : List Value} {y : DataW H × List MemPlace} (h : DataW.trod enc Tryd.prog w base spare held fuel 41 cs = some y) :
    ∃ x : It, cs = x.cells.toList ∧ x.n < 18446744073709551616 ∧ B8 x.s ∧ TRow w x.a x.l ∧ x.st.ok ∧ x.bulk ≤ 15 * Rows.uptoBulk y.1 := by
  obtain ⟨ys, n, _, rfl, hl, hlen, hf⟩ := DataW.trod_struct Tryd.underlying41 h
  rw [cells_item] at hl
  obtain ⟨c0, c1, c2, c3, c4, c5, c6, rfl⟩ := list7 hl
  obtain ⟨y0, y1, y2, y3, y4, rfl⟩ := list5y (cs := ys) (by simpa using hlen)
  have h0 := hf 0 _ rfl
  have h1 := hf 1 _ rfl
  have h2 := hf 2 _ rfl
  have h3 := hf 3 _ rfl
  have h4 := hf 4 _ rfl
  obtain ⟨a0, e0, _, w0⟩ := DataW.trod_int Tryd.underlying3 h0
  obtain ⟨a1, e1, _, w1⟩ := DataW.trod_int Tryd.underlying35 h1
  obtain ⟨s, e2, d2, w2⟩ := DataW.trod_string Tryd.underlying9 h2
  have h3' : DataW.trod enc Tryd.prog w base spare held n 36 [c3] = some y3 := by
    have e : ([c0, c1, c2, c3, c4, c5, c6].drop 3).take (Tryd.prog.cellsOf 36) = [c3] := by rw [cells_strs]; rfl
    have h3'' : DataW.trod enc Tryd.prog w base spare held n 36 (([c0, c1, c2, c3, c4, c5, c6].drop 3).take (Tryd.prog.cellsOf 36)) = some y3 := h3
    rw [e] at h3''
    exact h3''
  obtain ⟨a, cap, l, e3, hr, hbl⟩ := trod_texts h3'
  obtain ⟨b0, b1, b2, e4, v0, v1, v2⟩ := trod_stamp h4
  simp [cells_stamp, cells_int, cells_u64, cells_str] at e0 e1 e2 e4
  obtain ⟨rfl, rfl, rfl⟩ := e4
  subst e0 e1 e2 e3
  obtain ⟨k, rfl⟩ := Int.eq_ofNat_of_zero_le (u64_le w1).1
  have hk := (u64_le w1).2
  refine ⟨⟨a0, k, nums s, l, ⟨b0, b1, b2⟩, a, cap⟩, ?_, (by show k < _; omega), nums_b8 s, hr, ⟨u64_le v0, u32_le v1, u32_le v2⟩, ?_⟩
  · simp [ofNats_nums]
  · have d2' : y2.1 = .lit (.string s.data.toList) := by rw [d2]
    have p0 := bulk_pos y0.1
    have p1 := bulk_pos y1.1
    have p4 := bulk_pos y4.1
    have p3 := bulk_pos y3.1
    have p2 : Rows.uptoBulk y2.1 = s.size + 1 := by rw [d2']; simp [Rows.uptoBulk]
    unfold It.bulk
    simp only [List.map_cons, List.map_nil, Rows.uptoBulk, Rows.uptoBulkAll, nums_length]
    omega
end

theorem bulkAll_map {H : Type} (f : Nat → It) (D : Nat → DataW H) : ∀ n, (∀ i, i < n → (f i).bulk ≤ 15 * Rows.uptoBulk (D i)) → bulks ((List.range n).map f) ≤ 15 * Rows.uptoBulkAll ((List.range n).map D) ∧ n ≤ Rows.uptoBulkAll ((List.range n).map D)
  | 0, _ => by simp [bulks, Rows.uptoBulkAll]
  | n + 1, h => by
    obtain ⟨h1, h2⟩ := bulkAll_map f D n (fun i hi => h i (by omega))
    have happ : ∀ (l r : List (DataW H)), Rows.uptoBulkAll (l ++ r) = Rows.uptoBulkAll l + Rows.uptoBulkAll r := by
      intro l r
      induction l with
      | nil => simp [Rows.uptoBulkAll]
      | cons x l ih => simp only [List.cons_append, Rows.uptoBulkAll, ih]; omega
    have h3 := h n (by omega)
    have h4 := bulk_pos (D n)
    rw [List.range_succ, List.map_append, List.map_append, happ]
    have e1 : bulks ((List.range n).map f ++ [n].map f) = bulks ((List.range n).map f) + (f n).bulk := by simp [bulks]
    have e2 : Rows.uptoBulkAll ([n].map D) = Rows.uptoBulk (D n) := by simp [Rows.uptoBulkAll]
    rw [e1, e2]
    omega
theorem mem_bulks {xs : List It} {x : It} (h : x ∈ xs) : x.bulk ≤ bulks xs := by
  obtain ⟨i, hi, e⟩ := List.getElem_of_mem h
  have := bulks_mem (xs := xs) (i := i) (x := x) (by rw [List.getElem?_eq_getElem hi, e])
  omega

/-- the cell of a row of items -/
theorem items_cell {H : Type} {enc : TypeId × Value → H} {W : World} {base fuel : Nat} {v : Value} {y : DataW H × List MemPlace}
    (hf : DataW.trod enc Tryd.prog W base (fun _ => true) true fuel 22 [v] = some y) (hk : Rows.uptoBulk y.1 ≤ 1048576) :
    ∃ (a : Option Addr) (cap : Nat) (xs : List It), v = .slice a xs.length cap ∧ IRow W a xs ∧ xs.length ≤ 1048576 ∧ bulks xs ≤ 536870912 := by
  rcases open_slice Tryd.underlying22 hf with ⟨e3, _⟩ | ⟨a, len, cap, m, n', D, Pl, e3, hb, hlc, hm, hmm, hxx, hel⟩
  · injection e3 with e3
    subst e3
    exact ⟨none, 0, [], rfl, fun i x e => by simp at e, by simp, by simp [bulks]⟩
  · injection e3 with e3
    subst e3
    have hlm : len ≤ m := by rw [hmm]; split <;> omega
    have hx1 := congrArg Prod.fst hxx
    have each : ∀ i, i < len → ∃ x : It, (x.n < 18446744073709551616 ∧ B8 x.s ∧ TRow W x.a x.l ∧ x.st.ok ∧ x.bulk ≤ 15 * Rows.uptoBulk (D i)) ∧ ∃ bb off, a = ⟨bb, off, none⟩ ∧ W.cell? ⟨bb, off + i * 7, none⟩ = some (.int .i64 x.kind) ∧ W.cell? ⟨bb, off + i * 7 + 1, none⟩ = some (.int .u64 (x.n : Int)) ∧ W.cell? ⟨bb, off + i * 7 + 2, none⟩ = some (.string (ofNats x.s)) ∧ W.cell? ⟨bb, off + i * 7 + 3, none⟩ = some (.slice x.a x.l.length x.cap)
        ∧ W.cell? ⟨bb, off + i * 7 + 4, none⟩ = some (.int .u64 x.st.w) ∧ W.cell? ⟨bb, off + i * 7 + 5, none⟩ = some (.int .u32 x.st.l) ∧ W.cell? ⟨bb, off + i * 7 + 6, none⟩ = some (.int .u32 x.st.n) := by
      intro i hi
      obtain ⟨cs', hc, ht⟩ := hel i (by omega)
      obtain ⟨x, rfl, k1, k2, k3, k4, k5⟩ := trod_item ht
      rw [cells_item] at hc
      obtain ⟨_, _, hcell⟩ := World.cells?_some hc
      have e0 := hcell 0 (by omega)
      have e1 := hcell 1 (by omega)
      have e2 := hcell 2 (by omega)
      have e3 := hcell 3 (by omega)
      have e4 := hcell 4 (by omega)
      have e5 := hcell 5 (by omega)
      have e6 := hcell 6 (by omega)
      obtain ⟨bb, off, spot⟩ := a
      have hspot : spot = none := by
        obtain ⟨cs0, hc0, ht0⟩ := hel 0 (by omega)
        obtain ⟨y, rfl, -⟩ := trod_item ht0
        simp only [cells_item] at hc0
        obtain ⟨_, hl0, hcell0⟩ := World.cells?_some hc0
        have hv0 : W.cell? (((⟨bb, off, spot⟩ : Addr).add (0 * 7)).add 0) = some (.int .i64 y.kind) := hcell0 0 (by omega)
        have hs := World.cell?_spot hv0
        clear hcell0 hcell e0 e1 e2 e3 e4 e5 e6
        simpa [Addr.add] using hs
      subst hspot
      simp only [Addr.add_lit, Nat.add_zero] at e0 e1 e2 e3 e4 e5 e6
      exact ⟨x, ⟨k1, k2, k3, k4, k5⟩, bb, off, rfl, by simpa using e0, by simpa using e1, by simpa using e2, by simpa using e3, by simpa using e4, by simpa using e5, by simpa using e6⟩
    obtain ⟨f, hq⟩ := @choose_lt It ⟨⟨0, 0, [], [], ⟨0, 0, 0⟩, none, 0⟩⟩ _ _ each
    obtain ⟨hb1, hb2⟩ := bulkAll_map f D len (fun i hi => (hq i hi).1.2.2.2.2)
    have hd : Rows.uptoBulkAll ((List.range len).map D) ≤ 1048576 := by
      rw [hx1] at hk
      simp only [Rows.uptoBulk] at hk
      omega
    have hbb : bulks ((List.range len).map f) ≤ 536870912 := by omega
    refine ⟨some a, cap, (List.range len).map f, by simp, fun i x e => ?_, by simp; omega, hbb⟩
    simp only [List.getElem?_map, Option.map_eq_some_iff] at e
    obtain ⟨j, h1, h2⟩ := e
    have hi : i < len := by
      rcases Nat.lt_or_ge i len with h3 | h3
      · exact h3
      · rw [List.getElem?_eq_none (by simpa using h3)] at h1; cases h1
    rw [List.getElem?_range hi] at h1
    injection h1 with h1
    subst h1 h2
    obtain ⟨⟨k1, k2, k3, k4, k5⟩, bb, off, e, c0, c1, c2, c3, c4, c5, c6⟩ := hq i hi
    have hm : f i ∈ (List.range len).map f := List.mem_map.2 ⟨i, List.mem_range.2 hi, rfl⟩
    have := mem_bulks hm
    exact ⟨⟨k1, k2, k3, k4, by omega⟩, bb, off, by rw [e], c0, c1, c2, c3, c4, c5, c6⟩

theorem open_items {H : Type} {enc : TypeId × Value → H} {W : World} {r : Reach} {b : Nat} {v : Value} {d : DataW H} {p : List MemPlace}
    (hv : Value.okWide Tryd.prog W r b 22 v) (h : DataW.Trod enc Tryd.prog W 0 (fun _ => true) true 22 v d p) (hk : Rows.uptoBulk d ≤ 1048576) :
    ∃ (a : Option Addr) (cap : Nat) (xs : List It), v = .slice a xs.length cap ∧ IRow W a xs ∧ xs.length ≤ 1048576 ∧ bulks xs ≤ 536870912 := by
  obtain ⟨a0, len, cap, rfl⟩ := okWide_slice Tryd.underlying22 hv
  obtain ⟨fuel, hf⟩ := h
  exact items_cell (y := (d, p)) hf hk

end Go.Proofs.YtchfoipkaookmabDoor
namespace Go.Proofs.YtchfoipkaookmabDoor
open Go.RowKit Go.Sort Go.ChangeShapes Go.WideShapes Go.ChangeAt

abbrev theLaid : List (String × DataW Unit) := [("math/bits.deBruijn32tab", Rows.laid_math_bits_deBruijn32tab), ("math/bits.deBruijn64tab", Rows.laid_math_bits_deBruijn64tab), ("internal/strconv.uint64pow10", Rows.laid_internal_strconv_uint64pow10)]
theorem tPow : (Tryd.prog.globals[0]?).map (·.type) = some 93 := by kernel_rfl
theorem powData : Rows.laid_internal_strconv_uint64pow10 (H := Unit) = Lib.tabData .u64 Lib.pow10Tab := by kernel_rfl

theorem pow_of {W : World} (hL : laidMetH Tryd.prog theLaid W) : PowTab W := by
  have hL' : laidMet Tryd.prog theLaid W := hL
  obtain ⟨ps, ⟨_, _, _, _, _, _, _, _, _, _, ⟨_, _, _, _, _, _, _, _, _, _, ⟨g, t, cs, fuel, p, q, hg, ht, hvar, hd, _, _⟩, _⟩, _⟩, _⟩ := hL'
  obtain rfl := Option.some.inj (gPow.symm.trans hg)
  obtain rfl := Option.some.inj (tPow.symm.trans ht)
  rw [powData] at hd
  show Lib.TabIs _ _ _ _ _
  unfold Lib.TabIs
  rw [hvar, ← Lib.cells_of_tab Tryd.underlying93 Tryd.underlying35 (by kernel_rfl) (by kernel_rfl) hd]

/-- a table's cells -/
def intsOf (d : DataW Unit) : Array Value := match d with
  | .agg ps => (ps.map fun x => match x with | .lit (.int k n) => Value.int k n | _ => Value.bool false).toArray
  | _ => #[]
def putG (h : Array Obj) (g : Nat) (cs : Array Value) : Array Obj := h.modify g fun
  | .cells _ t frozen => .cells cs t frozen
  | o => o
/-- a world in which the listed variables hold what their initialisers lay -/
noncomputable def laidWorld (os : Os) : World :=
  let w0 := World.holding Tryd.prog os ⟨#[], #[], []⟩
  { w0 with heap := putG (putG (putG w0.heap 0 (intsOf Rows.laid_internal_strconv_uint64pow10)) 1 (intsOf Rows.laid_math_bits_deBruijn32tab)) 2 (intsOf Rows.laid_math_bits_deBruijn64tab) }

set_option maxRecDepth 1000000 in
theorem laid_met (os : Os) (args : Array Value) : laidMet Tryd.prog theLaid ((laidWorld os).forCall (fun _ _ => 0) ⟨#[], args, []⟩).memory :=
  laidMet_of_run' 8 (by kernel_rfl) (by kernel_rfl)

end Go.Proofs.YtchfoipkaookmabDoor
