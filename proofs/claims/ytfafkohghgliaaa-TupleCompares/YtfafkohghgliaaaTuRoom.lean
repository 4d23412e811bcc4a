import Derived.Test.YtfafkohghgliaaaTuRefV
import Derived.Test.YtfafkohghgliaaaTuOwn
/- Law 25's lists with a mark behind them. -/
namespace Go.Proofs.Ytfafkohghgliaaa.Tu
open Go.RowKit Go.Sort Go.Proofs.Ytfafkohghgliaaa
set_option linter.unusedVariables false
set_option linter.unusedSectionVars false
variable [DecidableEq Vl]

def putV (f : Nat → Vl) (k : Nat) (y : Vl) : Nat → Vl := fun i => if i = k then y else f i
theorem putV_same (f : Nat → Vl) (k : Nat) (y : Vl) : putV f k y k = y := by simp [putV]
theorem putV_other (f : Nat → Vl) {k i : Nat} (y : Vl) (h : i ≠ k) : putV f k y i = f i := by simp [putV, h]
/-- n of them in block g -/
def CellsV (w : World) (g : Nat) (f : Nat → Vl) (n : Nat) : Prop := ∀ i, i < n → w.cell? ⟨g, i * 4, none⟩ = some (.int .i64 (f i).kd) ∧ w.cell? ⟨g, i * 4 + 1, none⟩ = some (.bool (f i).fl) ∧
  w.cell? ⟨g, i * 4 + 2, none⟩ = some (.int .i64 (f i).n) ∧ w.cell? ⟨g, i * 4 + 3, none⟩ = some (.string (ofNats (f i).s))
theorem CellsV.later {w w' : World} {g n : Nat} {f : Nat → Vl} (h : CellsV w g f n) (hb : Below w.heap.size w w') : CellsV w' g f n := fun i hi =>
  ⟨cell_later hb (h i hi).1, cell_later hb (h i hi).2.1, cell_later hb (h i hi).2.2.1, cell_later hb (h i hi).2.2.2⟩
theorem CellsV.congr {w : World} {g N : Nat} {f f' : Nat → Vl} (h : CellsV w g f N) (e : ∀ i, i < N → f i = f' i) : CellsV w g f' N := fun i hi => by rw [← e i hi]; exact h i hi
abbrev setV (w : World) (g k : Nat) (y : Vl) : World :=
  (((w.setCell ⟨g, k * 4, none⟩ (.int .i64 y.kd)).setCell ⟨g, k * 4 + 1, none⟩ (.bool y.fl)).setCell ⟨g, k * 4 + 2, none⟩ (.int .i64 y.n)).setCell ⟨g, k * 4 + 3, none⟩ (.string (ofNats y.s))
theorem CellsV.put {w : World} {g n k : Nat} {f : Nat → Vl} (h : CellsV w g f n) (hk : k < n) (y : Vl) : CellsV (setV w g k y) g (putV f k y) n := by
  intro i hi
  have hx := h i hi
  by_cases e : i = k
  · subst e
    rw [putV_same]
    exact ⟨cell_setc (by simp) (cell_setc (by simp) (cell_setc (by simp) (World.cell?_setCell_same _ _ _ hx.1))),
      cell_setc (by simp) (cell_setc (by simp) (World.cell?_setCell_same _ _ _ (cell_setc (by simp) hx.2.1))),
      cell_setc (by simp) (World.cell?_setCell_same _ _ _ (cell_setc (by simp) (cell_setc (by simp) hx.2.2.1))),
      World.cell?_setCell_same _ _ _ (cell_setc (by simp) (cell_setc (by simp) (cell_setc (by simp) hx.2.2.2)))⟩
  · rw [putV_other _ _ e]
    have far : ∀ {o v}, (o = i * 4 ∨ o = i * 4 + 1 ∨ o = i * 4 + 2 ∨ o = i * 4 + 3) → w.cell? ⟨g, o, none⟩ = some v → (setV w g k y).cell? ⟨g, o, none⟩ = some v := fun {o v} ho hv =>
      cell_setc (by simp only [ne_eq, Addr.mk.injEq]; omega) (cell_setc (by simp only [ne_eq, Addr.mk.injEq]; omega) (cell_setc (by simp only [ne_eq, Addr.mk.injEq]; omega) (cell_setc (by simp only [ne_eq, Addr.mk.injEq]; omega) hv)))
    exact ⟨far (.inl rfl) hx.1, far (.inr (.inl rfl)) hx.2.1, far (.inr (.inr (.inl rfl))) hx.2.2.1, far (.inr (.inr (.inr rfl))) hx.2.2.2⟩
/-- a block that may be written, with these values in it -/
structure Rm (w : World) (g : Nat) (f : Nat → Vl) (N : Nat) : Prop where
  at_ : CellsV w g f N
  loose : Loose w g
  lt : g < w.heap.size
theorem Rm.later {w w' : World} {g N : Nat} {f : Nat → Vl} (h : Rm w g f N) (hb : Below w.heap.size w w') : Rm w' g f N := ⟨h.at_.later hb, h.loose.later hb h.lt, Nat.lt_of_lt_of_le h.lt hb.size⟩
theorem Rm.congr {w : World} {g N : Nat} {f f' : Nat → Vl} (h : Rm w g f N) (e : ∀ i, i < N → f i = f' i) : Rm w g f' N := ⟨h.at_.congr e, h.loose, h.lt⟩
theorem Rm.put {w : World} {g n k : Nat} {f : Nat → Vl} (h : Rm w g f n) (hk : k < n) (y : Vl) : Rm (setV w g k y) g (putV f k y) n :=
  ⟨h.at_.put hk y, (((h.loose.setc _ _).setc _ _).setc _ _).setc _ _, by simpa using h.lt⟩
theorem Rm.row {w : World} {g N : Nat} {f : Nat → Vl} {xs : List Vl} (h : Rm w g f N) (hn : xs.length ≤ N) (e : ∀ i, i < xs.length → f i = nthV xs i) : RowV w (some ⟨g, 0, none⟩) xs := fun i hi => by
  have := h.at_ i (by omega)
  rw [e i hi] at this
  exact ⟨g, 0, rfl, by rw [Nat.zero_add]; exact this.1, by rw [Nat.zero_add]; exact this.2.1, by rw [Nat.zero_add]; exact this.2.2.1, by rw [Nat.zero_add]; exact this.2.2.2⟩
theorem makeV (w : World) (n : Nat) (h : n ≤ 7036874417766) : (Instr.makeSlice 22 (.int .i64 (n : Int)) (.int .i64 (n : Int))).run Try.prog w = .ok (.slice (some ⟨w.heap.size, 0, none⟩) n n) (w.alloc (.cells (madeCells (vlv 0 false 0 ⟨#[]⟩).cells (n * 4)) 29)) := by
  obtain ⟨i0, hi, hz0, hz1, hz2⟩ := info_ofT infoVl
  have := run_make (P := Try.prog) w 22 29 i0 _ Try.underlying22 hi hz0 .i64 .i64 n n (by omega) (by omega) (by rw [hz2]; omega) (by omega)
  rw [this, hz1]
  simp
theorem madeV (w : World) (n : Nat) : CellsV (w.alloc (.cells (madeCells (vlv 0 false 0 ⟨#[]⟩).cells (n * 4)) 29)) w.heap.size (fun _ => vNull) n := by
  intro i hi
  have h0 : i * 4 < n * 4 := by omega
  have h1 : i * 4 + 1 < n * 4 := by omega
  have h2 : i * 4 + 2 < n * 4 := by omega
  have h3 : i * 4 + 3 < n * 4 := by omega
  refine ⟨?_, ?_, ?_, ?_⟩
  · simp [go_sem, madeCells, h0, vNull]
  · simp [go_sem, madeCells, h1, Nat.add_mod, vNull]
  · simp [go_sem, madeCells, h2, Nat.add_mod, vNull]
  · simp [go_sem, madeCells, h3, Nat.add_mod, vNull, ofNats]
/-- a block of so many cells -/
def Bk (w : World) (g m : Nat) : Prop := ∃ cur, w.heap[g]? = some (.cells cur 29 (0, 0)) ∧ cur.size = m
theorem Bk.setc {w : World} {g m : Nat} (h : Bk w g m) (o : Nat) (v : Value) : Bk (w.setCell ⟨g, o, none⟩ v) g m := by
  obtain ⟨cur, h, hs⟩ := h
  exact ⟨cur.setIfInBounds o v, heap_setCell_same w g o cur _ v h, by simpa using hs⟩
theorem Bk.setV {w : World} {g m : Nat} (h : Bk w g m) (k : Nat) (y : Vl) : Bk (setV w g k y) g m := (((h.setc _ _).setc _ _).setc _ _).setc _ _
theorem Rm.owned {w : World} {g N B : Nat} {f : Nat → Vl} {t : List Vl} (h : Rm w g f N) (hb : Bk w g (N * 4)) (hn : t.length ≤ N) (e : ∀ i, i < t.length → f i = nthV t i) (hB : B ≤ g) (hN : N ≤ maxLen) : OwnV w B (.slice (some ⟨g, 0, none⟩) t.length N) t := by
  obtain ⟨cur, hg, hs⟩ := hb
  refine ⟨flatV_len t, .inr ⟨g, N, cur, rfl, hB, hg, hn, hN, hs, ?_⟩⟩
  apply List.ext_getElem?
  intro j
  rw [List.getElem?_take]
  split
  · rename_i hj
    obtain ⟨q, r, hr, rfl⟩ : ∃ q r, r < 4 ∧ j = q * 4 + r := ⟨j / 4, j % 4, Nat.mod_lt j (by decide), by have := Nat.div_add_mod j 4; omega⟩
    have hq : q < t.length := by omega
    have hc := h.at_ q (by omega)
    rw [e _ hq] at hc
    rw [flatV_get t q r hq hr]
    simp only [World.cell?, hg] at hc
    rw [Array.getElem?_toList]
    match r, hr with
    | 0, _ => exact hc.1
    | 1, _ => exact hc.2.1
    | 2, _ => exact hc.2.2.1
    | 3, _ => exact hc.2.2.2
  · rename_i hj
    rw [List.getElem?_eq_none (by rw [flatV_len]; omega)]
/-- the mark -/
def vMark : Vl := ⟨77, false, 0, [109, 97, 114, 107]⟩
def roomF (t : List Vl) (i : Nat) : Vl := if i < t.length then nthV t i else vMark
set_option maxHeartbeats 4000000 in
theorem own_is {a : Option Addr} {c : Nat} {t : List Vl} {w : World} (h : RowV w a t) (hl : t.length + 1 ≤ 7036874417766) :
    Calls Try.prog 5 #[.slice a t.length c] w fun e w' => ∃ g, e = .returned (.slice (some ⟨g, 0, none⟩) t.length (t.length + 1)) ∧ Rm w' g (roomF t) (t.length + 1) ∧ OwnV w' w.heap.size (.slice (some ⟨g, 0, none⟩) t.length (t.length + 1)) t ∧ w.heap.size ≤ g ∧ Below w.heap.size w w' := by
  have hmk := makeV w (t.length + 1) hl
  rw [show ((t.length + 1 : Nat) : Int) = (t.length : Int) + 1 by omega] at hmk
  have hrm : Rm (w.alloc (.cells (madeCells (vlv 0 false 0 ⟨#[]⟩).cells ((t.length + 1) * 4)) 29)) w.heap.size (fun _ => vNull) (t.length + 1) := ⟨madeV w (t.length + 1), fun o => by simp [go_sem], by simp⟩
  have hbk : Bk (w.alloc (.cells (madeCells (vlv 0 false 0 ⟨#[]⟩).cells ((t.length + 1) * 4)) 29)) w.heap.size ((t.length + 1) * 4) := ⟨_, World.alloc_heap_new _ _, by simp [madeCells]⟩
  obtain ⟨wa, hwa⟩ : ∃ wa, wa = w.alloc (.cells (madeCells (vlv 0 false 0 ⟨#[]⟩).cells ((t.length + 1) * 4)) 29) := ⟨_, rfl⟩
  rw [← hwa] at hmk hrm hbk
  have hba : Below w.heap.size w wa := by rw [hwa]; exact Below.al (Below.refl _ _) _
  obtain ⟨n, hn⟩ : ∃ n, n = t.length := ⟨_, rfl⟩
  have HX := hid (show RowV w a t ∧ Rm wa w.heap.size (fun _ => vNull) (t.length + 1) ∧ Below w.heap.size w wa ∧ n = t.length ∧ Bk wa w.heap.size ((t.length + 1) * 4) from ⟨h, hrm, hba, hn, hbk⟩)
  rw [← hn] at hl hmk ⊢
  clear hwa hba hrm h hn hbk
  go_enter Try.func5, Try.ntmps5
  go_wp2_with fail
  go_loopg [4] n (fun gg s4 wr => ∃ k : Nat, k ≤ n ∧ gg = n - k ∧ s4 = .int .i64 k ∧ ∃ f, Hid (Rm wr w.heap.size f (n + 1) ∧ (∀ i, i < k → f i = nthV t i) ∧ Below w.heap.size w wr ∧ Bk wr w.heap.size ((n + 1) * 4)))
  case atStart => exact ⟨0, by omega, by omega, rfl, _, hid ⟨by rw [HX.out.2.2.2.1]; exact HX.out.2.1, fun i hi => by omega, HX.out.2.2.1, by rw [HX.out.2.2.2.1]; exact HX.out.2.2.2.2⟩⟩
  case round =>
    obtain ⟨k, hk, rfl, rfl, f, HK⟩ := hrel
    clear hmk
    have d := HK.out.1.at_ k (by omega)
    have d0 := d.1; have d1 := d.2.1; have d2 := d.2.2.1; have d3 := d.2.2.2
    have l0 := HK.out.1.loose (k * 4); have l1 := HK.out.1.loose (k * 4 + 1); have l2 := HK.out.1.loose (k * 4 + 2); have l3 := HK.out.1.loose (k * 4 + 3)
    clear d
    have hkI : (k : Int) < (n : Int) + 1 := by omega
    have HBW : ∀ y : Vl, Hid (Below w.heap.size w (setV wr w.heap.size k y)) := fun y => hid (Below.setCell (Below.setCell (Below.setCell (Below.setCell HK.out.2.2.1 (Nat.le_refl _) _) (Nat.le_refl _) _) (Nat.le_refl _) _) (Nat.le_refl _) _)
    by_cases hlt : k < n
    · have hlt' : k < t.length := by rw [← HX.out.2.2.2.1]; exact hlt
      obtain ⟨ba, oa, ea, a0, a1, a2, a3⟩ := (HX.out.1.later HK.out.2.2.1) k hlt'
      subst ea
      obtain ⟨x, hx⟩ : ∃ x, x = nthV t k := ⟨_, rfl⟩
      have HXX := hid hx
      rw [← hx] at a0 a1 a2 a3
      clear hx hlt'
      obtain ⟨xk, xf, xn, xs⟩ := x
      simp only at a0 a1 a2 a3
      go_wp2_with fail
      go_roundg (n - (k + 1))
      case measure => omega
      case rel => exact ⟨k + 1, by omega, rfl, by go_num, putV f k ⟨xk, xf, xn, xs⟩, hid ⟨HK.out.1.put (by omega) ⟨xk, xf, xn, xs⟩, fun i hi => by
          by_cases e : i = k
          · subst e; rw [putV_same]; exact HXX.out
          · rw [putV_other _ _ e]; exact HK.out.2.1 i (by omega), (HBW ⟨xk, xf, xn, xs⟩).out, HK.out.2.2.2.setV k ⟨xk, xf, xn, xs⟩⟩⟩
    · obtain rfl : k = n := by omega
      go_wp2_with fail
      go_ret
      have hrm : Rm (setV wr w.heap.size k vMark) w.heap.size (roomF t) (k + 1) := by
        refine (HK.out.1.put (by omega) vMark).congr fun i hi => ?_
        by_cases e : i = k
        · subst e; rw [putV_same]; unfold roomF; rw [if_neg (by rw [← HX.out.2.2.2.1]; omega)]
        · rw [putV_other _ _ e, HK.out.2.1 i (by omega)]; unfold roomF; rw [if_pos (by rw [← HX.out.2.2.2.1]; omega)]
      refine ⟨w.heap.size, rfl, hrm, ?_, Nat.le_refl _, (HBW vMark).out⟩
      have hlk := HX.out.2.2.2.1
      have := hrm.owned (t := t) (B := w.heap.size) (HK.out.2.2.2.setV k vMark) (by omega) (fun i hi => by unfold roomF; rw [if_pos hi]) (Nat.le_refl _) (by unfold maxLen; omega)
      rw [← hlk] at this
      exact this
theorem roomF_in {t : List Vl} {i : Nat} (h : i < t.length) : roomF t i = nthV t i := by unfold roomF; rw [if_pos h]
theorem roomF_end (t : List Vl) : roomF t t.length = vMark := by unfold roomF; rw [if_neg (by omega)]
theorem Rm.own {w : World} {g : Nat} {t : List Vl} (h : Rm w g (roomF t) (t.length + 1)) : RowV w (some ⟨g, 0, none⟩) t := h.row (by omega) (fun i hi => roomF_in hi)
set_option maxHeartbeats 4000000 in
theorem left_is {a : Option Addr} {g c : Nat} {t : List Vl} {w : World} (h : Rm w g (roomF t) (t.length + 1)) (k : RowV w a t) (ho : OkT t) (hl : t.length + 1 ≤ 4611686018427387904) :
    Calls Try.prog 8 #[.slice (some ⟨g, 0, none⟩) t.length (t.length + 1), .slice a t.length c] w fun e w' => e = .returned (.bool true) ∧ Below w.heap.size w w' := by
  have HS := hid (refsame_is (c := t.length + 1) (d := c) (u := true) (by simp) h.own k ho ho (by omega) (by omega))
  have d := h.at_ t.length (by omega)
  rw [roomF_end] at d
  have d0 := d.1; have d3 := d.2.2.2
  clear d
  obtain ⟨n, hn⟩ : ∃ n, n = t.length := ⟨_, rfl⟩
  rw [← hn] at HS d0 d3 hl ⊢
  simp only [vMark] at d0 d3
  have d3' : w.cell? ⟨g, n * 4 + 3, none⟩ = some (.string ⟨#[109, 97, 114, 107]⟩) := d3
  clear h k ho hn d3
  have hlI : (n : Int) < (n : Int) + 1 := by omega
  have q : ((⟨#[109, 97, 114, 107]⟩ : ByteArray).toList == (⟨#[109, 97, 114, 107]⟩ : ByteArray).toList) = true := by simp
  go_enter Try.func8, Try.ntmps8
  go_wp2_with (go_at_call 12; refine HS.out.mono ?_; rintro e w2 ⟨rfl, hb2⟩; have e0 := cell_later hb2 d0; have e3 := cell_later hb2 d3'; have HB := hid hb2; clear hb2)
  go_ret
  exact ⟨rfl, HB.out⟩
/-- what a list is written over with -/
def overV (i : Nat) : Vl := vInt ((i : Int) - 3)
def overL (n : Nat) : List Vl := (List.range n).map overV
theorem overL_len (n : Nat) : (overL n).length = n := by simp [overL]
theorem overL_nth {n i : Nat} (h : i < n) : nthV (overL n) i = overV i := by simp [nthV, overL, h]
theorem overL_ok {n : Nat} (h : n ≤ 4611686018427387904) : OkT (overL n) ∧ okT (overL n) = true := by
  constructor
  · intro v hv
    obtain ⟨i, hi, rfl⟩ := List.mem_map.1 hv
    have := List.mem_range.1 hi
    exact ⟨⟨by simp [overV, vInt]; omega, by simp [overV, vInt]; omega⟩, B8.nil⟩
  · refine List.all_eq_true.2 fun v hv => ?_
    obtain ⟨i, hi, rfl⟩ := List.mem_map.1 hv
    rfl
set_option maxHeartbeats 4000000 in
theorem over_is {g c n N : Nat} {f : Nat → Vl} {w : World} (h : Rm w g f N) (hn : n ≤ N) (hl : n ≤ 4611686018427387904) :
    Calls Try.prog 9 #[.slice (some ⟨g, 0, none⟩) n c] w fun e w' => e = .returned (.tuple #[]) ∧ RowV w' (some ⟨g, 0, none⟩) (overL n) ∧ Onl (fun k => k = g) w w' ∧ w'.heap.size = w.heap.size := by
  have HX := hid h
  clear h
  go_enter Try.func9, Try.ntmps9
  go_wp2_with fail
  go_loopg [2] n (fun gg s2 wr => ∃ k : Nat, k ≤ n ∧ gg = n - k ∧ s2 = .int .i64 k ∧ ∃ f, Hid (Rm wr g f N ∧ (∀ i, i < k → f i = overV i) ∧ Onl (fun k => k = g) w wr ∧ wr.heap.size = w.heap.size))
  case atStart => exact ⟨0, by omega, by omega, rfl, f, hid ⟨HX.out, fun i hi => by omega, Onl.refl _ _, rfl⟩⟩
  case round =>
    obtain ⟨k, hk, rfl, rfl, f, HK⟩ := hrel
    by_cases hlt : k < n
    · have d := HK.out.1.at_ k (by omega)
      have d0 := d.1; have d1 := d.2.1; have d2 := d.2.2.1; have d3 := d.2.2.2
      have l0 := HK.out.1.loose (k * 4); have l1 := HK.out.1.loose (k * 4 + 1); have l2 := HK.out.1.loose (k * 4 + 2); have l3 := HK.out.1.loose (k * 4 + 3)
      clear d
      have HP := hid (HK.out.1.put (k := k) (by omega) (overV k))
      have HO : Hid (Onl (fun k => k = g) w (setV wr g k (overV k))) := hid ((((HK.out.2.2.1.set (p := g) rfl _ _).set (p := g) rfl _ _).set (p := g) rfl _ _).set (p := g) rfl _ _)
      go_wp2_with fail
      go_roundg (n - (k + 1))
      case measure => omega
      case rel => exact ⟨k + 1, by omega, rfl, by go_num, putV f k (overV k), hid ⟨HP.out, fun i hi => by
          by_cases e : i = k
          · subst e; rw [putV_same]
          · rw [putV_other _ _ e]; exact HK.out.2.1 i (by omega), HO.out, by simpa using HK.out.2.2.2⟩⟩
    · obtain rfl : k = n := by omega
      have HR : Hid (RowV wr (some ⟨g, 0, none⟩) (overL k)) := hid (HK.out.1.row (by rw [overL_len]; exact hn) (fun i hi => by rw [overL_len] at hi; rw [overL_nth hi]; exact HK.out.2.1 i hi))
      go_wp2_with fail
      go_end0
      exact ⟨rfl, HR.out, HK.out.2.2.1, HK.out.2.2.2⟩
end Go.Proofs.Ytfafkohghgliaaa.Tu
