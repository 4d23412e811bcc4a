import Derived.Test.YthenfioddnkjbaaGreatDoorRzMark
import Derived.Test.YthenfioddnkjbaaGreatDoorDOnl
import Derived.Test.YthenfioddnkjbaaGreatDoorRzSt
/- Lists with room behind them that holds marks. -/
namespace Go.Proofs.YthenfioddnkjbaaGreatDoor.Rt
open Go.RowKit Go.Sort Go.Proofs.YthenfioddnkjbaaGreatDoor
set_option linter.unusedVariables false

/-- a block of so many cells of a type, not frozen -/
def Blk (T : TypeId) (m : Nat) (w : World) (g : Nat) : Prop := ∃ cur, w.heap[g]? = some (.cells cur T (0, 0)) ∧ cur.size = m
theorem Blk.lt {T : TypeId} {m : Nat} {w : World} {g : Nat} (h : Blk T m w g) : g < w.heap.size := by
  obtain ⟨cur, h, _⟩ := h
  exact (Array.getElem?_eq_some_iff.1 h).1
theorem Blk.loose {T : TypeId} {m : Nat} {w : World} {g : Nat} (h : Blk T m w g) : LooseR w g := by
  obtain ⟨cur, h, _⟩ := h
  exact fun o => frozen_of_row w g o _ _ h
theorem Blk.later {T : TypeId} {m : Nat} {w w' : World} {g : Nat} (h : Blk T m w g) (hb : Below w.heap.size w w') (hl : g < w.heap.size) : Blk T m w' g := by
  obtain ⟨cur, h, hs⟩ := h
  exact ⟨cur, (hb.block g hl).trans h, hs⟩
theorem Blk.setc {T : TypeId} {m : Nat} {w : World} {g : Nat} (h : Blk T m w g) (a : Addr) (v : Value) (ha : a.spot = none := by rfl) : Blk T m (w.setCell a v) g := by
  obtain ⟨cur, h, hs⟩ := h
  obtain ⟨b, o, p⟩ := a
  have ha : p = none := ha
  subst ha
  rw [setCell_eq]
  by_cases e : b = g
  · subst e
    exact ⟨cur.setIfInBounds o v, by simp [mapBlock, Array.getElem?_modify, h, onCells], by simpa using hs⟩
  · exact ⟨cur, by simp [mapBlock, Array.getElem?_modify, e, h], hs⟩
structure RmW (w : World) (g : Nat) (f : Nat → Wr) (N : Nat) : Prop where
  at_ : CellsW w g f N
  blk : Blk 135 (N * 3) w g
theorem RmW.later {w w' : World} {g N : Nat} {f : Nat → Wr} (h : RmW w g f N) (hb : Below w.heap.size w w') : RmW w' g f N := ⟨h.at_.later hb, h.blk.later hb h.blk.lt⟩
theorem RmW.same {w w' : World} {g N : Nat} {f : Nat → Wr} (h : RmW w g f N) (k : RmW w' g f N) : w'.heap[g]? = w.heap[g]? := by
  obtain ⟨cur, hc, hs⟩ := h.blk
  obtain ⟨cur', hc', hs'⟩ := k.blk
  have e : cur' = cur := by
    apply Array.ext_getElem?
    intro j
    by_cases hj : j < N * 3
    · have h1 := h.at_ (j / 3) (by omega)
      have h2 := k.at_ (j / 3) (by omega)
      simp only [World.cell?, hc, hc'] at h1 h2
      have hd := Nat.div_add_mod j 3
      have hm := Nat.mod_lt j (show 0 < 3 by decide)
      match hr : j % 3, hm with
      | 0, _ => rw [show j = j / 3 * 3 by omega]; exact h2.1.trans h1.1.symm
      | 1, _ => rw [show j = j / 3 * 3 + 1 by omega]; exact h2.2.1.trans h1.2.1.symm
      | 2, _ => rw [show j = j / 3 * 3 + 2 by omega]; exact h2.2.2.trans h1.2.2.symm
    · rw [Array.getElem?_eq_none (by omega), Array.getElem?_eq_none (by omega)]
  rw [hc, hc', e]
theorem CellsW.congr {w : World} {g N : Nat} {f f' : Nat → Wr} (h : CellsW w g f N) (e : ∀ i, i < N → f i = f' i) : CellsW w g f' N := fun i hi => by rw [← e i hi]; exact h i hi
/-- a list and the marks behind it -/
def roomW (xs : List Wr) (i : Nat) : Wr := if i < xs.length then nthW xs i else ⟨mkI (-1) i, true, ⟨#[]⟩⟩
set_option maxHeartbeats 4000000 in
theorem roomXW_is {a : Option Addr} {c : Nat} {xs : List Wr} {w : World} (h : RowW w a xs) (hl : xs.length + 3 ≤ 7036874417766) (ht : PowTab w) :
    Calls Tryz.prog 32 #[.slice a xs.length c] w fun e w' => ∃ g, e = .returned (.slice (some ⟨g, 0, none⟩) xs.length (xs.length + 3)) ∧ RmW w' g (roomW xs) (xs.length + 3) ∧ w.heap.size ≤ g ∧ Below w.heap.size w w' := by
  have hmk := makeW w (xs.length + 3) hl
  rw [show ((xs.length + 3 : Nat) : Int) = (xs.length : Int) + 3 by omega] at hmk
  obtain ⟨cur, hcur⟩ : ∃ cur, cur = madeCells (Value.agg #[.string ⟨#[]⟩, .bool false, .string ⟨#[]⟩]).cells ((xs.length + 3) * 3) := ⟨_, rfl⟩
  obtain ⟨wa, hwa⟩ : ∃ wa, wa = w.alloc (.cells cur 135) := ⟨_, rfl⟩
  have hc := madeW w (xs.length + 3)
  rw [← hcur, ← hwa] at hmk hc
  have hba : Below w.heap.size w wa := by rw [hwa]; exact Below.al (Below.refl _ _) _
  have hk : wa.heap[w.heap.size]? = some (.cells cur 135 (0, 0)) := by rw [hwa]; exact World.alloc_heap_new _ _
  have hcz : cur.size = (xs.length + 3) * 3 := by rw [hcur]; simp [madeCells]
  have hcc : ∀ i, i < xs.length + 3 → cur[i * 3]? = some (.string ⟨#[]⟩) ∧ cur[i * 3 + 1]? = some (.bool false) ∧ cur[i * 3 + 2]? = some (.string ⟨#[]⟩) := fun i hi => by
    have h3 := hc i hi
    simp only [World.cell?, hk] at h3
    exact h3
  have HX := hid (show RowW wa a xs ∧ wa.heap[w.heap.size]? = some (.cells cur 135 (0, 0)) ∧ Below w.heap.size w wa ∧ cur.size = (xs.length + 3) * 3 from ⟨h.later hba, hk, hba, hcz⟩)
  have HCC := hid hcc
  have HTW := hid ht
  clear hwa hc hba hk h ht hcc hcur hcz
  go_enter Tryz.func32, Tryz.ntmps32
  go_wp2_with (first | (refine wpList_copyW rfl _ _ rfl w.heap.size xs.length (xs.length + 3) a c xs cur rfl rfl rfl (by omega) HX.out.2.1 HX.out.2.2.2 HX.out.1 ?_; intro w2 hk2 hb2; have HK2 := hid hk2; have HB2 : Hid (Below w.heap.size w w2) := hid (HX.out.2.2.1.trans hb2); clear hk2 hb2))
  have HL : Hid (CellsW w2 w.heap.size (fun i => if i < xs.length then nthW xs i else ⟨⟨#[]⟩, false, ⟨#[]⟩⟩) (xs.length + 3) ∧ Blk 135 ((xs.length + 3) * 3) w2 w.heap.size) := hid ⟨copiedW rfl HCC.out HK2.out, ⟨_, HK2.out, by have h1 := flatW_len xs; have h2 := HX.out.2.2.2; simp [h1, h2]; omega⟩⟩
  go_loopg [4] 3 (fun gg s4 wr => ∃ k : Nat, xs.length ≤ k ∧ k ≤ xs.length + 3 ∧ gg = xs.length + 3 - k ∧ s4 = .int .i64 k ∧ ∃ f, Hid (CellsW wr w.heap.size f (xs.length + 3) ∧ ((∀ i, i < xs.length → f i = nthW xs i) ∧ ∀ i, xs.length ≤ i → i < k → f i = ⟨mkI (-1) i, true, ⟨#[]⟩⟩) ∧ Blk 135 ((xs.length + 3) * 3) wr w.heap.size ∧ Below w.heap.size w wr ∧ w.heap.size < wr.heap.size))
  case atStart => exact ⟨xs.length, by omega, by omega, by omega, rfl, _, hid ⟨HL.out.1, ⟨fun i hi => by simp [hi], fun i h1 h2 => by omega⟩, HL.out.2, HB2.out, (Array.getElem?_eq_some_iff.1 HK2.out).1⟩⟩
  case round =>
    obtain ⟨k, hk1, hk, rfl, rfl, f, HK⟩ := hrel
    clear HK2 hmk HL HB2
    by_cases hlt : k < xs.length + 3
    · have MK := hid (markW_is (i := -1) (j := k) (by omega) (by omega) wr (HTW.out.later HK.out.2.2.2.1))
      have HA : Hid (∀ w1, Below wr.heap.size wr w1 → CellsW w1 w.heap.size f (xs.length + 3) ∧ Blk 135 ((xs.length + 3) * 3) w1 w.heap.size ∧ Below w.heap.size w w1 ∧ w.heap.size < w1.heap.size) := hid (fun w1 hb => ⟨HK.out.1.later hb, HK.out.2.2.1.later hb HK.out.2.2.2.2, Below.on HK.out.2.2.2.1 hb, Nat.lt_of_lt_of_le HK.out.2.2.2.2 hb.size⟩)
      have hkI : (k : Int) < (xs.length : Int) + 3 := by omega
      go_wp2_with (go_at_call 81; refine MK.out.mono ?_; rintro e w3 ⟨rfl, hb3⟩; have d0 := ((HA.out w3 hb3).1 k hlt).1; have d1 := ((HA.out w3 hb3).1 k hlt).2.1; have d2 := ((HA.out w3 hb3).1 k hlt).2.2; have l0 := (HA.out w3 hb3).2.1.loose (k * 3); have l1 := (HA.out w3 hb3).2.1.loose (k * 3 + 1); have l2 := (HA.out w3 hb3).2.1.loose (k * 3 + 2))
      go_roundg (xs.length + 3 - (k + 1))
      case measure => omega
      case rel =>
        refine ⟨k + 1, by omega, by omega, rfl, by go_num, putN f k ⟨mkI (-1) k, true, ⟨#[]⟩⟩, hid ⟨(HA.out w3 hb3).1.put hlt ⟨mkI (-1) k, true, ⟨#[]⟩⟩, ⟨fun i hi => ?_, fun i h1 h2 => ?_⟩, (((HA.out w3 hb3).2.1.setc _ _).setc _ _).setc _ _, ?_, by simpa using (HA.out w3 hb3).2.2.2⟩⟩
        · rw [putN_other _ _ (by omega)]; exact HK.out.2.1.1 i hi
        · by_cases e : i = k
          · subst e; rw [putN_same]
          · rw [putN_other _ _ e]; exact HK.out.2.1.2 i h1 (by omega)
        · have hB := (HA.out w3 hb3).2.2.1
          (repeat (first | with_reducible exact Below.refl _ _ | with_reducible assumption | with_reducible refine Below.drew ?_ | with_reducible refine Below.al ?_ _ | with_reducible refine Below.setCell ?_ (by first | exact Nat.le_refl _ | (simp; omega) | (simp; done)) _ | with_reducible refine Below.on ?_ (by assumption)))
    · obtain rfl : k = xs.length + 3 := by omega
      have HP : Hid (RmW wr w.heap.size (roomW xs) (xs.length + 3)) := hid ⟨HK.out.1.congr fun i hi => by
        unfold roomW
        by_cases h : i < xs.length
        · rw [if_pos h]; exact HK.out.2.1.1 i h
        · rw [if_neg h]; exact HK.out.2.1.2 i (by omega) hi, HK.out.2.2.1⟩
      have HB := hid HK.out.2.2.2.1
      go_wp2_with fail
      go_ret
      exact ⟨_, rfl, HP.out, Nat.le_refl _, HB.out⟩
structure Rm2 (w : World) (g : Nat) (f : Nat → T2) (N : Nat) : Prop where
  at_ : Cells2 w g f N
  blk : Blk 49 (N * 2) w g
theorem Rm2.later {w w' : World} {g N : Nat} {f : Nat → T2} (h : Rm2 w g f N) (hb : Below w.heap.size w w') : Rm2 w' g f N := ⟨h.at_.later hb, h.blk.later hb h.blk.lt⟩
theorem Rm2.same {w w' : World} {g N : Nat} {f : Nat → T2} (h : Rm2 w g f N) (k : Rm2 w' g f N) : w'.heap[g]? = w.heap[g]? := by
  obtain ⟨cur, hc, hs⟩ := h.blk
  obtain ⟨cur', hc', hs'⟩ := k.blk
  have e : cur' = cur := by
    apply Array.ext_getElem?
    intro j
    by_cases hj : j < N * 2
    · have h1 := h.at_ (j / 2) (by omega)
      have h2 := k.at_ (j / 2) (by omega)
      simp only [World.cell?, hc, hc'] at h1 h2
      have hd := Nat.div_add_mod j 2
      have hm := Nat.mod_lt j (show 0 < 2 by decide)
      match hr : j % 2, hm with
      | 0, _ => rw [show j = j / 2 * 2 by omega]; exact h2.1.trans h1.1.symm
      | 1, _ => rw [show j = j / 2 * 2 + 1 by omega]; exact h2.2.trans h1.2.symm
    · rw [Array.getElem?_eq_none (by omega), Array.getElem?_eq_none (by omega)]
  rw [hc, hc', e]
theorem Cells2.congr {w : World} {g N : Nat} {f f' : Nat → T2} (h : Cells2 w g f N) (e : ∀ i, i < N → f i = f' i) : Cells2 w g f' N := fun i hi => by rw [← e i hi]; exact h i hi
/-- a list and the marks behind it -/
def room2 (xs : List T2) (i : Nat) : T2 := if i < xs.length then nth2 xs i else (mkI (-1) i, ⟨#[]⟩)
set_option maxHeartbeats 4000000 in
theorem roomX2_is {a : Option Addr} {c : Nat} {xs : List T2} {w : World} (h : Row2 w a xs) (hl : xs.length + 3 ≤ 8796093022208) (ht : PowTab w) :
    Calls Tryz.prog 31 #[.slice a xs.length c] w fun e w' => ∃ g, e = .returned (.slice (some ⟨g, 0, none⟩) xs.length (xs.length + 3)) ∧ Rm2 w' g (room2 xs) (xs.length + 3) ∧ w.heap.size ≤ g ∧ Below w.heap.size w w' := by
  have hmk := make2 w (xs.length + 3) hl
  rw [show ((xs.length + 3 : Nat) : Int) = (xs.length : Int) + 3 by omega] at hmk
  obtain ⟨cur, hcur⟩ : ∃ cur, cur = madeCells (Value.agg #[.string ⟨#[]⟩, .string ⟨#[]⟩]).cells ((xs.length + 3) * 2) := ⟨_, rfl⟩
  obtain ⟨wa, hwa⟩ : ∃ wa, wa = w.alloc (.cells cur 49) := ⟨_, rfl⟩
  have hc := made2 w (xs.length + 3)
  rw [← hcur, ← hwa] at hmk hc
  have hba : Below w.heap.size w wa := by rw [hwa]; exact Below.al (Below.refl _ _) _
  have hk : wa.heap[w.heap.size]? = some (.cells cur 49 (0, 0)) := by rw [hwa]; exact World.alloc_heap_new _ _
  have hcz : cur.size = (xs.length + 3) * 2 := by rw [hcur]; simp [madeCells]
  have hcc : ∀ i, i < xs.length + 3 → cur[i * 2]? = some (.string ⟨#[]⟩) ∧ cur[i * 2 + 1]? = some (.string ⟨#[]⟩) := fun i hi => by
    have h3 := hc i hi
    simp only [World.cell?, hk] at h3
    exact h3
  have HX := hid (show Row2 wa a xs ∧ wa.heap[w.heap.size]? = some (.cells cur 49 (0, 0)) ∧ Below w.heap.size w wa ∧ cur.size = (xs.length + 3) * 2 from ⟨h.later hba, hk, hba, hcz⟩)
  have HCC := hid hcc
  have HTW := hid ht
  clear hwa hc hba hk h ht hcc hcur hcz
  go_enter Tryz.func31, Tryz.ntmps31
  go_wp2_with (first | (refine wpList_copy2 rfl _ _ rfl w.heap.size xs.length (xs.length + 3) a c xs cur rfl rfl rfl (by omega) HX.out.2.1 HX.out.2.2.2 HX.out.1 ?_; intro w2 hk2 hb2; have HK2 := hid hk2; have HB2 : Hid (Below w.heap.size w w2) := hid (HX.out.2.2.1.trans hb2); clear hk2 hb2))
  have HL : Hid (Cells2 w2 w.heap.size (fun i => if i < xs.length then nth2 xs i else (⟨#[]⟩, ⟨#[]⟩)) (xs.length + 3) ∧ Blk 49 ((xs.length + 3) * 2) w2 w.heap.size) := hid ⟨copied2 rfl HCC.out HK2.out, ⟨_, HK2.out, by have h1 := flat2_len xs; have h2 := HX.out.2.2.2; simp [h1, h2]; omega⟩⟩
  go_loopg [4] 3 (fun gg s4 wr => ∃ k : Nat, xs.length ≤ k ∧ k ≤ xs.length + 3 ∧ gg = xs.length + 3 - k ∧ s4 = .int .i64 k ∧ ∃ f, Hid (Cells2 wr w.heap.size f (xs.length + 3) ∧ ((∀ i, i < xs.length → f i = nth2 xs i) ∧ ∀ i, xs.length ≤ i → i < k → f i = (mkI (-1) i, ⟨#[]⟩)) ∧ Blk 49 ((xs.length + 3) * 2) wr w.heap.size ∧ Below w.heap.size w wr ∧ w.heap.size < wr.heap.size))
  case atStart => exact ⟨xs.length, by omega, by omega, by omega, rfl, _, hid ⟨HL.out.1, ⟨fun i hi => by simp [hi], fun i h1 h2 => by omega⟩, HL.out.2, HB2.out, (Array.getElem?_eq_some_iff.1 HK2.out).1⟩⟩
  case round =>
    obtain ⟨k, hk1, hk, rfl, rfl, f, HK⟩ := hrel
    clear HK2 hmk HL HB2
    by_cases hlt : k < xs.length + 3
    · have MK := hid (markS_is (i := -1) (j := k) (by omega) (by omega) wr (HTW.out.later HK.out.2.2.2.1))
      have HA : Hid (∀ w1, Below wr.heap.size wr w1 → Cells2 w1 w.heap.size f (xs.length + 3) ∧ Blk 49 ((xs.length + 3) * 2) w1 w.heap.size ∧ Below w.heap.size w w1 ∧ w.heap.size < w1.heap.size) := hid (fun w1 hb => ⟨HK.out.1.later hb, HK.out.2.2.1.later hb HK.out.2.2.2.2, Below.on HK.out.2.2.2.1 hb, Nat.lt_of_lt_of_le HK.out.2.2.2.2 hb.size⟩)
      have hkI : (k : Int) < (xs.length : Int) + 3 := by omega
      go_wp2_with (go_at_call 80; refine MK.out.mono ?_; rintro e w3 ⟨rfl, hb3⟩; have d0 := ((HA.out w3 hb3).1 k hlt).1; have d1 := ((HA.out w3 hb3).1 k hlt).2; have l0 := (HA.out w3 hb3).2.1.loose (k * 2); have l1 := (HA.out w3 hb3).2.1.loose (k * 2 + 1))
      go_roundg (xs.length + 3 - (k + 1))
      case measure => omega
      case rel =>
        refine ⟨k + 1, by omega, by omega, rfl, by go_num, putN f k (mkI (-1) k, ⟨#[]⟩), hid ⟨(HA.out w3 hb3).1.put hlt (mkI (-1) k, ⟨#[]⟩), ⟨fun i hi => ?_, fun i h1 h2 => ?_⟩, ((HA.out w3 hb3).2.1.setc _ _).setc _ _, ?_, by simpa using (HA.out w3 hb3).2.2.2⟩⟩
        · rw [putN_other _ _ (by omega)]; exact HK.out.2.1.1 i hi
        · by_cases e : i = k
          · subst e; rw [putN_same]
          · rw [putN_other _ _ e]; exact HK.out.2.1.2 i h1 (by omega)
        · have hB := (HA.out w3 hb3).2.2.1
          (repeat (first | with_reducible exact Below.refl _ _ | with_reducible assumption | with_reducible refine Below.drew ?_ | with_reducible refine Below.al ?_ _ | with_reducible refine Below.setCell ?_ (by first | exact Nat.le_refl _ | (simp; omega) | (simp; done)) _ | with_reducible refine Below.on ?_ (by assumption)))
    · obtain rfl : k = xs.length + 3 := by omega
      have HP : Hid (Rm2 wr w.heap.size (room2 xs) (xs.length + 3)) := hid ⟨HK.out.1.congr fun i hi => by
        unfold room2
        by_cases h : i < xs.length
        · rw [if_pos h]; exact HK.out.2.1.1 i h
        · rw [if_neg h]; exact HK.out.2.1.2 i (by omega) hi, HK.out.2.2.1⟩
      have HB := hid HK.out.2.2.2.1
      go_wp2_with fail
      go_ret
      exact ⟨_, rfl, HP.out, Nat.le_refl _, HB.out⟩
structure RmS (w : World) (g : Nat) (f : Nat → ByteArray) (N : Nat) : Prop where
  at_ : CellsS w g f N
  blk : Blk 9 N w g
theorem RmS.later {w w' : World} {g N : Nat} {f : Nat → ByteArray} (h : RmS w g f N) (hb : Below w.heap.size w w') : RmS w' g f N := ⟨h.at_.later hb, h.blk.later hb h.blk.lt⟩
theorem RmS.same {w w' : World} {g N : Nat} {f : Nat → ByteArray} (h : RmS w g f N) (k : RmS w' g f N) : w'.heap[g]? = w.heap[g]? := by
  obtain ⟨cur, hc, hs⟩ := h.blk
  obtain ⟨cur', hc', hs'⟩ := k.blk
  have e : cur' = cur := by
    apply Array.ext_getElem?
    intro j
    by_cases hj : j < N
    · have h1 := h.at_ (j / 1) (by omega)
      have h2 := k.at_ (j / 1) (by omega)
      simp only [World.cell?, hc, hc'] at h1 h2
      have hd := Nat.div_add_mod j 1
      have hm := Nat.mod_lt j (show 0 < 1 by decide)
      have ej : j / 1 = j := Nat.div_one j
      rw [ej] at h1 h2
      exact h2.trans h1.symm
    · rw [Array.getElem?_eq_none (by omega), Array.getElem?_eq_none (by omega)]
  rw [hc, hc', e]
theorem CellsS.congr {w : World} {g N : Nat} {f f' : Nat → ByteArray} (h : CellsS w g f N) (e : ∀ i, i < N → f i = f' i) : CellsS w g f' N := fun i hi => by rw [← e i hi]; exact h i hi
def roomS (xs : List ByteArray) (i : Nat) : ByteArray := if i < xs.length then nthS xs i else mkI (-1) i
set_option maxHeartbeats 4000000 in
set_option maxRecDepth 100000 in
theorem twinX_is {c : Cf} {w : World} (h : c.Ok w) (hl : c.ss.length ≤ 8796093022208) (ht : PowTab w) :
    Calls Tryz.prog 17 #[c.val] w fun e w' => ∃ g, e = .returned (c.at (some ⟨g, 0, none⟩) (c.ss.length + 2)).val ∧ RmS w' g (roomS c.ss) (c.ss.length + 2) ∧ w.heap.size ≤ g ∧ Below w.heap.size w w' := by
  obtain ⟨sh, cl, a, cp, ss, ca, pk, wi⟩ := c
  simp only at hl
  obtain ⟨wA, hwA⟩ : ∃ wA, wA = (w.alloc (.cells #[.int .i64 sh, .int .i64 cl, .slice a ss.length cp, .int .i64 ca, .int .i64 pk, .int .u64 wi] 26)).alloc (.cells #[.int .i64 0, .int .i64 0, .slice none 0 0, .int .i64 0, .int .i64 0, .int .u64 0] 26) := ⟨_, rfl⟩
  have hbA : Below w.heap.size w wA := by rw [hwA]; (repeat (first | exact Below.refl _ _ | assumption | refine Below.drew ?_ | refine Below.al ?_ _ | refine Below.setCell ?_ (by first | exact Nat.le_refl _ | (simp; omega) | (simp; done)) _ | refine Below.on ?_ (by assumption)))
  have HC : Hid (BoxC wA w.heap.size ⟨sh, cl, a, cp, ss, ca, pk, wi⟩) := hid (by rw [hwA]; exact (BoxC.new w ⟨sh, cl, a, cp, ss, ca, pk, wi⟩ _).later (Below.al (Below.refl _ _) _))
  have HD : Hid (BoxC wA (w.heap.size + 1) ⟨0, 0, none, 0, [], 0, 0, 0⟩) := hid (by rw [hwA]; have := BoxC.new (w.alloc (.cells #[.int .i64 sh, .int .i64 cl, .slice a ss.length cp, .int .i64 ca, .int .i64 pk, .int .u64 wi] 26)) ⟨0, 0, none, 0, [], 0, 0, 0⟩ 26; rw [World.size_alloc] at this; exact this)
  have HF : Hid (LooseR wA w.heap.size ∧ LooseR wA (w.heap.size + 1) ∧ w.heap.size + 1 < wA.heap.size) := hid (by rw [hwA]; exact ⟨fun o => by simp [go_sem], fun o => by simp [go_sem], by simp⟩)
  have hmk := make_tx wA (ss.length + 2) (by omega)
  rw [show ((ss.length + 2 : Nat) : Int) = (ss.length : Int) + 2 by omega] at hmk
  obtain ⟨cur, hcur⟩ : ∃ cur, cur = madeCells (Value.string ⟨#[]⟩).cells (ss.length + 2) := ⟨_, rfl⟩
  obtain ⟨G, hG⟩ : ∃ G, G = wA.heap.size := ⟨_, rfl⟩
  obtain ⟨wB, hwB⟩ : ∃ wB, wB = wA.alloc (.cells cur 9) := ⟨_, rfl⟩
  have hcB := madeS wA (ss.length + 2)
  rw [← hcur, ← hwB, ← hG] at hmk hcB
  have hbB : Below wA.heap.size wA wB := by rw [hwB]; exact Below.al (Below.refl _ _) _
  have hkB : wB.heap[G]? = some (.cells cur 9 (0, 0)) := by rw [hwB, hG]; exact World.alloc_heap_new _ _
  have hcz : cur.size = ss.length + 2 := by rw [hcur]; simp [madeCells]
  have hcc : ∀ i, i < ss.length + 2 → cur[i]? = some (.string mt) := fun i hi => by
    have h3 := hcB i hi
    simp only [World.cell?, hkB] at h3
    exact h3
  have HR := hid ((h.row.later hbA).later hbB)
  have HOK := hid h
  have HTA := hid (ht.later hbA)
  have HBB := hid hbB
  have HBA := hid hbA
  have HGs := hid hG
  obtain ⟨b0, b1, b2, b3, b4, b5⟩ := HC.out.later hbB
  have HK := hid hkB
  simp only at b0 b1 b2 b3 b4 b5
  have HCC := hid hcc; have HCZ := hid hcz
  clear hcur hwB hcB hbB hkB hcz hcc h ht hbA hG
  go_enter Tryz.func17, Tryz.ntmps17
  rw [hwA] at hmk
  clear hwA
  go_wp2_with (first | (refine wpList_copy_s rfl _ _ rfl G ss.length (ss.length + 2) a cp ss cur rfl rfl rfl (by omega) HK.out HCZ.out HR.out ?_; intro w2 hk2 hb2; have HK2 := hid hk2; have HB2 : Hid (Below wA.heap.size wA w2) := hid (HBB.out.trans (HGs.out ▸ hb2)); have ⟨d0, d1, d2, d3, d4, d5⟩ := HC.out.later HB2.out; clear hk2 hb2))
  have HL : Hid (CellsS w2 G (fun i => if i < ss.length then nthS ss i else mt) (ss.length + 2) ∧ Blk 9 (ss.length + 2) w2 G) := hid ⟨copied_s rfl HCC.out HK2.out, ⟨_, HK2.out, by have h2 := HCZ.out; simp [flatS, h2]⟩⟩
  go_loopg [4] 2 (fun gg s4 wr => ∃ k : Nat, ss.length ≤ k ∧ k ≤ ss.length + 2 ∧ gg = ss.length + 2 - k ∧ s4 = .int .i64 k ∧ ∃ f, Hid (CellsS wr G f (ss.length + 2) ∧ ((∀ i, i < ss.length → f i = nthS ss i) ∧ ∀ i, ss.length ≤ i → i < k → f i = mkI (-1) i) ∧ Blk 9 (ss.length + 2) wr G ∧ Below wA.heap.size wA wr ∧ G < wr.heap.size))
  case atStart => exact ⟨ss.length, by omega, by omega, by omega, rfl, _, hid ⟨HL.out.1, ⟨fun i hi => by simp [hi], fun i h1 h2 => by omega⟩, HL.out.2, HB2.out, (Array.getElem?_eq_some_iff.1 HK2.out).1⟩⟩
  case round =>
    obtain ⟨k, hk1, hk, rfl, rfl, f, HQ⟩ := hrel
    clear HK2 hmk HL HB2 d0 d1 d2 d3 d4 d5 b0 b1 b2 b3 b4 b5
    by_cases hlt : k < ss.length + 2
    · have MK := hid (markI_is (i := -1) (j := k) (by omega) (by omega) wr (HTA.out.later HQ.out.2.2.2.1))
      have HA : Hid (∀ w1, Below wr.heap.size wr w1 → CellsS w1 G f (ss.length + 2) ∧ Blk 9 (ss.length + 2) w1 G ∧ Below wA.heap.size wA w1 ∧ G < w1.heap.size) := hid (fun w1 hb => ⟨HQ.out.1.later hb, HQ.out.2.2.1.later hb HQ.out.2.2.2.2, Below.on HQ.out.2.2.2.1 hb, Nat.lt_of_lt_of_le HQ.out.2.2.2.2 hb.size⟩)
      have hkI : (k : Int) < (ss.length : Int) + 2 := by omega
      go_wp2_with (go_at_call 64; refine MK.out.mono ?_; rintro e w3 ⟨rfl, hb3⟩; have d0 := (HA.out w3 hb3).1 k hlt; have l0 := (HA.out w3 hb3).2.1.loose k)
      go_roundg (ss.length + 2 - (k + 1))
      case measure => omega
      case rel =>
        refine ⟨k + 1, by omega, by omega, rfl, by go_num, putS f k (mkI (-1) k), hid ⟨(HA.out w3 hb3).1.put hlt (mkI (-1) k), ⟨fun i hi => ?_, fun i h1 h2 => ?_⟩, (HA.out w3 hb3).2.1.setc _ _, ?_, by simpa using (HA.out w3 hb3).2.2.2⟩⟩
        · simp only [putS, show i ≠ k by omega, if_false]; exact HQ.out.2.1.1 i hi
        · by_cases e : i = k
          · subst e; simp [putS]
          · simp only [putS, e, if_false]; exact HQ.out.2.1.2 i h1 (by omega)
        · exact Below.setCell (HA.out w3 hb3).2.2.1 (p := ⟨G, k, none⟩) (by rw [HGs.out]; exact Nat.le_refl _) _
    · obtain rfl : k = ss.length + 2 := by omega
      obtain ⟨b0, b1, b2, b3, b4, b5⟩ := HC.out.later HQ.out.2.2.2.1
      obtain ⟨e0, e1, e2, e3, e4, e5⟩ := HD.out.later HQ.out.2.2.2.1
      have f0 : ∀ o, wr.frozen? ⟨w.heap.size, o, none⟩ = false := HF.out.1.later HQ.out.2.2.2.1 (by have := HF.out.2.2; omega)
      have f1 : ∀ o, wr.frozen? ⟨w.heap.size + 1, o, none⟩ = false := HF.out.2.1.later HQ.out.2.2.2.1 HF.out.2.2
      simp only at b0 b1 b2 b3 b4 b5 e0 e1 e2 e3 e4 e5
      have HG2 : Hid (w.heap.size + 1 < G) := hid (by rw [HGs.out]; exact HF.out.2.2)
      have HBW := hid (Below.on HBA.out HQ.out.2.2.2.1)
      go_wp2_with fail
      refine bodyPost_ret (v := (Cf.at ⟨sh, cl, a, cp, ss, ca, pk, wi⟩ (some ⟨G, 0, none⟩) (ss.length + 2)).val) (by simp [results, Tryz.results17, go_sem, e0, e1, e2, e3, e4, e5]) rfl ⟨G, rfl, ?_, by have h1 := HG2.out; omega, ?_⟩
      · have h0 : RmS wr G (roomS ss) (ss.length + 2) := ⟨HQ.out.1.congr fun i hi => by
          unfold roomS
          by_cases h : i < ss.length
          · rw [if_pos h]; exact HQ.out.2.1.1 i h
          · rw [if_neg h]; exact HQ.out.2.1.2 i (by omega) hi, HQ.out.2.2.1⟩
        have hG := HG2.out
        refine ⟨fun i hi => ?_, ?_⟩
        · repeat (with_reducible refine cell_setc (by simp only [ne_eq, Addr.mk.injEq]; omega) ?_)
          exact h0.at_ i hi
        · repeat (with_reducible refine Blk.setc ?_ _ _)
          exact h0.blk
      · have hB := HBW.out
        (repeat (first | with_reducible exact Below.refl _ _ | with_reducible assumption | with_reducible refine Below.drew ?_ | with_reducible refine Below.al ?_ _ | with_reducible refine Below.setCell ?_ (by first | exact Nat.le_refl _ | (simp; omega) | (simp; done)) _ | with_reducible refine Below.on ?_ (by assumption)))

end Go.Proofs.YthenfioddnkjbaaGreatDoor.Rt
/- A list written over in its place, the other way round. -/
namespace Go.Proofs.YthenfioddnkjbaaGreatDoor.Rt
open Go.RowKit Go.Sort Go.Proofs.YthenfioddnkjbaaGreatDoor
set_option linter.unusedVariables false

/-- k elements turned at both ends -/
def revK {α : Type} (f : Nat → α) (n k : Nat) : Nat → α := fun j => if j < k ∨ (n - k ≤ j ∧ j < n) then f (n - 1 - j) else f j
theorem revK_zero {α : Type} (f : Nat → α) (n j : Nat) : revK f n 0 j = f j := by
  unfold revK; rw [if_neg (by omega)]
theorem revK_step {α : Type} (f : Nat → α) {n k : Nat} (h : k < n / 2) (j : Nat) : (if j = n - 1 - k then f k else if j = k then f (n - 1 - k) else revK f n k j) = revK f n (k + 1) j := by
  unfold revK
  by_cases h1 : j = n - 1 - k
  · rw [if_pos h1, if_pos (by omega), show n - 1 - j = k by omega]
  · rw [if_neg h1]
    by_cases h2 : j = k
    · rw [if_pos h2, if_pos (by omega), h2]
    · rw [if_neg h2]
      by_cases h3 : j < k ∨ (n - k ≤ j ∧ j < n)
      · rw [if_pos h3, if_pos (by omega)]
      · rw [if_neg h3, if_neg (by omega)]
theorem revK_lo {α : Type} (f : Nat → α) {n k : Nat} (h : k < n / 2) : revK f n k k = f k ∧ revK f n k (n - 1 - k) = f (n - 1 - k) := by
  unfold revK
  rw [if_neg (by omega), if_neg (by omega)]
  exact ⟨rfl, rfl⟩
theorem revK_all {α : Type} (f : Nat → α) (n j : Nat) : revK f n (n / 2) j = if j < n then f (n - 1 - j) else f j := by
  unfold revK
  by_cases h : j < n / 2 ∨ (n - n / 2 ≤ j ∧ j < n)
  · rw [if_pos h, if_pos (by omega)]
  · rw [if_neg h]
    by_cases h2 : j < n
    · rw [if_pos h2, show n - 1 - j = j by omega]
    · rw [if_neg h2]
theorem Rm2.put {w : World} {g N k : Nat} {f : Nat → T2} (h : Rm2 w g f N) (hk : k < N) (y : T2) : Rm2 ((w.setCell ⟨g, k * 2, none⟩ (.string (y).1)).setCell ⟨g, k * 2 + 1, none⟩ (.string (y).2)) g (putN f k y) N := ⟨h.at_.put hk y, (h.blk.setc _ _).setc _ _⟩
theorem Rm2.congr {w : World} {g N : Nat} {f f' : Nat → T2} (h : Rm2 w g f N) (e : ∀ i, i < N → f i = f' i) : Rm2 w g f' N := ⟨h.at_.congr e, h.blk⟩
theorem rev2_room (xs : List T2) (j : Nat) : revK (room2 xs) xs.length (xs.length / 2) j = room2 xs.reverse j := by
  rw [revK_all]
  unfold room2
  rw [List.length_reverse]
  by_cases h : j < xs.length
  · rw [if_pos h, if_pos h, if_pos (by omega)]
    unfold nth2
    rw [List.getElem?_reverse h]
  · rw [if_neg h, if_neg h, if_neg h]
set_option maxHeartbeats 4000000 in
theorem turn2_any {g n cp N : Nat} {f : Nat → T2} {w : World} (h : Rm2 w g f N) (hn : n ≤ N) (hl : n ≤ 1073741824) :
    Calls Tryz.prog 85 #[.slice (some ⟨g, 0, none⟩) n cp] w fun e w' => e = .returned (.tuple #[]) ∧ Rm2 w' g (revK f n (n / 2)) N ∧ Onl (fun k => k = g) w w' := by
  have H0 : Hid (Rm2 w g (revK f n 0) N ∧ Onl (fun k => k = g) w w) := hid ⟨h.congr fun i _ => (revK_zero f n i).symm, Onl.refl _ _⟩
  clear h
  have hq : ((n : Int)).tdiv 2 = ((n / 2 : Nat) : Int) := by rfl
  obtain ⟨h2, hh2⟩ : ∃ h2, h2 = n / 2 := ⟨_, rfl⟩
  rw [← hh2] at hq ⊢
  have hq2 : IntKind.i64.wrap (h2 : Int) = (h2 : Int) := by rw [IntKind.wrap_i64]; omega
  have hw1 : IntKind.i64.wrap ((n : Int) - 1) = (n : Int) - 1 := by rw [IntKind.wrap_i64]; omega
  have H2 : Hid (h2 = n / 2) := hid hh2
  clear hh2
  go_enter Tryz.func85, Tryz.ntmps85
  go_wp2_with fail
  go_loopg [2] h2 (fun gg s2 wr => ∃ k : Nat, k ≤ h2 ∧ gg = h2 - k ∧ s2 = .int .i64 k ∧ Hid (Rm2 wr g (revK f n k) N ∧ Onl (fun b => b = g) w wr))
  case atStart => exact ⟨0, by omega, by omega, rfl, H0⟩
  case round =>
    obtain ⟨k, hk, rfl, rfl, HQ⟩ := hrel
    clear H0
    by_cases hlt : k < h2
    · have hkn : k < n / 2 := by have := H2.out; omega
      obtain ⟨m, hm⟩ : ∃ m, m = n - 1 - k := ⟨_, rfl⟩
      have hw2 : IntKind.i64.wrap ((n : Int) - 1 - (k : Int)) = (m : Int) := by rw [IntKind.wrap_i64]; omega
      obtain ⟨r1, r2⟩ := revK_lo f hkn
      rw [← hm] at r2
      have hE := HQ.out.1.at_ k (by omega)
      have hF := HQ.out.1.at_ m (by omega)
      rw [r1] at hE
      rw [r2] at hF
      have HPUT : Hid (∀ wz, Below wr.heap.size wr wz → Rm2 ((((wz.setCell ⟨g, k * 2, none⟩ (.string (f m).1)).setCell ⟨g, k * 2 + 1, none⟩ (.string (f m).2)).setCell ⟨g, m * 2, none⟩ (.string (f k).1)).setCell ⟨g, m * 2 + 1, none⟩ (.string (f k).2)) g (revK f n (k + 1)) N ∧ Onl (fun b => b = g) w ((((wz.setCell ⟨g, k * 2, none⟩ (.string (f m).1)).setCell ⟨g, k * 2 + 1, none⟩ (.string (f m).2)).setCell ⟨g, m * 2, none⟩ (.string (f k).1)).setCell ⟨g, m * 2 + 1, none⟩ (.string (f k).2))) := hid (fun wz hb => by
        refine ⟨(((HQ.out.1.later hb).put (by omega) (f m)).put (k := m) (by omega) (f k)).congr fun i _ => ?_, ?_⟩
        · have := revK_step f hkn i
          rw [← hm] at this
          exact this
        · exact ((((HQ.out.2.on hb).set rfl _ _).set rfl _ _).set rfl _ _).set rfl _ _)
      have hI : (k : Int) < (h2 : Int) := by omega
      have hK : (k : Int) < (n : Int) := by omega
      have hM : (m : Int) < (n : Int) := by omega
      have lz : ∀ o, wr.frozen? ⟨g, o, none⟩ = false := HQ.out.1.blk.loose
      have HLT : Hid (g < wr.heap.size) := hid HQ.out.1.blk.lt
      have hne : (wr.heap.size = g) = False := eq_false (by have := HQ.out.1.blk.lt; omega)
      have hne' : (g = wr.heap.size) = False := eq_false (by have := HQ.out.1.blk.lt; omega)
      have hkm : (k = m) = False := eq_false (by omega)
      have hmk : (m = k) = False := eq_false (by omega)
      have HMM : Hid (m = n - 1 - k) := hid hm
      have hkm2 : k < m := by omega
      generalize f k = A at hE HPUT
      generalize f m = B at hF HPUT
      obtain ⟨e0, e1⟩ := hE
      obtain ⟨f0, f1⟩ := hF
      clear r1 r2 hm
      obtain ⟨A1, A2⟩ := A
      obtain ⟨B1, B2⟩ := B
      simp only at e0 f0 e1 f1
      have e0a := cell_later (Below.al (Below.refl wr.heap.size wr) (.cells #[.string A1, .string A2] 49)) e0
      have e1a := cell_later (Below.al (Below.refl wr.heap.size wr) (.cells #[.string A1, .string A2] 49)) e1
      have f0a := cell_later (Below.al (Below.refl wr.heap.size wr) (.cells #[.string A1, .string A2] 49)) f0
      have f1a := cell_later (Below.al (Below.refl wr.heap.size wr) (.cells #[.string A1, .string A2] 49)) f1
      have lza : ∀ o, (wr.alloc (.cells #[.string A1, .string A2] 49)).frozen? ⟨g, o, none⟩ = false := fun o => ((Below.al (Below.refl wr.heap.size wr) (.cells #[.string A1, .string A2] 49)).frozen (p := ⟨g, o, none⟩) HLT.out).trans (lz o)
      have f0b : (((wr.alloc (.cells #[.string A1, .string A2] 49)).setCell ⟨g, k * 2, none⟩ (.string B1)).setCell ⟨g, k * 2 + 1, none⟩ (.string B2)).cell? ⟨g, m * 2, none⟩ = some (.string B1) := (cell_setc (by simp only [ne_eq, Addr.mk.injEq]; omega) (cell_setc (by simp only [ne_eq, Addr.mk.injEq]; omega) f0a))
      have f1b : (((wr.alloc (.cells #[.string A1, .string A2] 49)).setCell ⟨g, k * 2, none⟩ (.string B1)).setCell ⟨g, k * 2 + 1, none⟩ (.string B2)).cell? ⟨g, m * 2 + 1, none⟩ = some (.string B2) := (cell_setc (by simp only [ne_eq, Addr.mk.injEq]; omega) (cell_setc (by simp only [ne_eq, Addr.mk.injEq]; omega) f1a))
      have lzb : ∀ o, (((wr.alloc (.cells #[.string A1, .string A2] 49)).setCell ⟨g, k * 2, none⟩ (.string B1)).setCell ⟨g, k * 2 + 1, none⟩ (.string B2)).frozen? ⟨g, o, none⟩ = false := fun o => by simpa using lza o
      go_wp2_with fail
      go_roundg (h2 - (k + 1))
      case measure => omega
      case rel => exact ⟨k + 1, by omega, rfl, by go_num, hid (HPUT.out _ (by (repeat (first | with_reducible exact Below.refl _ _ | with_reducible assumption | with_reducible refine Below.drew ?_ | with_reducible refine Below.al ?_ _ | with_reducible refine Below.setCell ?_ (by first | exact Nat.le_refl _ | (simp; omega) | (simp; done)) _ | with_reducible refine Below.on ?_ (by assumption)))))⟩
    · obtain rfl : h2 = k := by omega
      go_wp2_with fail
      go_end0
      exact ⟨rfl, HQ.out.1, HQ.out.2⟩
theorem turn2_is {g cp : Nat} {xs : List T2} {w : World} (h : Rm2 w g (room2 xs) (xs.length + 3)) (hl : xs.length ≤ 1073741824) :
    Calls Tryz.prog 85 #[.slice (some ⟨g, 0, none⟩) xs.length cp] w fun e w' => e = .returned (.tuple #[]) ∧ Rm2 w' g (room2 xs.reverse) (xs.length + 3) ∧ Onl (fun k => k = g) w w' := by
  refine (turn2_any h (by omega) hl).mono ?_
  rintro e w' ⟨rfl, h1, h2⟩
  exact ⟨rfl, h1.congr fun i _ => rev2_room xs i, h2⟩
theorem RmW.put {w : World} {g N k : Nat} {f : Nat → Wr} (h : RmW w g f N) (hk : k < N) (y : Wr) : RmW (((w.setCell ⟨g, k * 3, none⟩ (.string (y).key)).setCell ⟨g, k * 3 + 1, none⟩ (.bool (y).del)).setCell ⟨g, k * 3 + 2, none⟩ (.string (y).val)) g (putN f k y) N := ⟨h.at_.put hk y, ((h.blk.setc _ _).setc _ _).setc _ _⟩
theorem RmW.congr {w : World} {g N : Nat} {f f' : Nat → Wr} (h : RmW w g f N) (e : ∀ i, i < N → f i = f' i) : RmW w g f' N := ⟨h.at_.congr e, h.blk⟩
theorem revW_room (xs : List Wr) (j : Nat) : revK (roomW xs) xs.length (xs.length / 2) j = roomW xs.reverse j := by
  rw [revK_all]
  unfold roomW
  rw [List.length_reverse]
  by_cases h : j < xs.length
  · rw [if_pos h, if_pos h, if_pos (by omega)]
    unfold nthW
    rw [List.getElem?_reverse h]
  · rw [if_neg h, if_neg h, if_neg h]
set_option maxHeartbeats 4000000 in
theorem turnW_any {g n cp N : Nat} {f : Nat → Wr} {w : World} (h : RmW w g f N) (hn : n ≤ N) (hl : n ≤ 1073741824) :
    Calls Tryz.prog 43 #[.slice (some ⟨g, 0, none⟩) n cp] w fun e w' => e = .returned (.tuple #[]) ∧ RmW w' g (revK f n (n / 2)) N ∧ Onl (fun k => k = g) w w' := by
  have H0 : Hid (RmW w g (revK f n 0) N ∧ Onl (fun k => k = g) w w) := hid ⟨h.congr fun i _ => (revK_zero f n i).symm, Onl.refl _ _⟩
  clear h
  have hq : ((n : Int)).tdiv 2 = ((n / 2 : Nat) : Int) := by rfl
  obtain ⟨h2, hh2⟩ : ∃ h2, h2 = n / 2 := ⟨_, rfl⟩
  rw [← hh2] at hq ⊢
  have hq2 : IntKind.i64.wrap (h2 : Int) = (h2 : Int) := by rw [IntKind.wrap_i64]; omega
  have hw1 : IntKind.i64.wrap ((n : Int) - 1) = (n : Int) - 1 := by rw [IntKind.wrap_i64]; omega
  have H2 : Hid (h2 = n / 2) := hid hh2
  clear hh2
  go_enter Tryz.func43, Tryz.ntmps43
  go_wp2_with fail
  go_loopg [2] h2 (fun gg s2 wr => ∃ k : Nat, k ≤ h2 ∧ gg = h2 - k ∧ s2 = .int .i64 k ∧ Hid (RmW wr g (revK f n k) N ∧ Onl (fun b => b = g) w wr))
  case atStart => exact ⟨0, by omega, by omega, rfl, H0⟩
  case round =>
    obtain ⟨k, hk, rfl, rfl, HQ⟩ := hrel
    clear H0
    by_cases hlt : k < h2
    · have hkn : k < n / 2 := by have := H2.out; omega
      obtain ⟨m, hm⟩ : ∃ m, m = n - 1 - k := ⟨_, rfl⟩
      have hw2 : IntKind.i64.wrap ((n : Int) - 1 - (k : Int)) = (m : Int) := by rw [IntKind.wrap_i64]; omega
      obtain ⟨r1, r2⟩ := revK_lo f hkn
      rw [← hm] at r2
      have hE := HQ.out.1.at_ k (by omega)
      have hF := HQ.out.1.at_ m (by omega)
      rw [r1] at hE
      rw [r2] at hF
      have HPUT : Hid (∀ wz, Below wr.heap.size wr wz → RmW ((((((wz.setCell ⟨g, k * 3, none⟩ (.string (f m).key)).setCell ⟨g, k * 3 + 1, none⟩ (.bool (f m).del)).setCell ⟨g, k * 3 + 2, none⟩ (.string (f m).val)).setCell ⟨g, m * 3, none⟩ (.string (f k).key)).setCell ⟨g, m * 3 + 1, none⟩ (.bool (f k).del)).setCell ⟨g, m * 3 + 2, none⟩ (.string (f k).val)) g (revK f n (k + 1)) N ∧ Onl (fun b => b = g) w ((((((wz.setCell ⟨g, k * 3, none⟩ (.string (f m).key)).setCell ⟨g, k * 3 + 1, none⟩ (.bool (f m).del)).setCell ⟨g, k * 3 + 2, none⟩ (.string (f m).val)).setCell ⟨g, m * 3, none⟩ (.string (f k).key)).setCell ⟨g, m * 3 + 1, none⟩ (.bool (f k).del)).setCell ⟨g, m * 3 + 2, none⟩ (.string (f k).val))) := hid (fun wz hb => by
        refine ⟨(((HQ.out.1.later hb).put (by omega) (f m)).put (k := m) (by omega) (f k)).congr fun i _ => ?_, ?_⟩
        · have := revK_step f hkn i
          rw [← hm] at this
          exact this
        · exact ((((((HQ.out.2.on hb).set rfl _ _).set rfl _ _).set rfl _ _).set rfl _ _).set rfl _ _).set rfl _ _)
      have hI : (k : Int) < (h2 : Int) := by omega
      have hK : (k : Int) < (n : Int) := by omega
      have hM : (m : Int) < (n : Int) := by omega
      have lz : ∀ o, wr.frozen? ⟨g, o, none⟩ = false := HQ.out.1.blk.loose
      have HLT : Hid (g < wr.heap.size) := hid HQ.out.1.blk.lt
      have hne : (wr.heap.size = g) = False := eq_false (by have := HQ.out.1.blk.lt; omega)
      have hne' : (g = wr.heap.size) = False := eq_false (by have := HQ.out.1.blk.lt; omega)
      have hkm : (k = m) = False := eq_false (by omega)
      have hmk : (m = k) = False := eq_false (by omega)
      have HMM : Hid (m = n - 1 - k) := hid hm
      have hkm2 : k < m := by omega
      generalize f k = A at hE HPUT
      generalize f m = B at hF HPUT
      obtain ⟨e0, e1, e2⟩ := hE
      obtain ⟨f0, f1, f2⟩ := hF
      clear r1 r2 hm
      obtain ⟨A1, A2, A3⟩ := A
      obtain ⟨B1, B2, B3⟩ := B
      simp only at e0 f0 e1 f1 e2 f2
      have e0a := cell_later (Below.al (Below.refl wr.heap.size wr) (.cells #[.string A1, .bool A2, .string A3] 135)) e0
      have e1a := cell_later (Below.al (Below.refl wr.heap.size wr) (.cells #[.string A1, .bool A2, .string A3] 135)) e1
      have e2a := cell_later (Below.al (Below.refl wr.heap.size wr) (.cells #[.string A1, .bool A2, .string A3] 135)) e2
      have f0a := cell_later (Below.al (Below.refl wr.heap.size wr) (.cells #[.string A1, .bool A2, .string A3] 135)) f0
      have f1a := cell_later (Below.al (Below.refl wr.heap.size wr) (.cells #[.string A1, .bool A2, .string A3] 135)) f1
      have f2a := cell_later (Below.al (Below.refl wr.heap.size wr) (.cells #[.string A1, .bool A2, .string A3] 135)) f2
      have lza : ∀ o, (wr.alloc (.cells #[.string A1, .bool A2, .string A3] 135)).frozen? ⟨g, o, none⟩ = false := fun o => ((Below.al (Below.refl wr.heap.size wr) (.cells #[.string A1, .bool A2, .string A3] 135)).frozen (p := ⟨g, o, none⟩) HLT.out).trans (lz o)
      have f0b : ((((wr.alloc (.cells #[.string A1, .bool A2, .string A3] 135)).setCell ⟨g, k * 3, none⟩ (.string B1)).setCell ⟨g, k * 3 + 1, none⟩ (.bool B2)).setCell ⟨g, k * 3 + 2, none⟩ (.string B3)).cell? ⟨g, m * 3, none⟩ = some (.string B1) := (cell_setc (by simp only [ne_eq, Addr.mk.injEq]; omega) (cell_setc (by simp only [ne_eq, Addr.mk.injEq]; omega) (cell_setc (by simp only [ne_eq, Addr.mk.injEq]; omega) f0a)))
      have f1b : ((((wr.alloc (.cells #[.string A1, .bool A2, .string A3] 135)).setCell ⟨g, k * 3, none⟩ (.string B1)).setCell ⟨g, k * 3 + 1, none⟩ (.bool B2)).setCell ⟨g, k * 3 + 2, none⟩ (.string B3)).cell? ⟨g, m * 3 + 1, none⟩ = some (.bool B2) := (cell_setc (by simp only [ne_eq, Addr.mk.injEq]; omega) (cell_setc (by simp only [ne_eq, Addr.mk.injEq]; omega) (cell_setc (by simp only [ne_eq, Addr.mk.injEq]; omega) f1a)))
      have f2b : ((((wr.alloc (.cells #[.string A1, .bool A2, .string A3] 135)).setCell ⟨g, k * 3, none⟩ (.string B1)).setCell ⟨g, k * 3 + 1, none⟩ (.bool B2)).setCell ⟨g, k * 3 + 2, none⟩ (.string B3)).cell? ⟨g, m * 3 + 2, none⟩ = some (.string B3) := (cell_setc (by simp only [ne_eq, Addr.mk.injEq]; omega) (cell_setc (by simp only [ne_eq, Addr.mk.injEq]; omega) (cell_setc (by simp only [ne_eq, Addr.mk.injEq]; omega) f2a)))
      have lzb : ∀ o, ((((wr.alloc (.cells #[.string A1, .bool A2, .string A3] 135)).setCell ⟨g, k * 3, none⟩ (.string B1)).setCell ⟨g, k * 3 + 1, none⟩ (.bool B2)).setCell ⟨g, k * 3 + 2, none⟩ (.string B3)).frozen? ⟨g, o, none⟩ = false := fun o => by simpa using lza o
      go_wp2_with fail
      go_roundg (h2 - (k + 1))
      case measure => omega
      case rel => exact ⟨k + 1, by omega, rfl, by go_num, hid (HPUT.out _ (by (repeat (first | with_reducible exact Below.refl _ _ | with_reducible assumption | with_reducible refine Below.drew ?_ | with_reducible refine Below.al ?_ _ | with_reducible refine Below.setCell ?_ (by first | exact Nat.le_refl _ | (simp; omega) | (simp; done)) _ | with_reducible refine Below.on ?_ (by assumption)))))⟩
    · obtain rfl : h2 = k := by omega
      go_wp2_with fail
      go_end0
      exact ⟨rfl, HQ.out.1, HQ.out.2⟩
theorem turnW_is {g cp : Nat} {xs : List Wr} {w : World} (h : RmW w g (roomW xs) (xs.length + 3)) (hl : xs.length ≤ 1073741824) :
    Calls Tryz.prog 43 #[.slice (some ⟨g, 0, none⟩) xs.length cp] w fun e w' => e = .returned (.tuple #[]) ∧ RmW w' g (roomW xs.reverse) (xs.length + 3) ∧ Onl (fun k => k = g) w w' := by
  refine (turnW_any h (by omega) hl).mono ?_
  rintro e w' ⟨rfl, h1, h2⟩
  exact ⟨rfl, h1.congr fun i _ => revW_room xs i, h2⟩
theorem RmS.put {w : World} {g N k : Nat} {f : Nat → ByteArray} (h : RmS w g f N) (hk : k < N) (y : ByteArray) : RmS (w.setCell ⟨g, k, none⟩ (.string (y))) g (putS f k y) N := ⟨h.at_.put hk y, h.blk.setc _ _⟩
theorem RmS.congr {w : World} {g N : Nat} {f f' : Nat → ByteArray} (h : RmS w g f N) (e : ∀ i, i < N → f i = f' i) : RmS w g f' N := ⟨h.at_.congr e, h.blk⟩
theorem revS_room (xs : List ByteArray) (j : Nat) : revK (roomS xs) xs.length (xs.length / 2) j = roomS xs.reverse j := by
  rw [revK_all]
  unfold roomS
  rw [List.length_reverse]
  by_cases h : j < xs.length
  · rw [if_pos h, if_pos h, if_pos (by omega)]
    unfold nthS
    rw [List.getElem?_reverse h]
  · rw [if_neg h, if_neg h, if_neg h]
set_option maxHeartbeats 4000000 in
theorem turnS_any {g n cp N : Nat} {f : Nat → ByteArray} {w : World} (h : RmS w g f N) (hn : n ≤ N) (hl : n ≤ 1073741824) :
    Calls Tryz.prog 68 #[.slice (some ⟨g, 0, none⟩) n cp] w fun e w' => e = .returned (.tuple #[]) ∧ RmS w' g (revK f n (n / 2)) N ∧ Onl (fun k => k = g) w w' := by
  have H0 : Hid (RmS w g (revK f n 0) N ∧ Onl (fun k => k = g) w w) := hid ⟨h.congr fun i _ => (revK_zero f n i).symm, Onl.refl _ _⟩
  clear h
  have hq : ((n : Int)).tdiv 2 = ((n / 2 : Nat) : Int) := by rfl
  obtain ⟨h2, hh2⟩ : ∃ h2, h2 = n / 2 := ⟨_, rfl⟩
  rw [← hh2] at hq ⊢
  have hq2 : IntKind.i64.wrap (h2 : Int) = (h2 : Int) := by rw [IntKind.wrap_i64]; omega
  have hw1 : IntKind.i64.wrap ((n : Int) - 1) = (n : Int) - 1 := by rw [IntKind.wrap_i64]; omega
  have H2 : Hid (h2 = n / 2) := hid hh2
  clear hh2
  go_enter Tryz.func68, Tryz.ntmps68
  go_wp2_with fail
  go_loopg [2] h2 (fun gg s2 wr => ∃ k : Nat, k ≤ h2 ∧ gg = h2 - k ∧ s2 = .int .i64 k ∧ Hid (RmS wr g (revK f n k) N ∧ Onl (fun b => b = g) w wr))
  case atStart => exact ⟨0, by omega, by omega, rfl, H0⟩
  case round =>
    obtain ⟨k, hk, rfl, rfl, HQ⟩ := hrel
    clear H0
    by_cases hlt : k < h2
    · have hkn : k < n / 2 := by have := H2.out; omega
      obtain ⟨m, hm⟩ : ∃ m, m = n - 1 - k := ⟨_, rfl⟩
      have hw2 : IntKind.i64.wrap ((n : Int) - 1 - (k : Int)) = (m : Int) := by rw [IntKind.wrap_i64]; omega
      obtain ⟨r1, r2⟩ := revK_lo f hkn
      rw [← hm] at r2
      have hE := HQ.out.1.at_ k (by omega)
      have hF := HQ.out.1.at_ m (by omega)
      rw [r1] at hE
      rw [r2] at hF
      have HPUT : Hid (∀ wz, Below wr.heap.size wr wz → RmS ((wz.setCell ⟨g, k, none⟩ (.string (f m))).setCell ⟨g, m, none⟩ (.string (f k))) g (revK f n (k + 1)) N ∧ Onl (fun b => b = g) w ((wz.setCell ⟨g, k, none⟩ (.string (f m))).setCell ⟨g, m, none⟩ (.string (f k)))) := hid (fun wz hb => by
        refine ⟨(((HQ.out.1.later hb).put (by omega) (f m)).put (k := m) (by omega) (f k)).congr fun i _ => ?_, ?_⟩
        · have := revK_step f hkn i
          rw [← hm] at this
          exact this
        · exact ((HQ.out.2.on hb).set rfl _ _).set rfl _ _)
      have hI : (k : Int) < (h2 : Int) := by omega
      have hK : (k : Int) < (n : Int) := by omega
      have hM : (m : Int) < (n : Int) := by omega
      have lz : ∀ o, wr.frozen? ⟨g, o, none⟩ = false := HQ.out.1.blk.loose
      have HLT : Hid (g < wr.heap.size) := hid HQ.out.1.blk.lt
      have hne : (wr.heap.size = g) = False := eq_false (by have := HQ.out.1.blk.lt; omega)
      have hne' : (g = wr.heap.size) = False := eq_false (by have := HQ.out.1.blk.lt; omega)
      have hkm : (k = m) = False := eq_false (by omega)
      have hmk : (m = k) = False := eq_false (by omega)
      have HMM : Hid (m = n - 1 - k) := hid hm
      have hkm2 : k < m := by omega
      generalize f k = A at hE HPUT
      generalize f m = B at hF HPUT
      have e0 := hE
      have f0 := hF
      clear r1 r2 hm
      have f0b : (wr.setCell ⟨g, k, none⟩ (.string B)).cell? ⟨g, m, none⟩ = some (.string B) := cell_setc (by simp only [ne_eq, Addr.mk.injEq]; omega) f0
      go_wp2_with fail
      go_roundg (h2 - (k + 1))
      case measure => omega
      case rel => exact ⟨k + 1, by omega, rfl, by go_num, hid (HPUT.out _ (by (repeat (first | with_reducible exact Below.refl _ _ | with_reducible assumption | with_reducible refine Below.drew ?_ | with_reducible refine Below.al ?_ _ | with_reducible refine Below.setCell ?_ (by first | exact Nat.le_refl _ | (simp; omega) | (simp; done)) _ | with_reducible refine Below.on ?_ (by assumption)))))⟩
    · obtain rfl : h2 = k := by omega
      go_wp2_with fail
      go_end0
      exact ⟨rfl, HQ.out.1, HQ.out.2⟩
theorem turnS_is {g cp : Nat} {xs : List ByteArray} {w : World} (h : RmS w g (roomS xs) (xs.length + 2)) (hl : xs.length ≤ 1073741824) :
    Calls Tryz.prog 68 #[.slice (some ⟨g, 0, none⟩) xs.length cp] w fun e w' => e = .returned (.tuple #[]) ∧ RmS w' g (roomS xs.reverse) (xs.length + 2) ∧ Onl (fun k => k = g) w w' := by
  refine (turnS_any h (by omega) hl).mono ?_
  rintro e w' ⟨rfl, h1, h2⟩
  exact ⟨rfl, h1.congr fun i _ => revS_room xs i, h2⟩
end Go.Proofs.YthenfioddnkjbaaGreatDoor.Rt
/- What was handed in is untouched. -/
namespace Go.Proofs.YthenfioddnkjbaaGreatDoor.Rt
open Go.RowKit Go.Sort Go.Proofs.YthenfioddnkjbaaGreatDoor
set_option linter.unusedVariables false

theorem Rm2.row {w : World} {g N : Nat} {f : Nat → T2} (h : Rm2 w g f N) {xs : List T2} (e : ∀ i, i < xs.length → f i = nth2 xs i) (hN : xs.length ≤ N := by omega) : Row2 w (some ⟨g, 0, none⟩) xs := fun i hi => by
  have hc := h.at_ i (by omega)
  rw [e i hi] at hc
  exact ⟨g, 0, rfl, by rw [Nat.zero_add]; exact hc.1, by rw [Nat.zero_add]; exact hc.2⟩
set_option maxHeartbeats 4000000 in
theorem unt2_is {a : Option Addr} {c g : Nat} {xs : List T2} {w : World} (hg : Rm2 w g (room2 xs) (xs.length + 3)) (h : Row2 w a xs) (hl : xs.length ≤ 1073741824) (ht : PowTab w) :
    Calls Tryz.prog 36 #[.slice (some ⟨g, 0, none⟩) xs.length (xs.length + 3), .slice a xs.length c] w fun e w' => e = .returned (.bool true) ∧ Below w.heap.size w w' := by
  have HG := hid hg; have HR := hid h; have HT := hid ht
  have HS : Hid (Row2 w (some ⟨g, 0, none⟩) xs) := hid (hg.row fun i hi => by unfold room2; rw [if_pos hi])
  clear hg h ht
  go_enter Tryz.func36, Tryz.ntmps36
  go_wp2_with fail
  go_loopg [6] 3 (fun gg s6 wr => ∃ k : Nat, xs.length ≤ k ∧ k ≤ xs.length + 3 ∧ gg = xs.length + 3 - k ∧ s6 = .int .i64 k ∧ Hid (Below w.heap.size w wr))
  case atStart => exact ⟨xs.length, by omega, by omega, by omega, rfl, hid (Below.refl _ _)⟩
  case round =>
    obtain ⟨k, hk1, hk, rfl, rfl, HK⟩ := hrel
    by_cases hlt : k < xs.length + 3
    · have hc := (HG.out.at_.later HK.out) k hlt
      have hrk : room2 xs k = (mkI (-1) k, ⟨#[]⟩) := by unfold room2; rw [if_neg (by omega)]
      rw [hrk] at hc
      have MK : Hid (∀ ws, Below wr.heap.size wr ws → _) := hid (fun ws hb => markS_is (i := -1) (j := k) (by omega) (by omega) ws (HT.out.later (Below.on HK.out hb)))
      generalize mkI (-1) (k : Int) = s at hc MK
      obtain ⟨c0, c1⟩ := hc
      have hkI : (k : Int) < (xs.length : Int) + 3 := by omega
      clear hrk
      have r0 := cell_regrown c0
      have r1 := cell_regrown c1
      have heq := eqS2 (s, ⟨#[]⟩)
      go_wp2_with fail
      refine wp_region_quiet_below (by kernel_rfl) (by kernel_rfl) ?_
      repeat (go_big_quiet_step ((go_at_call 80; exact Calls.regrown_of (MK.out _ (below_of_regrown ⟨⟨_, _⟩, rfl⟩)))))
      refine wpQuiet_nil ?_
      intro wq hq
      replace hq := below_of_regrown hq
      have HQ := hid (Below.on HK.out hq)
      clear hq
      go_wp2_with fail
      go_roundg (xs.length + 3 - (k + 1))
      case measure => omega
      case rel => exact ⟨k + 1, by omega, by omega, rfl, by go_num, HQ⟩
    · obtain rfl : k = xs.length + 3 := by omega
      have SM := hid (sameS_is (c := xs.length + 3) (d := c) (HS.out.later HK.out) (HR.out.later HK.out) (by omega))
      go_wp2_with fail
      refine SM.out.mono ?_
      rintro e w2 ⟨rfl, hb2⟩
      go_wp2_with fail
      go_ret
      exact ⟨rfl, Below.on HK.out hb2⟩
theorem RmW.row {w : World} {g N : Nat} {f : Nat → Wr} (h : RmW w g f N) {xs : List Wr} (e : ∀ i, i < xs.length → f i = nthW xs i) (hN : xs.length ≤ N := by omega) : RowW w (some ⟨g, 0, none⟩) xs := fun i hi => by
  have hc := h.at_ i (by omega)
  rw [e i hi] at hc
  exact ⟨g, 0, rfl, by rw [Nat.zero_add]; exact hc.1, by rw [Nat.zero_add]; exact hc.2.1, by rw [Nat.zero_add]; exact hc.2.2⟩
set_option maxHeartbeats 4000000 in
theorem untW_is {a : Option Addr} {c g : Nat} {xs : List Wr} {w : World} (hg : RmW w g (roomW xs) (xs.length + 3)) (h : RowW w a xs) (hl : xs.length ≤ 1073741824) (ht : PowTab w) :
    Calls Tryz.prog 37 #[.slice (some ⟨g, 0, none⟩) xs.length (xs.length + 3), .slice a xs.length c] w fun e w' => e = .returned (.bool true) ∧ Below w.heap.size w w' := by
  have HG := hid hg; have HR := hid h; have HT := hid ht
  have HS : Hid (RowW w (some ⟨g, 0, none⟩) xs) := hid (hg.row fun i hi => by unfold roomW; rw [if_pos hi])
  clear hg h ht
  go_enter Tryz.func37, Tryz.ntmps37
  go_wp2_with fail
  go_loopg [6] 3 (fun gg s6 wr => ∃ k : Nat, xs.length ≤ k ∧ k ≤ xs.length + 3 ∧ gg = xs.length + 3 - k ∧ s6 = .int .i64 k ∧ Hid (Below w.heap.size w wr))
  case atStart => exact ⟨xs.length, by omega, by omega, by omega, rfl, hid (Below.refl _ _)⟩
  case round =>
    obtain ⟨k, hk1, hk, rfl, rfl, HK⟩ := hrel
    by_cases hlt : k < xs.length + 3
    · have hc := (HG.out.at_.later HK.out) k hlt
      have hrk : roomW xs k = ⟨mkI (-1) k, true, ⟨#[]⟩⟩ := by unfold roomW; rw [if_neg (by omega)]
      rw [hrk] at hc
      have MK : Hid (∀ ws, Below wr.heap.size wr ws → _) := hid (fun ws hb => markW_is (i := -1) (j := k) (by omega) (by omega) ws (HT.out.later (Below.on HK.out hb)))
      generalize mkI (-1) (k : Int) = s at hc MK
      obtain ⟨c0, c1, c2⟩ := hc
      have hkI : (k : Int) < (xs.length : Int) + 3 := by omega
      clear hrk
      have r0 := cell_regrown c0
      have r1 := cell_regrown c1
      have r2 := cell_regrown c2
      have heq := eqW ⟨s, true, ⟨#[]⟩⟩
      go_wp2_with fail
      refine wp_region_quiet_below (by kernel_rfl) (by kernel_rfl) ?_
      repeat (go_big_quiet_step ((go_at_call 81; exact Calls.regrown_of (MK.out _ (below_of_regrown ⟨⟨_, _⟩, rfl⟩)))))
      refine wpQuiet_nil ?_
      intro wq hq
      replace hq := below_of_regrown hq
      have HQ := hid (Below.on HK.out hq)
      clear hq
      go_wp2_with fail
      go_roundg (xs.length + 3 - (k + 1))
      case measure => omega
      case rel => exact ⟨k + 1, by omega, by omega, rfl, by go_num, HQ⟩
    · obtain rfl : k = xs.length + 3 := by omega
      have SM := hid (sameW_is (c := xs.length + 3) (d := c) (HS.out.later HK.out) (HR.out.later HK.out) (by omega))
      go_wp2_with fail
      refine SM.out.mono ?_
      rintro e w2 ⟨rfl, hb2⟩
      go_wp2_with fail
      go_ret
      exact ⟨rfl, Below.on HK.out hb2⟩
theorem RmS.row {w : World} {g N : Nat} {f : Nat → ByteArray} (h : RmS w g f N) {xs : List ByteArray} (e : ∀ i, i < xs.length → f i = nthS xs i) (hN : xs.length ≤ N := by omega) : RowS w (some ⟨g, 0, none⟩) xs := fun i hi => by
  have hc := h.at_ i (by omega)
  rw [e i hi] at hc
  exact ⟨g, 0, rfl, by rw [Nat.zero_add]; exact hc⟩
set_option maxRecDepth 16000 in
set_option maxHeartbeats 4000000 in
theorem untC_is {c : Cf} {g : Nat} {w : World} (hg : RmS w g (roomS c.ss) (c.ss.length + 2)) (h : c.Ok w) (hl : c.ss.length ≤ 1073741824) (ht : PowTab w) :
    Calls Tryz.prog 21 #[(c.at (some ⟨g, 0, none⟩) (c.ss.length + 2)).val, c.val] w fun e w' => e = .returned (.bool true) ∧ Below w.heap.size w w' := by
  have HG := hid hg; have HR := hid h; have HT := hid ht
  have HS : Hid (RowS w (some ⟨g, 0, none⟩) c.ss) := hid (hg.row fun i hi => by unfold roomS; rw [if_pos hi])
  clear hg h ht
  obtain ⟨sh, cl, a, cp, ss, ca, pk, wi⟩ := c
  simp only at hl
  obtain ⟨wA, hwA⟩ : ∃ wA, wA = (w.alloc (.cells #[.int .i64 sh, .int .i64 cl, .slice (some ⟨g, 0, none⟩) ss.length (ss.length + 2), .int .i64 ca, .int .i64 pk, .int .u64 wi] 26)).alloc (.cells #[.int .i64 sh, .int .i64 cl, .slice a ss.length cp, .int .i64 ca, .int .i64 pk, .int .u64 wi] 26) := ⟨_, rfl⟩
  have hbA : Below w.heap.size w wA := by rw [hwA]; (repeat (first | with_reducible exact Below.refl _ _ | with_reducible assumption | with_reducible refine Below.drew ?_ | with_reducible refine Below.al ?_ _ | with_reducible refine Below.setCell ?_ (by first | exact Nat.le_refl _ | (simp; omega) | (simp; done)) _ | with_reducible refine Below.on ?_ (by assumption)))
  have HD : Hid (BoxC wA w.heap.size ⟨sh, cl, some ⟨g, 0, none⟩, ss.length + 2, ss, ca, pk, wi⟩) := hid (by rw [hwA]; exact (BoxC.new w ⟨sh, cl, some ⟨g, 0, none⟩, ss.length + 2, ss, ca, pk, wi⟩ _).later (Below.al (Below.refl _ _) _))
  have HC : Hid (BoxC wA (w.heap.size + 1) ⟨sh, cl, a, cp, ss, ca, pk, wi⟩) := hid (by rw [hwA]; have := BoxC.new (w.alloc (.cells #[.int .i64 sh, .int .i64 cl, .slice (some ⟨g, 0, none⟩) ss.length (ss.length + 2), .int .i64 ca, .int .i64 pk, .int .u64 wi] 26)) ⟨sh, cl, a, cp, ss, ca, pk, wi⟩ 26; rw [World.size_alloc] at this; exact this)
  have HBA := hid hbA
  obtain ⟨d0, d1, d2, d3, d4, d5⟩ := HD.out
  obtain ⟨b0, b1, b2, b3, b4, b5⟩ := HC.out
  rw [hwA] at d2 b2
  simp only at d2 b2
  clear hbA d0 d1 d3 d4 d5 b0 b1 b3 b4 b5
  go_enter Tryz.func21, Tryz.ntmps21
  go_wp2_with fail
  rw [← hwA]
  clear hwA d2 b2
  go_loopg [6] 2 (fun gg s6 wr => ∃ k : Nat, ss.length ≤ k ∧ k ≤ ss.length + 2 ∧ gg = ss.length + 2 - k ∧ s6 = .int .i64 k ∧ Hid (Below wA.heap.size wA wr))
  case atStart => exact ⟨ss.length, by omega, by omega, by omega, rfl, hid (Below.refl _ _)⟩
  case round =>
    obtain ⟨k, hk1, hk, rfl, rfl, HK⟩ := hrel
    by_cases hlt : k < ss.length + 2
    · have hc := (HG.out.at_.later (Below.on HBA.out HK.out)) k hlt
      have hrk : roomS ss k = mkI (-1) k := by unfold roomS; rw [if_neg (by omega)]
      rw [hrk] at hc
      have MK : Hid (∀ ws, Below wr.heap.size wr ws → _) := hid (fun ws hb => markI_is (i := -1) (j := k) (by omega) (by omega) ws (HT.out.later (Below.on (Below.on HBA.out HK.out) hb)))
      generalize mkI (-1) (k : Int) = s at hc MK
      have hkI : (k : Int) < (ss.length : Int) + 2 := by omega
      clear hrk
      have r0 := cell_regrown hc
      go_wp2_with fail
      refine wp_region_quiet_below (by kernel_rfl) (by kernel_rfl) ?_
      repeat (go_big_quiet_step ((go_at_call 64; exact Calls.regrown_of (MK.out _ (below_of_regrown ⟨⟨_, _⟩, rfl⟩)))))
      refine wpQuiet_nil ?_
      intro wq hq
      replace hq := below_of_regrown hq
      have HQ := hid (Below.on HK.out hq)
      clear hq
      go_wp2_with fail
      go_roundg (ss.length + 2 - (k + 1))
      case measure => omega
      case rel => exact ⟨k + 1, by omega, by omega, rfl, by go_num, HQ⟩
    · obtain rfl : k = ss.length + 2 := by omega
      have SM := hid (sameC_is (c := ⟨sh, cl, a, cp, ss, ca, pk, wi⟩) (cp := ss.length + 2) (HR.out.row.later (Below.on HBA.out HK.out)) (HS.out.later (Below.on HBA.out HK.out)) hl)
      obtain ⟨d0, d1, d2, d3, d4, d5⟩ := HD.out.later HK.out
      obtain ⟨b0, b1, b2, b3, b4, b5⟩ := HC.out.later HK.out
      simp only at d0 d1 d2 d3 d4 d5 b0 b1 b2 b3 b4 b5
      go_wp2_with fail
      refine SM.out.mono ?_
      rintro e w2 ⟨rfl, hb2⟩
      go_wp2_with fail
      go_ret
      exact ⟨rfl, Below.on (Below.on HBA.out HK.out) hb2⟩
end Go.Proofs.YthenfioddnkjbaaGreatDoor.Rt
/- A step, and what it holds; lists copied. -/
namespace Go.Proofs.YthenfioddnkjbaaGreatDoor.Bg
open Go.RowKit Go.Sort Go.Proofs.YthenfioddnkjbaaGreatDoor Go.Proofs.YthenfioddnkjbaaGreatDoor.Rt
set_option linter.unusedVariables false

structure Sx where
  kd : Int
  t : ByteArray
  c : Cf
  s : T2
  ra : Option Addr
  rc : Nat
  rs : List T2
  wa : Option Addr
  wc : Nat
  ws : List Wr
abbrev Sx.cells (x : Sx) : Array Value := #[.int .i64 x.kd, .string x.t, .int .i64 x.c.sh, .int .i64 x.c.cl, .slice x.c.a x.c.ss.length x.c.cp, .int .i64 x.c.ca, .int .i64 x.c.pk, .int .u64 x.c.wi, .string x.s.1, .string x.s.2, .slice x.ra x.rs.length x.rc, .slice x.wa x.ws.length x.wc]
structure Sx.Ok (x : Sx) (w : World) : Prop where
  c : x.c.Ok w
  cl : x.c.ss.length ≤ 1048576
  wi : 0 ≤ x.c.wi ∧ x.c.wi ≤ 18446744073709551615
  r : Row2 w x.ra x.rs
  rl : x.rs.length ≤ 1048576
  wr : RowW w x.wa x.ws
  wl : x.ws.length ≤ 1048576
  tz : x.t.size ≤ 1048576
theorem Sx.Ok.later {x : Sx} {w w' : World} (h : x.Ok w) (hb : Below w.heap.size w w') : x.Ok w' := ⟨h.c.later hb, h.cl, h.wi, h.r.later hb, h.rl, h.wr.later hb, h.wl, h.tz⟩
structure BoxX (w : World) (p : Nat) (x : Sx) : Prop where
  c0 : w.cell? ⟨p, 0, none⟩ = some (.int .i64 x.kd)
  c1 : w.cell? ⟨p, 1, none⟩ = some (.string x.t)
  c2 : w.cell? ⟨p, 2, none⟩ = some (.int .i64 x.c.sh)
  c3 : w.cell? ⟨p, 3, none⟩ = some (.int .i64 x.c.cl)
  c4 : w.cell? ⟨p, 4, none⟩ = some (.slice x.c.a x.c.ss.length x.c.cp)
  c5 : w.cell? ⟨p, 5, none⟩ = some (.int .i64 x.c.ca)
  c6 : w.cell? ⟨p, 6, none⟩ = some (.int .i64 x.c.pk)
  c7 : w.cell? ⟨p, 7, none⟩ = some (.int .u64 x.c.wi)
  c8 : w.cell? ⟨p, 8, none⟩ = some (.string x.s.1)
  c9 : w.cell? ⟨p, 9, none⟩ = some (.string x.s.2)
  c10 : w.cell? ⟨p, 10, none⟩ = some (.slice x.ra x.rs.length x.rc)
  c11 : w.cell? ⟨p, 11, none⟩ = some (.slice x.wa x.ws.length x.wc)
theorem BoxX.onl {w w' : World} {p : Nat} {x : Sx} {F : Nat → Prop} (h : BoxX w p x) (ho : Onl F w w') (hp : ¬ F p) : BoxX w' p x :=
  ⟨ho.cell hp h.c0, ho.cell hp h.c1, ho.cell hp h.c2, ho.cell hp h.c3, ho.cell hp h.c4, ho.cell hp h.c5, ho.cell hp h.c6, ho.cell hp h.c7, ho.cell hp h.c8, ho.cell hp h.c9, ho.cell hp h.c10, ho.cell hp h.c11⟩
theorem BoxX.later {w w' : World} {p : Nat} {x : Sx} (h : BoxX w p x) (hb : Below w.heap.size w w') : BoxX w' p x := h.onl (F := fun _ => False) (Onl.of_below hb) (fun h => h)
theorem BoxX.new (w : World) (x : Sx) (t : TypeId) : BoxX (w.alloc (.cells x.cells t)) w.heap.size x := by
  have h := World.alloc_heap_new w (.cells x.cells t)
  constructor <;> (simp only [World.cell?, h]; rfl)
theorem boxC_onl {w w' : World} {p : Nat} {c : Cf} {F : Nat → Prop} (h : BoxC w p c) (ho : Onl F w w') (hp : ¬ F p) : BoxC w' p c :=
  ⟨ho.cell hp h.c0, ho.cell hp h.c1, ho.cell hp h.c2, ho.cell hp h.c3, ho.cell hp h.c4, ho.cell hp h.c5⟩
/-- a row that is read, told by its elements -/
theorem rd_of {α : Type} {E : El α} (hE : E.Ok) {w : World} {a : Option Addr} {xs : List α} (c : Nat) (h : ∀ i, (hi : i < xs.length) → ∃ b off, a = some ⟨b, off, none⟩ ∧ ∀ o u, (E.cs xs[i])[o]? = some u → w.cell? ⟨b, off + (i * E.k + o), none⟩ = some u) : Rd E w (.slice a xs.length c) xs := by
  refine ⟨a, c, rfl, fun j u e => ?_⟩
  have hp := hE.pos
  have hj := (List.getElem?_eq_some_iff.1 e).1
  rw [hE.flat_len] at hj
  have hq : j / E.k < xs.length := (Nat.div_lt_iff_lt_mul hp).2 hj
  have hm := Nat.mod_lt j hp
  have hd := Nat.div_add_mod j E.k
  rw [Nat.mul_comm] at hd
  obtain ⟨b, off, ea, hc⟩ := h (j / E.k) hq
  refine ⟨b, off, ea, ?_⟩
  have hf := hE.flat_get xs (j / E.k) (j % E.k) _ (List.getElem?_eq_getElem hq) hm
  rw [hd, e] at hf
  have := hc _ u hf.symm
  rw [hd] at this
  exact this
theorem rdT_of {w : World} {a : Option Addr} {xs : List ByteArray} (c : Nat) (h : RowS w a xs) : Rd elT w (.slice a xs.length c) xs := rd_of okT c fun i hi => by
  obtain ⟨b, off, e, h0⟩ := h i hi
  refine ⟨b, off, e, fun o u hu => ?_⟩
  have e1 : nthS xs i = xs[i] := by simp [nthS, hi]
  rw [e1] at h0
  match o, hu with
  | 0, hu => simp at hu; subst hu; simpa using h0
theorem rdS_of {w : World} {a : Option Addr} {xs : List T2} (c : Nat) (h : Row2 w a xs) : Rd elS w (.slice a xs.length c) xs := rd_of okS c fun i hi => by
  obtain ⟨b, off, e, h0, h1⟩ := h i hi
  refine ⟨b, off, e, fun o u hu => ?_⟩
  have e1 : nth2 xs i = xs[i] := by simp [nth2, hi]
  rw [e1] at h0 h1
  match o, hu with
  | 0, hu => simp at hu; subst hu; exact h0
  | 1, hu => simp at hu; subst hu; exact h1
theorem rdW_of {w : World} {a : Option Addr} {xs : List Wr} (c : Nat) (h : RowW w a xs) : Rd elW w (.slice a xs.length c) xs := rd_of okW c fun i hi => by
  obtain ⟨b, off, e, h0, h1, h2⟩ := h i hi
  refine ⟨b, off, e, fun o u hu => ?_⟩
  have e1 : nthW xs i = xs[i] := by simp [nthW, hi]
  rw [e1] at h0 h1 h2
  match o, hu with
  | 0, hu => simp at hu; subst hu; exact h0
  | 1, hu => simp at hu; subst hu; exact h1
  | 2, hu => simp at hu; subst hu; exact h2
/-- append(nil, list...) -/
theorem run_copyE {α : Type} {E : El α} (hE : E.Ok) {w : World} {u : Value} {ys : List α} (hu : Rd E w u ys) (hl : ys.length ≤ 1073741824) :
    ∃ a k w', (Builtin.append_ #[E.sl, E.sl] E.sl #[.slice none 0 0, u]).run Tryz.prog w = .ok (.slice a ys.length k) w' ∧ Rd E w' (.slice a ys.length k) ys ∧ Below w.heap.size w w' ∧ ∀ g o, a = some ⟨g, o, none⟩ → w.heap.size ≤ g := by
  obtain ⟨v', w', hr, hrow, hg, hn⟩ := run_append_F hE (RowF.nil w w.heap.size) hu E.sl (by simp; omega) (Nat.le_refl _)
  rw [List.nil_append] at hrow
  obtain ⟨a, k, e, _, _⟩ := hrow.slice
  subst e
  refine ⟨a, k, w', hr, hrow.rd, (grown_onl hg).below (fun k e => by cases e) (Nat.le_refl _), fun g o e => ?_⟩
  subst e
  rcases hn g rfl with h | h
  · cases h
  · exact h
theorem said_two (c : Cf) : ∃ t i, c.said = .tuple #[.string t, .int .i64 i] := by
  unfold Cf.said
  split
  · exact ⟨_, _, rfl⟩
  · exact ⟨_, _, rfl⟩
end Go.Proofs.YthenfioddnkjbaaGreatDoor.Bg
