import Derived.Test.YtgplnbdankfobaaGreatDoorQGrown
/- mark: the first half, in plain words. -/
namespace Go.Proofs.YtgplnbdankfobaaGreatDoor.Lk
open Go.RowKit Go.Sort
set_option linter.unusedVariables false

abbrev MR (sg : Nat → Nat → ByteArray) (R : Nat → List T2) (q : Nat) : List T2 := mS sg q 0 (R q).length
abbrev MS (sg : Nat → Nat → ByteArray) (S : Nat → List Wr) (q : Nat) : List Wr := mW sg q 0 (S q).length
/-- while the lists are written into -/
structure M1 (w wr : World) (B n : Nat) (rv wv : Nat → Value) (R : Nat → List T2) (S : Nat → List Wr) (lv : Value) (hs : List Value) : Prop where
  mr : Mk B wr n rv wv R S
  l : wr.ownsRow B 32 8 lv n hs
  on : Onl (fun k => ∃ q, q < n ∧ ((rv q).ownBlock = some k ∨ (wv q).ownBlock = some k)) w wr
section
variable {w wr wr' : World} {B n : Nat} {rv wv : Nat → Value} {R R' : Nat → List T2} {S S' : Nat → List Wr} {lv : Value} {hs : List Value}
theorem Mk.congr (h : Mk B w n rv wv R S) (hR : ∀ q, q < n → R' q = R q) (hS : ∀ q, q < n → S' q = S q) : Mk B w n rv wv R' S' :=
  ⟨⟨fun q hq => by rw [hR q hq]; exact h.r.own q hq, h.r.ap⟩, ⟨fun q hq => by rw [hS q hq]; exact h.s.own q hq, h.s.ap⟩⟩
theorem M1.congr (h : M1 w wr B n rv wv R S lv hs) (hR : ∀ q, q < n → R' q = R q) (hS : ∀ q, q < n → S' q = S q) : M1 w wr B n rv wv R' S' lv hs := ⟨h.mr.congr hR hS, h.l, h.on⟩
theorem M1.later (h : M1 w wr B n rv wv R S lv hs) (hb : Below wr.heap.size wr wr') : M1 w wr' B n rv wv R S lv hs := ⟨h.mr.later hb, Fam.row_later h.l hb, h.on.on hb⟩
theorem M1.putR (h : M1 w wr B n rv wv R S lv hs) {i : Nat} (hi : i < n) {j : Nat} (hj : j < (R i).length) (x : T2) :
    ∃ g c, rv i = .slice (some ⟨g, 0, none⟩) (R i).length c ∧ g < wr.heap.size ∧ wr.cell? ⟨g, j * 2, none⟩ = some (.string (nth2 (R i) j).1) ∧ wr.cell? ⟨g, j * 2 + 1, none⟩ = some (.string (nth2 (R i) j).2) ∧ (∀ o, wr.frozen? ⟨g, o, none⟩ = false) ∧
      ∀ wz, Below wr.heap.size wr wz → M1 w (putS wz g (j * 2) x) B n rv wv (Fam.up R i ((R i).set j x)) S lv hs := by
  obtain ⟨g, c, e, c0, c1, fz, _, _⟩ := h.mr.putR hi hj x
  refine ⟨g, c, e, World.block_lt_of_cell? _ _ c0, c0, c1, fz, fun wz hb => ?_⟩
  have hz := h.later hb
  obtain ⟨g2, c2, e2, _, _, _, hm, hg⟩ := hz.mr.putR hi hj x
  rw [e] at e2
  injection e2 with e2 _ _
  injection e2 with e2
  injection e2 with e2 _ _
  subst e2
  exact ⟨hm, World.ownsRow.kept hz.l hg (Fam.Ap.types hz.l (hz.mr.r.own i hi) (by decide)), hz.on.trans ((grown_onl hg).mono fun k hk => ⟨i, hi, .inl hk⟩)⟩
theorem M1.putW (h : M1 w wr B n rv wv R S lv hs) {i : Nat} (hi : i < n) {j : Nat} (hj : j < (S i).length) (x : Wr) :
    ∃ g c, wv i = .slice (some ⟨g, 0, none⟩) (S i).length c ∧ g < wr.heap.size ∧ wr.cell? ⟨g, j * 3, none⟩ = some (.string (nthW (S i) j).key) ∧ wr.cell? ⟨g, j * 3 + 1, none⟩ = some (.bool (nthW (S i) j).del) ∧ wr.cell? ⟨g, j * 3 + 2, none⟩ = some (.string (nthW (S i) j).val) ∧ (∀ o, wr.frozen? ⟨g, o, none⟩ = false) ∧
      ∀ wz, Below wr.heap.size wr wz → M1 w (putW wz g (j * 3) x) B n rv wv R (Fam.up S i ((S i).set j x)) lv hs := by
  obtain ⟨g, c, e, c0, c1, c2, fz, _, _⟩ := h.mr.putW hi hj x
  refine ⟨g, c, e, World.block_lt_of_cell? _ _ c0, c0, c1, c2, fz, fun wz hb => ?_⟩
  have hz := h.later hb
  obtain ⟨g2, c2, e2, _, _, _, _, hm, hg⟩ := hz.mr.putW hi hj x
  rw [e] at e2
  injection e2 with e2 _ _
  injection e2 with e2
  injection e2 with e2 _ _
  subst e2
  exact ⟨hm, World.ownsRow.kept hz.l hg (Fam.Ap.types hz.l (hz.mr.s.own i hi) (by decide)), hz.on.trans ((grown_onl hg).mono fun k hk => ⟨i, hi, .inr hk⟩)⟩
end
section
variable {w wr : World} {B n : Nat} {rv wv : Nat → Value} {R : Nat → List T2} {S : Nat → List Wr} {lv : Value} {hs : List Value} {sg : Nat → Nat → ByteArray} {i j : Nat}
/-- the stages: rows before i are marked; of row i, j spans | all spans and j writes -/
abbrev MA (w wr : World) (B n : Nat) (rv wv : Nat → Value) (R : Nat → List T2) (S : Nat → List Wr) (lv : Value) (hs : List Value) (sg : Nat → Nat → ByteArray) (i j : Nat) : Prop := M1 w wr B n rv wv (Fam.ct (MR sg R) R i j) (Fam.ct (MS sg S) S i 0) lv hs
abbrev MB (w wr : World) (B n : Nat) (rv wv : Nat → Value) (R : Nat → List T2) (S : Nat → List Wr) (lv : Value) (hs : List Value) (sg : Nat → Nat → ByteArray) (i j : Nat) : Prop := M1 w wr B n rv wv (Fam.ct (MR sg R) R (i + 1) 0) (Fam.ct (MS sg S) S i j) lv hs
theorem MR_len (q : Nat) : (MR sg R q).length = (R q).length := mS_len _ _ _ _
theorem MS_len (q : Nat) : (MS sg S q).length = (S q).length := mW_len _ _ _ _
theorem MA.start (h : M1 w wr B n rv wv R S lv hs) : MA w wr B n rv wv R S lv hs sg 0 0 := h.congr (fun q _ => Fam.ct_zero _ _ q) (fun q _ => Fam.ct_zero _ _ q)
theorem MA.full (h : MA w wr B n rv wv R S lv hs sg i (R i).length) : MB w wr B n rv wv R S lv hs sg i 0 := h.congr (fun q _ => (Fam.ct_next _ _ (MR_len i) q).symm) (fun q _ => rfl)
theorem MB.full (h : MB w wr B n rv wv R S lv hs sg i (S i).length) : MA w wr B n rv wv R S lv hs sg (i + 1) 0 := h.congr (fun q _ => rfl) (fun q _ => (Fam.ct_next _ _ (MS_len i) q).symm)
theorem MA.done (h : MA w wr B n rv wv R S lv hs sg n 0) : M1 w wr B n rv wv (MR sg R) (MS sg S) lv hs := h.congr (fun q hq => (Fam.ct_done _ _ hq).symm) (fun q hq => (Fam.ct_done _ _ hq).symm)
theorem mS_get {i len m j : Nat} (h : j < m) : (mS sg i len m)[j]? = some (sg i (len + j), ⟨#[114]⟩) := by simp [mS, h]
theorem mW_get {i len m j : Nat} (h : j < m) : (mW sg i len m)[j]? = some ⟨sg i (len + j), false, ⟨#[119]⟩⟩ := by simp [mW, h]
theorem MA.put (h : MA w wr B n rv wv R S lv hs sg i j) (hi : i < n) (hj : j < (R i).length) :
    ∃ g c a b, rv i = .slice (some ⟨g, 0, none⟩) (R i).length c ∧ g < wr.heap.size ∧ wr.cell? ⟨g, j * 2, none⟩ = some (.string a) ∧ wr.cell? ⟨g, j * 2 + 1, none⟩ = some (.string b) ∧ (∀ o, wr.frozen? ⟨g, o, none⟩ = false) ∧
      ∀ wz, Below wr.heap.size wr wz → MA w (putS wz g (j * 2) (sg i j, ⟨#[114]⟩)) B n rv wv R S lv hs sg i (j + 1) := by
  have hl := Fam.ct_len (MR sg R) R (fun q => MR_len q) (i := i) (k := j) (by omega) i
  obtain ⟨g, c, e, hg, c0, c1, fz, hz⟩ := h.putR hi (j := j) (by rw [hl]; exact hj) (sg i j, ⟨#[114]⟩)
  rw [hl] at e
  refine ⟨g, c, _, _, e, hg, c0, c1, fz, fun wz hb => (hz wz hb).congr (fun q hq => ?_) (fun q _ => rfl)⟩
  by_cases e2 : q = i
  · subst e2
    rw [Fam.up_same, Fam.ct_set _ _ (MR_len q) hj (by rw [mS_get hj, Nat.zero_add])]
  · rw [Fam.up_other _ _ e2]; exact Fam.ct_other _ _ e2
theorem MB.put (h : MB w wr B n rv wv R S lv hs sg i j) (hi : i < n) (hj : j < (S i).length) :
    ∃ g c a b d, wv i = .slice (some ⟨g, 0, none⟩) (S i).length c ∧ g < wr.heap.size ∧ wr.cell? ⟨g, j * 3, none⟩ = some (.string a) ∧ wr.cell? ⟨g, j * 3 + 1, none⟩ = some (.bool b) ∧ wr.cell? ⟨g, j * 3 + 2, none⟩ = some (.string d) ∧ (∀ o, wr.frozen? ⟨g, o, none⟩ = false) ∧
      ∀ wz, Below wr.heap.size wr wz → MB w (putW wz g (j * 3) ⟨sg i j, false, ⟨#[119]⟩⟩) B n rv wv R S lv hs sg i (j + 1) := by
  have hl := Fam.ct_len (MS sg S) S (fun q => MS_len q) (i := i) (k := j) (by omega) i
  obtain ⟨g, c, e, hg, c0, c1, c2, fz, hz⟩ := h.putW hi (j := j) (by rw [hl]; exact hj) ⟨sg i j, false, ⟨#[119]⟩⟩
  rw [hl] at e
  refine ⟨g, c, _, _, _, e, hg, c0, c1, c2, fz, fun wz hb => (hz wz hb).congr (fun q _ => rfl) (fun q hq => ?_)⟩
  by_cases e2 : q = i
  · subst e2
    rw [Fam.up_same, Fam.ct_set _ _ (MS_len q) hj (by rw [mW_get hj, Nat.zero_add])]
  · rw [Fam.up_other _ _ e2]; exact Fam.ct_other _ _ e2
end
/-- what stands behind grown -/
theorem mS_join (sg : Nat → Nat → ByteArray) (i a b : Nat) : mS sg i 0 a ++ mS sg i a b = mS sg i 0 (a + b) := by
  apply List.ext_getElem?
  intro j
  by_cases h : j < a
  · rw [List.getElem?_append_left (by rw [mS_len]; exact h), mS_get h, mS_get (by omega)]
  · rw [List.getElem?_append_right (by rw [mS_len]; omega), mS_len]
    by_cases h2 : j < a + b
    · rw [mS_get (by omega), mS_get h2, show a + (j - a) = 0 + j by omega]
    · rw [List.getElem?_eq_none (by rw [mS_len]; omega), List.getElem?_eq_none (by rw [mS_len]; omega)]
theorem mW_join (sg : Nat → Nat → ByteArray) (i a b : Nat) : mW sg i 0 a ++ mW sg i a b = mW sg i 0 (a + b) := by
  apply List.ext_getElem?
  intro j
  by_cases h : j < a
  · rw [List.getElem?_append_left (by rw [mW_len]; exact h), mW_get h, mW_get (by omega)]
  · rw [List.getElem?_append_right (by rw [mW_len]; omega), mW_len]
    by_cases h2 : j < a + b
    · rw [mW_get (by omega), mW_get h2, show a + (j - a) = 0 + j by omega]
    · rw [List.getElem?_eq_none (by rw [mW_len]; omega), List.getElem?_eq_none (by rw [mW_len]; omega)]
theorem row_S {w : World} {B m q : Nat} {v : Value} {sg : Nat → Nat → ByteArray} (h : w.ownsRow B 34 2 v m (flat2 (mS sg q 0 m))) {j : Nat} (hj : j < m) : ∃ g c, v = .slice (some ⟨g, 0, none⟩) m c ∧ ∀ j, j < m → w.cell? ⟨g, j * 2, none⟩ = some (.string (sg q j)) ∧ w.cell? ⟨g, j * 2 + 1, none⟩ = some (.string ⟨#[114]⟩) := by
  obtain ⟨g, c, e, _⟩ := Fam.row_block h (by omega)
  subst e
  refine ⟨g, c, rfl, fun j hj => ?_⟩
  have := cells_S h (mS_len _ _ _ _) hj
  rw [nth2, mS_get hj] at this
  simpa using this
theorem row_W {w : World} {B m q : Nat} {v : Value} {sg : Nat → Nat → ByteArray} (h : w.ownsRow B 64 3 v m (flatW (mW sg q 0 m))) {j : Nat} (hj : j < m) : ∃ g c, v = .slice (some ⟨g, 0, none⟩) m c ∧ ∀ j, j < m → w.cell? ⟨g, j * 3, none⟩ = some (.string (sg q j)) ∧ w.cell? ⟨g, j * 3 + 1, none⟩ = some (.bool false) ∧ w.cell? ⟨g, j * 3 + 2, none⟩ = some (.string ⟨#[119]⟩) := by
  obtain ⟨g, c, e, _⟩ := Fam.row_block h (by omega)
  subst e
  refine ⟨g, c, rfl, fun j hj => ?_⟩
  have := cells_W h (mW_len _ _ _ _) hj
  rw [nthW, mW_get hj] at this
  simpa using this
theorem row_V {w : World} {B n : Nat} {e : TypeId} {x : Value} {SV : List Value} (h : w.ownsRow B e 1 x n SV) {q : Nat} (hq : q < n) : ∃ g c, x = .slice (some ⟨g, 0, none⟩) n c ∧ w.cell? ⟨g, q, none⟩ = some (nthY SV q) := by
  obtain ⟨g, c, e, _⟩ := Fam.row_block h (by omega)
  have hl := h.1
  subst e
  obtain ⟨g', e', _, hc⟩ := own_cells h (by omega)
  injection e' with e'
  injection e' with e' _ _
  subst e'
  refine ⟨g, c, rfl, hc q _ ?_⟩
  rw [nthY, List.getElem?_eq_getElem (by omega)]; rfl
theorem Gw.spans {W wr : World} {B n : Nat} {rv wv : Nat → Value} {R : Nat → List T2} {S : Nat → List Wr} {lv x y : Value} {hs SV TV : List Value} {sg : Nat → Nat → ByteArray} (h : Gw W wr B n rv wv (MR sg R) (MS sg S) lv hs sg n x y SV TV) {q : Nat} (hq : q < n) :
    wr.ownsRow B 34 2 (nthY SV q) ((R q).length + 70) (flat2 (mS sg q 0 ((R q).length + 70))) ∧ wr.ownsRow B 64 3 (nthY TV q) ((S q).length + 70) (flatW (mW sg q 0 ((S q).length + 70))) ∧ wr.ownsRow B 34 2 (rv q) (R q).length (flat2 (mS sg q 0 (R q).length)) ∧ wr.ownsRow B 64 3 (wv q) (S q).length (flatW (mW sg q 0 (S q).length)) := by
  have h1 := (h.rs q hq).1
  have h2 := (h.ws q hq).1
  have h3 := h.mr.r.own q hq
  have h4 := h.mr.s.own q hq
  rw [MR_len, ← flat2_append, mS_join] at h1
  rw [MS_len, ← flatW_append, mW_join] at h2
  simp only [MR_len] at h3
  simp only [MS_len] at h4
  exact ⟨h1, h2, h3, h4⟩
end Go.Proofs.YtgplnbdankfobaaGreatDoor.Lk
