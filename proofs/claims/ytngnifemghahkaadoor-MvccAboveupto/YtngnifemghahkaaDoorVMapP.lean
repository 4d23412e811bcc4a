import Derived.Test.YtngnifemghahkaaDoorVMay
/- MvccMap, plain: a store whose stamps rise is a map at every stamp. -/
namespace Go.Proofs.YtngnifemghahkaaDoor.Vs
open Go.RowKit Go.Sort
set_option linter.unusedVariables false

/-- no version is above last; before the first Install there is none -/
def TopM (M : Mst) (last : Sp) (any : Bool) : Prop := (∀ e ∈ M, ∀ v ∈ e.2, last.lt v.s = false) ∧ (any = false → M = [])
theorem read_later {M : Mst} {last t : Sp} (h : ∀ e ∈ M, ∀ v ∈ e.2, last.lt v.s = false) (ht : t.lt last = false) : readAll M t = readAll M last := by
  unfold readAll
  induction M with
  | nil => rfl
  | cons x M ih =>
    have h1 : low x.2 last = x.2 := low_all (h x (by simp))
    have h2 : low x.2 t = x.2 := low_all fun v hv => Sp.le_trans (h x (by simp) v hv) ht
    have hv : valAt x.2 t = valAt x.2 last := by unfold valAt; rw [h1, h2]
    rw [List.filterMap_cons, List.filterMap_cons, hv, ih fun e he => h e (by simp [he])]
theorem add_mem {M : Mst} (hM : Rising M) {k : ByteArray} {v : Ver} {e : ByteArray × Chain} (he : e ∈ addM M k v) {u : Ver} (hu : u ∈ e.2) : (∃ e' ∈ M, u ∈ e'.2) ∨ u = v := by
  rcases (setX_mem hM _ _ e).1 he with rfl | ⟨he, _⟩
  · rcases List.mem_append.1 hu with h | h
    · cases hg : getX M k with
      | none => rw [hg] at h; cases h
      | some cs => rw [hg] at h; exact .inl ⟨(k, cs), (getX_some hM).1 hg, h⟩
    · exact .inr (by simpa using h)
  · exact .inl ⟨e, he, hu⟩
theorem inst_mem {M : Mst} (hM : Rising M) (ws : List Wr) (t : Sp) : ∀ e ∈ instM M ws t, ∀ u ∈ e.2, (∃ e' ∈ M, u ∈ e'.2) ∨ u.s = t := by
  induction ws using snoc_ind with
  | nil => exact fun e he u hu => .inl ⟨e, he, hu⟩
  | snoc ws x ih =>
    rw [instM_snoc]
    intro e he u hu
    rcases add_mem (instM_count hM ws t).2 he hu with ⟨e', he', hu'⟩ | rfl
    · exact ih e' he' u hu'
    · exact .inr rfl
theorem top_free {M : Mst} (hM : Rising M) {last t : Sp} {any : Bool} (h : TopM M last any) (ht : any = true → last.lt t = true) (ws : List Wr) : ws.all (freeB M t) = true := by
  rw [List.all_eq_true]
  intro x _
  rw [free_over]
  intro cs hg u hu
  have hm := (getX_some hM).1 hg
  cases any with
  | false => rw [h.2 rfl] at hm; cases hm
  | true => exact Sp.le_lt (h.1 _ hm u hu) (ht rfl)
theorem top_next {M : Mst} (hM : Rising M) {last t : Sp} {any : Bool} (h : TopM M last any) (ht : any = true → last.lt t = true) (ws : List Wr) : TopM (instM M ws t) t true := by
  refine ⟨fun e he u hu => ?_, fun e => (by cases e)⟩
  rcases inst_mem hM ws t e he u hu with ⟨e', he', hu'⟩ | e1
  · cases any with
    | false => rw [h.2 rfl] at he'; cases he'
    | true => exact Sp.lt_asymm (Sp.le_lt (h.1 _ he' u hu') (ht rfl))
  · rw [e1]; exact Sp.irr t
theorem top_start {M : Mst} {last t : Sp} {any : Bool} (h : TopM M last any) (ht : any = true → last.lt t = true) : readAll M t = readAll M last := by
  cases any with
  | false => rw [h.2 rfl]; rfl
  | true => exact read_later h.1 (Sp.lt_asymm (ht rfl))
/-- a write at or below a read's stamp is laid on the map -/
theorem inst_lay {M : Mst} (hM : Rising M) {ws : List Wr} {i : Nat} (hi : i < ws.length) {t s : Sp} (hs : s.lt t = false) : readAll (instM M (ws.take (i + 1)) t) s = layX (readAll (instM M (ws.take i) t) s) (nthW ws i) := by
  have hr := (instM_count hM (ws.take i) t).2
  rw [nthW_take hi, instM_snoc, readAll_add_low hr (v := Wr.ver (nthW ws i) t) hs, layX_set (readAll_rising hr s)]
  rfl
theorem inst_skip {M : Mst} (hM : Rising M) {ws : List Wr} {i : Nat} (hi : i < ws.length) {t s : Sp} (hs : s.lt t = true) : readAll (instM M (ws.take (i + 1)) t) s = readAll (instM M (ws.take i) t) s := by
  have hr := (instM_count hM (ws.take i) t).2
  rw [nthW_take hi, instM_snoc, readAll_add_high hr (v := Wr.ver (nthW ws i) t) hs]
theorem may_yes {ws : List Wr} {t last : Sp} {any : Bool} (h : mayB ws t last any = true) : writesOk ws = true ∧ decide (t.a < 18446744073709551615) = true ∧ (any = true → last.lt t = true) := by
  unfold mayB at h
  rw [Bool.and_eq_true, Bool.and_eq_true] at h
  refine ⟨h.1.1, h.1.2, fun e => ?_⟩
  have := h.2
  rw [e] at this; simpa using this
theorem inst_ok {M : Mst} {ws : List Wr} {t : Sp} (h1 : writesOk ws = true) (h2 : decide (t.a < 18446744073709551615) = true) (h3 : ws.all (freeB M t) = true) : instE M ws t = 0 ∧ instR M ws t = instM M ws t := by
  have e : instE M ws t = 0 := by unfold instE; rw [h1, h2, h3]; rfl
  exact ⟨e, by unfold instR; rw [if_pos e]⟩
theorem inst_good {M : Mst} (h : Good M) {ws : List Wr} (hw : writesOk ws = true) {t : Sp} (ha : ws.all (freeB M t) = true) : ∀ i, i ≤ ws.length → Good (instM M (ws.take i) t) := by
  intro i
  induction i with
  | zero => intro _; exact h
  | succ i ih =>
    intro hi
    rw [nthW_take (by omega : i < ws.length), instM_snoc]
    exact (ih (by omega)).add (inst_over h.rising hw ha (by omega))
theorem readAll_len (M : Mst) (h : Good M) (t : Sp) : (readAll M t).length ≤ countM M := Nat.le_trans (List.length_filterMap_le _ _) (count_keys h)

/-- a stamp's numbers are no less than nothing -/
def Sp.nn (s : Sp) : Prop := 0 ≤ s.a ∧ 0 ≤ s.b ∧ 0 ≤ s.c
theorem Sp.nn_lt {s : Sp} (h : s.nn) : s.lt ⟨0, 0, 0⟩ = false := by
  obtain ⟨h1, h2, h3⟩ := h
  unfold Sp.lt
  rw [lessB_iff_false]
  simp only
  omega
/-- one Install of the argument: where its writes lie, the writes, the stamp -/
structure Pt where
  wa : Option Addr
  wc : Nat
  ws : List Wr
  t : Sp
def nthT (ps : List Pt) (i : Nat) : Pt := (ps[i]?).getD ⟨none, 0, [], ⟨0, 0, 0⟩⟩
/-- a row of Installs -/
def RowT (w : World) (a : Option Addr) (ps : List Pt) : Prop := ∀ i, i < ps.length → ∃ b off, a = some ⟨b, off, none⟩ ∧ w.cell? ⟨b, off + i * 4, none⟩ = some (.slice (nthT ps i).wa (nthT ps i).ws.length (nthT ps i).wc) ∧
  w.cell? ⟨b, off + i * 4 + 1, none⟩ = some (.int .u64 (nthT ps i).t.a) ∧ w.cell? ⟨b, off + i * 4 + 2, none⟩ = some (.int .u32 (nthT ps i).t.b) ∧ w.cell? ⟨b, off + i * 4 + 3, none⟩ = some (.int .u32 (nthT ps i).t.c) ∧ RowW w (nthT ps i).wa (nthT ps i).ws ∧ (nthT ps i).ws.length ≤ 1048576 ∧ (nthT ps i).t.nn
theorem RowW.below {w w' : World} {a : Option Addr} {xs : List Wr} (h : RowW w a xs) (hb : Below w.heap.size w w') : RowW w' a xs := h.later hb
theorem RowT.later {w w' : World} {a : Option Addr} {ps : List Pt} (h : RowT w a ps) (hb : Below w.heap.size w w') : RowT w' a ps := fun i hi => by
  obtain ⟨b, off, e, c0, c1, c2, c3, hr, hl⟩ := h i hi
  exact ⟨b, off, e, cell_later hb c0, cell_later hb c1, cell_later hb c2, cell_later hb c3, hr.later hb, hl⟩
end Go.Proofs.YtngnifemghahkaaDoor.Vs
