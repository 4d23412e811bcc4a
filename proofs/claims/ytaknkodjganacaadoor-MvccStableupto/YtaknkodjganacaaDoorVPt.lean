import Derived.Test.YtaknkodjganacaaDoorVAt
import Derived.Test.YtaknkodjganacaaDoorVMay
/- The rows of the laws' arguments; stamps that rise. -/
namespace Go.Proofs.YtaknkodjganacaaDoor.Vs
open Go.RowKit Go.Sort
set_option linter.unusedVariables false

/-- no version is above last; before the first Install there is none -/
def TopM (M : Mst) (last : Sp) (any : Bool) : Prop := (∀ e ∈ M, ∀ v ∈ e.2, last.lt v.s = false) ∧ (any = false → M = [])
theorem read_later {M : Mst} {last t : Sp} (h : ∀ e ∈ M, ∀ v ∈ e.2, last.lt v.s = false) (ht : t.lt last = false) : readAll M t = readAll M last := by
  unfold readAll
  induction M with
  | nil => rfl
  | cons x M ih =>
    have h1 : low x.2 last = x.2 := low_all (h x (by simp))
    have h2 : low x.2 t = x.2 := low_all fun v hv => Sp.le_trans (h x (by simp) v hv) ht
    have hv : valAt x.2 t = valAt x.2 last := by unfold valAt; rw [h1, h2]
    rw [List.filterMap_cons, List.filterMap_cons, hv, ih fun e he => h e (by simp [he])]
theorem add_mem {M : Mst} (hM : Rising M) {k : ByteArray} {v : Ver} {e : ByteArray × Chain} (he : e ∈ addM M k v) {u : Ver} (hu : u ∈ e.2) : (∃ e' ∈ M, u ∈ e'.2) ∨ u = v := by
  rcases (setX_mem hM _ _ e).1 he with rfl | ⟨he, _⟩
  · rcases List.mem_append.1 hu with h | h
    · cases hg : getX M k with
      | none => rw [hg] at h; cases h
      | some cs => rw [hg] at h; exact .inl ⟨(k, cs), (getX_some hM).1 hg, h⟩
    · exact .inr (by simpa using h)
  · exact .inl ⟨e, he, hu⟩
theorem inst_mem {M : Mst} (hM : Rising M) (ws : List Wr) (t : Sp) : ∀ e ∈ instM M ws t, ∀ u ∈ e.2, (∃ e' ∈ M, u ∈ e'.2) ∨ u.s = t := by
  induction ws using snoc_ind with
  | nil => exact fun e he u hu => .inl ⟨e, he, hu⟩
  | snoc ws x ih =>
    rw [instM_snoc]
    intro e he u hu
    rcases add_mem (instM_count hM ws t).2 he hu with ⟨e', he', hu'⟩ | rfl
    · exact ih e' he' u hu'
    · exact .inr rfl
theorem top_free {M : Mst} (hM : Rising M) {last t : Sp} {any : Bool} (h : TopM M last any) (ht : any = true → last.lt t = true) (ws : List Wr) : ws.all (freeB M t) = true := by
  rw [List.all_eq_true]
  intro x _
  rw [free_over]
  intro cs hg u hu
  have hm := (getX_some hM).1 hg
  cases any with
  | false => rw [h.2 rfl] at hm; cases hm
  | true => exact Sp.le_lt (h.1 _ hm u hu) (ht rfl)
theorem top_next {M : Mst} (hM : Rising M) {last t : Sp} {any : Bool} (h : TopM M last any) (ht : any = true → last.lt t = true) (ws : List Wr) : TopM (instM M ws t) t true := by
  refine ⟨fun e he u hu => ?_, fun e => (by cases e)⟩
  rcases inst_mem hM ws t e he u hu with ⟨e', he', hu'⟩ | e1
  · cases any with
    | false => rw [h.2 rfl] at he'; cases he'
    | true => exact Sp.lt_asymm (Sp.le_lt (h.1 _ he' u hu') (ht rfl))
  · rw [e1]; exact Sp.irr t
theorem top_start {M : Mst} {last t : Sp} {any : Bool} (h : TopM M last any) (ht : any = true → last.lt t = true) : readAll M t = readAll M last := by
  cases any with
  | false => rw [h.2 rfl]; rfl
  | true => exact read_later h.1 (Sp.lt_asymm (ht rfl))
theorem may_yes {ws : List Wr} {t last : Sp} {any : Bool} (h : mayB ws t last any = true) : writesOk ws = true ∧ decide (t.a < 18446744073709551615) = true ∧ (any = true → last.lt t = true) := by
  unfold mayB at h
  rw [Bool.and_eq_true, Bool.and_eq_true] at h
  refine ⟨h.1.1, h.1.2, fun e => ?_⟩
  have := h.2
  rw [e] at this; simpa using this
/-- one Install of the argument: where its writes lie, the writes, the stamp -/
structure Pt where
  wa : Option Addr
  wc : Nat
  ws : List Wr
  t : Sp
def nthT (ps : List Pt) (i : Nat) : Pt := (ps[i]?).getD ⟨none, 0, [], ⟨0, 0, 0⟩⟩
/-- a row of Installs -/
def RowT (w : World) (a : Option Addr) (ps : List Pt) : Prop := ∀ i, i < ps.length → ∃ b off, a = some ⟨b, off, none⟩ ∧ w.cell? ⟨b, off + i * 4, none⟩ = some (.slice (nthT ps i).wa (nthT ps i).ws.length (nthT ps i).wc) ∧
  w.cell? ⟨b, off + i * 4 + 1, none⟩ = some (.int .u64 (nthT ps i).t.a) ∧ w.cell? ⟨b, off + i * 4 + 2, none⟩ = some (.int .u32 (nthT ps i).t.b) ∧ w.cell? ⟨b, off + i * 4 + 3, none⟩ = some (.int .u32 (nthT ps i).t.c) ∧ RowW w (nthT ps i).wa (nthT ps i).ws ∧ (nthT ps i).ws.length ≤ 1048576 ∧ (nthT ps i).t.nn
theorem RowW.below {w w' : World} {a : Option Addr} {xs : List Wr} (h : RowW w a xs) (hb : Below w.heap.size w w') : RowW w' a xs := h.later hb
theorem RowT.later {w w' : World} {a : Option Addr} {ps : List Pt} (h : RowT w a ps) (hb : Below w.heap.size w w') : RowT w' a ps := fun i hi => by
  obtain ⟨b, off, e, c0, c1, c2, c3, hr, hl⟩ := h i hi
  exact ⟨b, off, e, cell_later hb c0, cell_later hb c1, cell_later hb c2, cell_later hb c3, hr.later hb, hl⟩
/-- the put in its box -/
def PuB (w : World) (b : Nat) (a : Option Addr) (k c : Nat) (t : Sp) : Prop := w.heap[b]? = some (.cells #[.slice a k c, .int .u64 t.a, .int .u32 t.b, .int .u32 t.c] 59 (0, 0))
theorem PuB.lt {w : World} {b k c : Nat} {a : Option Addr} {t : Sp} (h : PuB w b a k c t) : b < w.heap.size := (Array.getElem?_eq_some_iff.1 h).1
theorem PuB.later {w w' : World} {b k c : Nat} {a : Option Addr} {t : Sp} (h : PuB w b a k c t) (hb : Below w.heap.size w w') : PuB w' b a k c t := (hb.block b h.lt).trans h
theorem PuB.not {w : World} {b k c : Nat} {a : Option Addr} {t : Sp} {F : Nat → Prop} {p : Nat} {M : Mst} {mk : Sp} (h : PuB w b a k c t) (hs : Sto F w p M mk) : ¬ F b := hs.not h (by rintro (e | e) <;> exact absurd e (by decide))
def sumT (ps : List Pt) : Nat := (ps.map fun q => q.ws.length).sum
theorem nthT_take {ps : List Pt} {i : Nat} (h : i < ps.length) : ps.take (i + 1) = ps.take i ++ [nthT ps i] := by
  rw [List.take_succ_eq_append_getElem h]; simp [nthT, h]
theorem sumT_append (l m : List Pt) : sumT (l ++ m) = sumT l + sumT m := by simp [sumT]
theorem sumT_next {ps : List Pt} {i : Nat} (h : i < ps.length) : sumT (ps.take (i + 1)) = sumT (ps.take i) + (nthT ps i).ws.length := by
  rw [nthT_take h, sumT_append]; simp [sumT]
theorem sumT_mono (ps : List Pt) (i : Nat) : sumT (ps.take i) ≤ sumT ps := by
  conv => rhs; rw [← List.take_append_drop i ps, sumT_append]
  omega
theorem sumT_step (ps : List Pt) (i : Nat) : sumT (ps.take i) ≤ sumT (ps.take (i + 1)) := by
  rcases Nat.lt_or_ge i ps.length with h | h
  · rw [sumT_next h]; omega
  · rw [List.take_of_length_le h, List.take_of_length_le (by omega)]; exact Nat.le_refl _
theorem sumT_le {ps : List Pt} {i j : Nat} (h : i ≤ j) : sumT (ps.take i) ≤ sumT (ps.take j) := by
  induction j with
  | zero => obtain rfl : i = 0 := by omega
            exact Nat.le_refl _
  | succ j ih =>
    by_cases e : i = j + 1
    · rw [e]; exact Nat.le_refl _
    · exact Nat.le_trans (ih (by omega)) (sumT_step ps j)
/-- one write more among them -/
theorem inst_among {M : Mst} (h : Good M) {ws : List Wr} (hw : writesOk ws = true) {t : Sp} (ha : ws.all (freeB M t) = true) {i : Nat} (hi : i < ws.length) :
    dumpM (instM M (ws.take (i + 1)) t) = amX (dumpM (instM M (ws.take i) t)) ((nthW ws i).key, Wr.ver (nthW ws i) t) := by
  have hg := inst_good h hw ha i (by omega)
  rw [nthW_take hi, instM_snoc]
  exact add_among (e := ((nthW ws i).key, Wr.ver (nthW ws i) t)) hg (inst_over h.rising hw ha hi)
/-- a row of stamps -/
def nthS1 (ts : List Sp) (i : Nat) : Sp := (ts[i]?).getD ⟨0, 0, 0⟩
def RowA (w : World) (a : Option Addr) (ts : List Sp) : Prop := ∀ i, i < ts.length → ∃ b off, a = some ⟨b, off, none⟩ ∧ w.cell? ⟨b, off + i * 3, none⟩ = some (.int .u64 (nthS1 ts i).a) ∧ w.cell? ⟨b, off + i * 3 + 1, none⟩ = some (.int .u32 (nthS1 ts i).b) ∧ w.cell? ⟨b, off + i * 3 + 2, none⟩ = some (.int .u32 (nthS1 ts i).c) ∧ (nthS1 ts i).nn
theorem RowA.later {w w' : World} {a : Option Addr} {ts : List Sp} (h : RowA w a ts) (hb : Below w.heap.size w w') : RowA w' a ts := fun i hi => by
  obtain ⟨b, off, e, c0, c1, c2, hn⟩ := h i hi
  exact ⟨b, off, e, cell_later hb c0, cell_later hb c1, cell_later hb c2, hn⟩
end Go.Proofs.YtaknkodjganacaaDoor.Vs
