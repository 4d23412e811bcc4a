import Derived.Test.YtbgmbbmnnfmbpabQRefG
import Derived.Test.YtbgmbbmnnfmbpabQBlkP
/- The document's sorted, All. -/
namespace Go.Proofs.Ytbgmbbmnnfmbpab.Lk
open Go.RowKit Go.Sort
set_option linter.unusedVariables false

def CellB (w : World) (g : Nat) (f : Nat → Bool) (n : Nat) : Prop := ∀ i, i < n → w.cell? ⟨g, i, none⟩ = some (.bool (f i))
theorem CellB.later {w w' : World} {g n : Nat} {f : Nat → Bool} (h : CellB w g f n) (hb : Below w.heap.size w w') : CellB w' g f n := fun i hi => cell_later hb (h i hi)
theorem CellB.put {w : World} {g n k : Nat} {f : Nat → Bool} (h : CellB w g f n) (y : Bool) : CellB (w.setCell ⟨g, k, none⟩ (.bool y)) g (put f k y) n := by
  intro i hi
  by_cases e : i = k
  · subst e; rw [put_same]; exact World.cell?_setCell_same _ _ _ (h i hi)
  · rw [put_other _ _ e]; exact cell_setc (by simp only [ne_eq, Addr.mk.injEq]; omega) (h i hi)
theorem infoBo : (Try.prog.info? 4).map (fun i => (i.zero, i.size, i.bytes)) = some (some (.bool false), 1, 1) := by kernel_rfl
theorem make_bo (w : World) (n : Nat) (h : n ≤ 1759218604441) : (Instr.makeSlice 85 (.int .i64 (n : Int)) (.int .i64 (n : Int))).run Try.prog w = .ok (.slice (some ⟨w.heap.size, 0, none⟩) n n) (w.alloc (.cells (madeCells (Value.bool false).cells n) 4)) := by
  obtain ⟨i0, hi, hz0, hz1, hz2⟩ := info_of infoBo
  have := run_make (P := Try.prog) w 85 4 i0 _ Try.underlying85 hi hz0 .i64 .i64 n n (by omega) (by omega) (by rw [hz2]; omega) (by omega)
  rw [this, hz1]
  simp
theorem madeB (w : World) (n : Nat) : CellB (w.alloc (.cells (madeCells (Value.bool false).cells n) 4)) w.heap.size (fun _ => false) n := by
  intro i hi
  simp [go_sem, madeCells, hi, Value.cells, Nat.mod_one]

/-- there is a rising list of what is held -/
theorem told_ex (M : List Hd) : ∃ L, Told L M := by
  refine ⟨M.mergeSort (fun x y => !ltI y.id x.id), List.mergeSort_perm _ _, ?_⟩
  have := List.pairwise_mergeSort (le := fun x y : Hd => !ltI y.id x.id) (fun a b c h1 h2 => by
    simp only [Bool.not_eq_true'] at h1 h2 ⊢
    cases e : ltI c.id a.id with
    | false => rfl
    | true =>
      have := le_lt (i := b.id) (j := c.id) (k := a.id) h2 e
      rw [h1] at this; cases this) (fun a b => by
    cases e : ltI b.id a.id with
    | false => simp
    | true =>
      cases e' : ltI a.id b.id with
      | false => simp
      | true =>
        exfalso
        simp only [ltI, Bool.or_eq_true, Bool.and_eq_true, decide_eq_true_eq] at e e'
        omega) M
  exact this.imp fun {x y} h => by simpa using h
/-- the least that is left among the first i -/
def minP (f : Nat → Bool) (V : List Hv) (i : Nat) (k : Int) : Prop := (k = -1 ∧ ∀ j, j < i → f j = true) ∨ ∃ m : Nat, k = (m : Int) ∧ m < i ∧ f m = false ∧ ∀ j, j < i → f j = false → ltI (nthH V j).h.id (nthH V m).h.id = false
/-- the done ones are those that were told -/
def doneP (f : Nat → Bool) (V : List Hv) (L : List Hd) (r : Nat) : Prop := ∀ j, j < V.length → (f j = true ↔ (nthH V j).h ∈ L.take r)
section
variable {f : Nat → Bool} {V : List Hv} {L : List Hd} {r : Nat}
theorem told_next (hnd : ((V.map Hv.h).map Hd.id).Nodup) (hL : Told L (V.map Hv.h)) (hd : doneP f V L r) (hr : r < V.length) {k : Int} (hk : minP f V V.length k) : ∃ m : Nat, k = (m : Int) ∧ m < V.length ∧ f m = false ∧ L[r]? = some (nthH V m).h := by
  have hlen : L.length = V.length := by rw [hL.len, List.length_map]
  have hrl : r < L.length := by omega
  have hlt := hL.lt hnd
  have hnt : ∀ {a : Nat} (ha : a < L.length), r ≤ a → L[a] ∉ L.take r := fun {a} ha hra hm => by
    obtain ⟨b, hb, e⟩ := List.getElem_of_mem hm
    have hb' : b < r := by simp at hb; omega
    rw [List.getElem_take] at e
    have := List.pairwise_iff_getElem.1 hlt b a (by omega) ha (by omega)
    rw [e, lt_irr] at this; cases this
  obtain ⟨v, hv, ev⟩ := List.mem_map.1 (hL.perm.mem_iff.1 (List.getElem_mem hrl))
  obtain ⟨s, hs, es⟩ := List.getElem_of_mem hv
  have en : (nthH V s).h = L[r] := by rw [← ev, ← es]; simp [nthH, hs]
  have fs : f s = false := by
    cases e : f s with
    | false => rfl
    | true => exact absurd (en ▸ (hd s hs).1 e) (hnt hrl (Nat.le_refl _))
  rcases hk with ⟨_, hall⟩ | ⟨m, rfl, hm, fm, hmin⟩
  · rw [hall s hs] at fs; cases fs
  · refine ⟨m, rfl, hm, fm, ?_⟩
    have hmL : (nthH V m).h ∈ L := hL.perm.mem_iff.2 (List.mem_map.2 ⟨_, nthH_mem hm, rfl⟩)
    obtain ⟨b, hb, eb⟩ := List.getElem_of_mem hmL
    have hrb : r ≤ b := by
      rcases Nat.lt_or_ge b r with h | h
      · have : (nthH V m).h ∈ L.take r := by
          rw [← eb]
          exact List.mem_take_iff_getElem.2 ⟨b, by omega, rfl⟩
        rw [(hd m hm).2 this] at fm; cases fm
      · exact h
    by_cases e : b = r
    · subst e; rw [List.getElem?_eq_getElem hb, eb]
    · have h1 := List.pairwise_iff_getElem.1 hlt r b hrl hb (by omega)
      have h2 := hmin s hs fs
      rw [en, ← eb, h1] at h2; cases h2
theorem done_step (hnd : ((V.map Hv.h).map Hd.id).Nodup) (hd : doneP f V L r) {m : Nat} (hm : m < V.length) (hr : r < L.length) (hL : L[r]? = some (nthH V m).h) : doneP (put f m true) V L (r + 1) := fun j hj => by
  have e : L.take (r + 1) = L.take r ++ [(nthH V m).h] := by
    rw [List.take_succ_eq_append_getElem hr]
    rw [List.getElem?_eq_getElem hr] at hL
    injection hL with hL
    rw [hL]
  rw [e, List.mem_append]
  by_cases ejm : j = m
  · subst ejm; rw [put_same]; simp
  · rw [put_other _ _ ejm, hd j hj]
    constructor
    · exact .inl
    · rintro (h | h)
      · exact h
      · simp at h
        have : nthH V j = nthH V m := by
          have h1 : (V.map (fun v => v.h.id)).Nodup := by simpa [List.map_map, Function.comp_def] using hnd
          exact nodup_inj h1 (nthH_mem hj) (nthH_mem hm) (by rw [h])
        exact absurd (by
          have h1 : (V.map (fun v => v.h.id)).Nodup := by simpa [List.map_map, Function.comp_def] using hnd
          have e1 : (V.map (fun v => v.h.id))[j]? = (V.map (fun v => v.h.id))[m]? := by
            have a1 : nthH V j = V[j] := by simp [nthH, hj]
            have a2 : nthH V m = V[m] := by simp [nthH, hm]
            simp [hj, hm, ← a1, ← a2, this]
          exact (List.getElem?_inj (by simpa using hj) h1).1 e1) ejm
theorem min_step {i : Nat} {k : Int} (h : minP f V i k) (hf : f i = true) : minP f V (i + 1) k := by
  rcases h with ⟨e, h⟩ | ⟨m, e, h1, h2, h3⟩
  · exact .inl ⟨e, fun j hj => by by_cases ej : j = i; (subst ej; exact hf); (exact h j (by omega))⟩
  · refine .inr ⟨m, e, by omega, h2, fun j hj fj => ?_⟩
    by_cases ej : j = i
    · subst ej; rw [hf] at fj; cases fj
    · exact h3 j (by omega) fj
theorem min_first {i : Nat} (h : minP f V i (-1)) (hf : f i = false) : minP f V (i + 1) (i : Int) := by
  rcases h with ⟨_, h⟩ | ⟨m, e, _⟩
  · refine .inr ⟨i, rfl, by omega, hf, fun j hj fj => ?_⟩
    by_cases ej : j = i
    · subst ej; exact lt_irr _
    · rw [h j (by omega)] at fj; cases fj
  · omega
theorem min_keep {i m : Nat} (h : minP f V i (m : Int)) (hl : ltI (nthH V i).h.id (nthH V m).h.id = false) : minP f V (i + 1) (m : Int) := by
  rcases h with ⟨e, _⟩ | ⟨m', e, h1, h2, h3⟩
  · omega
  · obtain rfl : m = m' := by omega
    refine .inr ⟨m, rfl, by omega, h2, fun j hj fj => ?_⟩
    by_cases ej : j = i
    · subst ej; exact hl
    · exact h3 j (by omega) fj
theorem min_take {i m : Nat} (h : minP f V i (m : Int)) (hf : f i = false) (hl : ltI (nthH V i).h.id (nthH V m).h.id = true) : minP f V (i + 1) (i : Int) := by
  rcases h with ⟨e, _⟩ | ⟨m', e, h1, h2, h3⟩
  · omega
  · obtain rfl : m = m' := by omega
    refine .inr ⟨i, rfl, by omega, hf, fun j hj fj => ?_⟩
    by_cases ej : j = i
    · subst ej; exact lt_irr _
    · cases e : ltI (nthH V j).h.id (nthH V i).h.id with
      | false => rfl
      | true =>
        have h4 := h3 j (by omega) fj
        have h5 : ltI (nthH V j).h.id (nthH V m).h.id = true := by
          simp only [ltI, Bool.or_eq_true, Bool.and_eq_true, decide_eq_true_eq] at e hl ⊢
          omega
        rw [h4] at h5; cases h5
end
end Go.Proofs.Ytbgmbbmnnfmbpab.Lk
