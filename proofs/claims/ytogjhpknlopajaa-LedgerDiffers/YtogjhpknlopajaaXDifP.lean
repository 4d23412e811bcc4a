import Derived.Test.YtogjhpknlopajaaXRefE
/- What differs, in plain mathematics. -/
namespace Go.Proofs.Ytogjhpknlopajaa.Lg
open Go.RowKit Go.Sort Go.Shelf Go.Lib Lk
set_option linter.unusedVariables false

/-- does one of the ledgers hold an entry that does not agree with e? -/
def difB (Ms : List (List En)) (e : En) : Bool := Ms.any (fun M => clB M e)
theorem agr_iff {a b : En} : agrB a b = true ↔ a.oc = b.oc ∧ a.w = b.w ∧ a.l = b.l ∧ a.n = b.n := by
  simp only [agrB, Bool.and_eq_true, sameB_iff, beq_iff_eq]
theorem view_fold (t : Ix) (e : En) : ∀ (Ms : List (List En)) (d : Bool), Ms.foldl (fun o M => stepV o (outM M t)) (some ⟨e, d⟩) = some ⟨e, d || (Ms.filterMap (fun M => outM M t)).any (fun g => !agrB g e)⟩
  | [], d => by simp
  | M :: Ms, d => by
    rw [List.foldl_cons]
    cases ho : outM M t with
    | none =>
      rw [show stepV (some ⟨e, d⟩) none = some ⟨e, d⟩ from rfl, view_fold t e Ms d, List.filterMap_cons, ho]
    | some g =>
      rw [show stepV (some ⟨e, d⟩) (some g) = some ⟨e, d || !agrB g e⟩ from rfl, view_fold t e Ms _, List.filterMap_cons, ho]
      simp [Bool.or_assoc]
theorem view_es (t : Ix) : ∀ Ms : List (List En), viewOf Ms t = (match Ms.filterMap (fun M => outM M t) with | [] => none | e :: r => some ⟨e, r.any (fun g => !agrB g e)⟩)
  | [] => rfl
  | M :: Ms => by
    rw [viewOf, List.foldl_cons, List.filterMap_cons]
    cases ho : outM M t with
    | none =>
      have := view_es t Ms
      rw [viewOf] at this
      exact this
    | some e =>
      rw [show stepV none (some e) = some ⟨e, false⟩ from rfl, view_fold]
      simp
theorem es_mem {Ms : List (List En)} {t : Ix} {e : En} : e ∈ Ms.filterMap (fun M => outM M t) ↔ ∃ M ∈ Ms, outM M t = some e := by
  rw [List.mem_filterMap]
theorem dif_iff {Ms : List (List En)} {e : En} : difB Ms e = true ↔ ∃ f ∈ Ms.filterMap (fun M => outM M e.id), agrB e f = false := by
  rw [difB, List.any_eq_true]
  constructor
  · rintro ⟨M, hM, h⟩
    rw [clB] at h
    cases ho : outM M e.id with
    | none => rw [ho] at h; cases h
    | some f => rw [ho] at h; exact ⟨f, es_mem.2 ⟨M, hM, ho⟩, by simpa using h⟩
  · rintro ⟨f, hf, h⟩
    obtain ⟨M, hM, ho⟩ := es_mem.1 hf
    exact ⟨M, hM, by rw [clB, ho]; simp [h]⟩
/-- the program's way is the document's -/
theorem dif_view {Ms : List (List En)} (t : Ix) : (∃ v, viewOf Ms t = some v ∧ v.df = true) ↔ ∃ M ∈ Ms, ∃ e, outM M t = some e ∧ difB Ms e = true := by
  rw [view_es]
  cases hes : Ms.filterMap (fun M => outM M t) with
  | nil =>
    constructor
    · rintro ⟨v, h, _⟩; cases h
    · rintro ⟨M, hM, e, ho, _⟩
      have : e ∈ Ms.filterMap (fun M => outM M t) := es_mem.2 ⟨M, hM, ho⟩
      rw [hes] at this; simp at this
  | cons e r =>
    have hin : ∀ x, x ∈ e :: r ↔ ∃ M ∈ Ms, outM M t = some x := fun x => by rw [← hes]; exact es_mem
    constructor
    · rintro ⟨v, h, hd⟩
      injection h with h
      subst h
      rw [List.any_eq_true] at hd
      obtain ⟨g, hg, hga⟩ := hd
      obtain ⟨M, hM, ho⟩ := (hin g).1 (List.mem_cons_of_mem _ hg)
      refine ⟨M, hM, g, ho, dif_iff.2 ⟨e, ?_, by simpa using hga⟩⟩
      rw [(outM_some ho).2, hes]; simp
    · rintro ⟨M, hM, x, ho, hd⟩
      refine ⟨_, rfl, ?_⟩
      obtain ⟨f, hf, hxf⟩ := dif_iff.1 hd
      rw [(outM_some ho).2, hes] at hf
      have hx : x ∈ e :: r := (hin x).2 ⟨M, hM, ho⟩
      cases hany : r.any (fun g => !agrB g e) with
      | true => rfl
      | false =>
        exfalso
        rw [List.any_eq_false] at hany
        have all : ∀ g ∈ e :: r, agrB g e = true := fun g hg => by
          rcases List.mem_cons.1 hg with rfl | hg
          · exact agrB_self _
          · have := hany g hg; simpa using this
        have h1 := agr_iff.1 (all x hx)
        have h2 := agr_iff.1 (all f hf)
        have : agrB x f = true := agr_iff.2 ⟨h1.1.trans h2.1.symm, h1.2.1.trans h2.2.1.symm, h1.2.2.1.trans h2.2.2.1.symm, h1.2.2.2.trans h2.2.2.2.symm⟩
        rw [this] at hxf; cases hxf
/-- how the document gathers -/
def stepA (Ms : List (List En)) (A : List En) (x : En) : List En := if difB Ms x && (outM A x.id).isNone then A ++ [x] else A
structure Gath (Ms : List (List En)) (A : List En) : Prop where
  nd : (A.map En.id).Nodup
  from_ : ∀ x ∈ A, difB Ms x = true ∧ ∃ M ∈ Ms, x ∈ M
theorem gath_nil (Ms : List (List En)) : Gath Ms [] := ⟨by simp, by simp⟩
theorem gath_step {Ms : List (List En)} {A : List En} (h : Gath Ms A) {x : En} (hx : ∃ M ∈ Ms, x ∈ M) : Gath Ms (stepA Ms A x) := by
  unfold stepA
  split
  · rename_i hc
    rw [Bool.and_eq_true] at hc
    have hno : outM A x.id = none := by
      cases ho : outM A x.id with
      | none => rfl
      | some f => rw [ho] at hc; cases hc.2
    refine ⟨?_, fun y hy => ?_⟩
    · rw [List.map_append, List.nodup_append]
      refine ⟨h.nd, by simp, fun a ha b hb => ?_⟩
      simp at hb; subst hb
      rintro rfl; exact outM_none.1 hno ha
    · rcases List.mem_append.1 hy with hy | hy
      · exact h.from_ y hy
      · simp at hy; subst hy; exact ⟨hc.1, hx⟩
  · exact h
theorem step_has {Ms : List (List En)} {A : List En} {x : En} (hd : difB Ms x = true) : x.id ∈ (stepA Ms A x).map En.id := by
  unfold stepA
  split
  · simp
  · rename_i hc
    cases ho : outM A x.id with
    | none => rw [hd, ho] at hc; simp at hc
    | some f => obtain ⟨h1, h2⟩ := outM_some ho; exact List.mem_map.2 ⟨f, h1, h2⟩
theorem step_keeps {Ms : List (List En)} {A : List En} (x : En) {t : Ix} (h : t ∈ A.map En.id) : t ∈ (stepA Ms A x).map En.id := by
  unfold stepA
  split
  · rw [List.map_append]; exact List.mem_append_left _ h
  · exact h
theorem step_len (Ms : List (List En)) (A : List En) (x : En) : (stepA Ms A x).length ≤ A.length + 1 := by
  unfold stepA
  split <;> simp
def gathL (Ms : List (List En)) (xs A : List En) : List En := xs.foldl (stepA Ms) A
theorem gathL_snoc (Ms : List (List En)) (xs A : List En) (x : En) : gathL Ms (xs ++ [x]) A = stepA Ms (gathL Ms xs A) x := by simp [gathL]
theorem gathL_ok {Ms : List (List En)} : ∀ {xs A : List En}, Gath Ms A → (∀ x ∈ xs, ∃ M ∈ Ms, x ∈ M) → Gath Ms (gathL Ms xs A) ∧ (∀ x ∈ xs, difB Ms x = true → x.id ∈ (gathL Ms xs A).map En.id) ∧ (∀ t ∈ A.map En.id, t ∈ (gathL Ms xs A).map En.id)
  | [], A, h, _ => ⟨h, by simp, fun t ht => ht⟩
  | x :: xs, A, h, hx => by
    obtain ⟨h1, h2, h3⟩ := gathL_ok (xs := xs) (gath_step h (hx x (by simp))) (fun y hy => hx y (by simp [hy]))
    refine ⟨h1, fun y hy hd => ?_, fun t ht => h3 t (step_keeps x ht)⟩
    rcases List.mem_cons.1 hy with rfl | hy
    · exact h3 _ (step_has hd)
    · exact h2 y hy hd
/-- all that the document gathers -/
def allG (Ms : List (List En)) (k : Nat) : List En := gathL Ms ((Ms.take k).flatMap (srtL false)) []
theorem allG_mem {Ms : List (List En)} (t : Ix) (hn : ∀ M ∈ Ms, (M.map En.id).Nodup) : t ∈ (allG Ms Ms.length).map En.id ↔ ∃ M ∈ Ms, ∃ e, outM M t = some e ∧ difB Ms e = true := by
  have hin : ∀ x ∈ (Ms.take Ms.length).flatMap (srtL false), ∃ M ∈ Ms, x ∈ M := fun x hx => by
    rw [List.take_length] at hx
    obtain ⟨M, hM, h⟩ := List.mem_flatMap.1 hx
    exact ⟨M, hM, (srt_perm false M).mem_iff.1 h⟩
  obtain ⟨h1, h2, _⟩ := gathL_ok (gath_nil Ms) hin
  constructor
  · intro ht
    obtain ⟨x, hx, rfl⟩ := List.mem_map.1 ht
    obtain ⟨hd, M, hM, hxM⟩ := h1.from_ x hx
    exact ⟨M, hM, x, outM_mem (hn M hM) hxM, hd⟩
  · rintro ⟨M, hM, e, ho, hd⟩
    obtain ⟨k1, k2⟩ := outM_some ho
    rw [← k2]
    refine h2 e ?_ hd
    rw [List.take_length, List.mem_flatMap]
    exact ⟨M, hM, (srt_perm false M).mem_iff.2 k1⟩
theorem nodup_len {α : Type} [DecidableEq α] : ∀ {l k : List α}, l.Nodup → (∀ x ∈ l, x ∈ k) → l.length ≤ k.length
  | [], k, _, _ => by simp
  | x :: l, k, hn, h => by
    rw [List.nodup_cons] at hn
    have hx : x ∈ k := h x (by simp)
    have h1 := nodup_len (l := l) (k := k.erase x) hn.2 (fun y hy => (List.mem_erase_of_ne (fun (e : y = x) => hn.1 (by rw [← e]; exact hy))).2 (h y (by simp [hy])))
    rw [List.length_erase_of_mem hx] at h1
    have h2 := List.length_pos_of_mem hx
    simp only [List.length_cons]
    omega
end Go.Proofs.Ytogjhpknlopajaa.Lg
