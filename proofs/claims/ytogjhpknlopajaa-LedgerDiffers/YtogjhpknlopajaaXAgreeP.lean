import Derived.Test.YtogjhpknlopajaaXClash
/- What two ledgers say; Differ of a few ledgers. -/
namespace Go.Proofs.Ytogjhpknlopajaa.Lg
open Go.RowKit Go.Sort Go.Shelf Go.Lib Lk
set_option linter.unusedVariables false

theorem cl_iff {A B : List En} (hB : (B.map En.id).Nodup) (t : Ix) : (∃ e ∈ B, e.id = t ∧ clB A e = true) ↔ ∃ e f, outM B t = some e ∧ outM A t = some f ∧ agrB e f = false := by
  constructor
  · rintro ⟨e, he, rfl, hc⟩
    have h1 := outM_mem hB he
    rw [clB] at hc
    cases ho : outM A e.id with
    | none => rw [ho] at hc; cases hc
    | some f => rw [ho] at hc; exact ⟨e, f, h1, rfl, by simpa using hc⟩
  · rintro ⟨e, f, h1, h2, h3⟩
    obtain ⟨k1, k2⟩ := outM_some h1
    exact ⟨e, k1, k2, by rw [clB, k2, h2]; simp [h3]⟩
theorem view_ab {A B : List En} (t : Ix) : (∃ v, viewOf [A, B] t = some v ∧ v.df = true) ↔ ∃ e f, outM B t = some e ∧ outM A t = some f ∧ agrB e f = false := by
  simp only [viewOf, List.foldl_cons, List.foldl_nil]
  cases hA : outM A t with
  | none => cases hB : outM B t <;> simp [stepV]
  | some f => cases hB : outM B t <;> simp [stepV]
theorem view_bab {A B : List En} (t : Ix) : (∃ v, viewOf [B, [], A, B] t = some v ∧ v.df = true) ↔ ∃ e f, outM B t = some e ∧ outM A t = some f ∧ agrB e f = false := by
  have h0 : outM [] t = none := rfl
  simp only [viewOf, List.foldl_cons, List.foldl_nil, h0]
  cases hB : outM B t with
  | none => cases hA : outM A t <;> simp [stepV]
  | some e =>
    cases hA : outM A t with
    | none => simp [stepV, agrB_self]
    | some f => simp [stepV, agrB_self, agrB_comm f e]
theorem view_aa {A : List En} (t : Ix) : ¬ ∃ v, viewOf [A, A, []] t = some v ∧ v.df = true := by
  have h0 : outM [] t = none := rfl
  simp only [viewOf, List.foldl_cons, List.foldl_nil, h0]
  cases hA : outM A t <;> simp [stepV, agrB_self]
/-- Differ of ledgers whose answer is known -/
theorem differ_at {w : World} {a : Option Addr} {n c : Nat} {D : List (Option Ld)} {X : List Ix} {k : Nat} (hrow : RowC none (fun d => [ptv d]) 1 w a D) (hn : D.length = n) (hl : n ≤ 9223372036854775807) (hL : ∀ d, some d ∈ D → Lg w d.p d.m d.M) (hsum : sumL D ≤ 17592186044415)
    (hX : X.Pairwise (fun x y => ltI x y = true)) (hm : ∀ t, t ∈ X ↔ ∃ v, viewOf (mats D) t = some v ∧ v.df = true) (hk : X.length = k) :
    Calls Try.prog 18 #[.slice a n c] w fun r w' => ∃ (a' : Option Addr) (c' : Nat), r = .returned (.slice a' k c') ∧ Hid (RowC (0, 0) tcs 2 w' a' X) ∧ Below w.heap.size w w' :=
  (differ_is hrow hn hl hL hsum).mono fun r w' ⟨a', n', c', X', h1, h2, h3, h4, h5, h6⟩ => by
    have e : X' = X := rise_eq h4.out hX (fun t => by rw [h5.out t, hm t])
    subst e
    have e2 : n' = k := by rw [← h2.out, hk]
    subst e2
    exact ⟨a', c', h1, own_rowX h3.out h2.out, h6⟩
theorem row_ptrs (w : World) (D : List (Option Ld)) : RowC none (fun d => [ptv d]) 1 (w.alloc (.cells (D.map ptv).toArray 23)) (some ⟨w.heap.size, 0, none⟩) D := fun i hi => by
  refine ⟨w.heap.size, 0, rfl, fun o u ho => ?_⟩
  have h := (MapKept.heap_alloc w (.cells (D.map ptv).toArray 23)).1
  match o, ho with
  | 0, ho =>
    refine cell_of_obj h ?_
    simp at ho
    subst ho
    simp [hi]
end Go.Proofs.Ytogjhpknlopajaa.Lg
