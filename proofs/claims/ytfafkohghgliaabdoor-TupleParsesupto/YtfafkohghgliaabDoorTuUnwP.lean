import Derived.Test.YtfafkohghgliaabDoorTuT
/- What the document reads where a word may stand, plain. -/
namespace Go.Proofs.YtfafkohghgliaabDoor.Tu
open Go.Proofs.YtfafkohghgliaabDoor Go.Proofs.YtfafkohghgliaabDoor.Rt
set_option linter.unusedVariables false
set_option linter.unusedSectionVars false
variable [DecidableEq Vl]

def dgR (c : Nat) : Nat := (hv c).getD 16
def lax : Nat → List Nat → List Nat
  | 0, _ => []
  | f + 1, l => match l with
    | [] => []
    | 37 :: x :: y :: r => (dgR x * 16 + dgR y) % 256 :: lax f r
    | c :: r => c :: lax f r
theorem lax_cases (f : Nat) (l : List Nat) : (l = [] ∧ lax (f + 1) l = []) ∨ (∃ x y r, l = 37 :: x :: y :: r ∧ lax (f + 1) l = (dgR x * 16 + dgR y) % 256 :: lax f r) ∨ (∃ c r, l = c :: r ∧ (c ≠ 37 ∨ r.length < 2) ∧ lax (f + 1) l = c :: lax f r) := by
  cases l with
  | nil => exact .inl ⟨rfl, rfl⟩
  | cons c r =>
    refine .inr ?_
    by_cases h37 : c = 37
    · subst h37
      match r with
      | [] => exact .inr ⟨37, [], rfl, .inr (by simp), rfl⟩
      | [x] => exact .inr ⟨37, [x], rfl, .inr (by simp), rfl⟩
      | x :: y :: r => exact .inl ⟨x, y, r, rfl, rfl⟩
    · refine .inr ⟨c, r, rfl, .inl h37, ?_⟩
      rw [lax]
      intro x y q h1 _
      exact absurd h1 h37
theorem lax_wbs : ∀ (s : List Nat) (f : Nat), B8 s → s.length ≤ f → lax f (wbs s) = s
  | [], f, _, _ => by cases f <;> rfl
  | b :: s, 0, _, h => by simp at h
  | b :: s, f + 1, h8, h => by
    have hb : b < 256 := h8 b (by simp)
    have ih := lax_wbs s f (fun x hx => h8 x (by simp [hx])) (by simpa using h)
    have e : wbs (b :: s) = wb b ++ wbs s := by simp [wbs]
    rw [e]
    unfold wb
    by_cases hp : plB b = true
    · rw [if_pos hp]
      have h37 : b ≠ 37 := by intro e; subst e; simp [plB] at hp
      have e1 : lax (f + 1) (b :: wbs s) = b :: lax f (wbs s) := by
        rw [lax]
        intro x y r h1 _
        exact absurd h1 h37
      show lax (f + 1) (b :: wbs s) = _
      rw [e1, ih]
    · rw [if_neg hp]
      show lax (f + 1) (37 :: hx (b / 16) :: hx (b % 16) :: wbs s) = _
      rw [lax, ih]
      unfold dgR
      rw [hv_hx (by omega), hv_hx (by omega)]
      congr 1
      simp only [Option.getD_some]
      omega
theorem lax_fuel : ∀ (f g : Nat) (l : List Nat), l.length ≤ f → l.length ≤ g → lax f l = lax g l
  | 0, 0, l, _, _ => rfl
  | 0, g + 1, l, h, _ => by
    have : l = [] := List.eq_nil_of_length_eq_zero (by omega)
    subst this; rfl
  | f + 1, 0, l, _, h => by
    have : l = [] := List.eq_nil_of_length_eq_zero (by omega)
    subst this; rfl
  | f + 1, g + 1, l, h1, h2 => by
    rcases lax_cases f l with ⟨e, e1⟩ | ⟨x, y, r, e, e1⟩ | ⟨c, r, e, hc, e1⟩
    · subst e; rfl
    · subst e
      rw [lax, lax, lax_fuel f g r (by simp at h1; omega) (by simp at h2; omega)]
    · rcases lax_cases g l with ⟨e', _⟩ | ⟨x, y, r', e', e2⟩ | ⟨c', r', e', hc', e2⟩
      · rw [e] at e'; cases e'
      · rw [e] at e'
        injection e' with h3 h4
        subst h4
        rcases hc with hc | hc
        · exact absurd h3 hc
        · simp at hc; omega
      · rw [e1, e2]
        rw [e] at e'
        injection e' with h3 h4
        subst h3 h4
        rw [e] at h1 h2
        rw [lax_fuel f g r (by simp at h1; omega) (by simp at h2; omega)]
def laxL (l : List Nat) : List Nat := lax l.length l
theorem laxL_three (x y : Nat) (r : List Nat) : laxL (37 :: x :: y :: r) = (dgR x * 16 + dgR y) % 256 :: laxL r := by
  unfold laxL
  show lax (r.length + 2 + 1) (37 :: x :: y :: r) = _
  rw [lax, lax_fuel (r.length + 2) r.length r (by omega) (by omega)]
theorem laxL_one {c : Nat} {r : List Nat} (h : c ≠ 37 ∨ r.length < 2) : laxL (c :: r) = c :: laxL r := by
  unfold laxL
  show lax (r.length + 1) (c :: r) = _
  rw [lax]
  intro x y q h1 h2
  subst h2
  rcases h with h | h
  · exact absurd h1 h
  · simp at h; omega
theorem dgR_lt {c : Nat} (h : c < 256) : dgR c ≤ 16 := by
  unfold dgR
  cases hc : hv c with
  | none => simp
  | some n => have := (hx_hv hc).2; simp; omega
theorem lax_b8 : ∀ (f : Nat) (l : List Nat), B8 l → B8 (lax f l)
  | 0, l, _ => fun b hb => by cases hb
  | f + 1, l, h => by
    rcases lax_cases f l with ⟨e, e1⟩ | ⟨x, y, r, e, e1⟩ | ⟨c, r, e, hc, e1⟩
    · rw [e1]; exact fun b hb => by cases hb
    · rw [e1]
      intro b hb
      rcases List.mem_cons.1 hb with rfl | hb
      · omega
      · exact lax_b8 f r (fun z hz => h z (by rw [e]; simp [hz])) b hb
    · rw [e1]
      intro b hb
      rcases List.mem_cons.1 hb with rfl | hb
      · exact h _ (by rw [e]; simp)
      · exact lax_b8 f r (fun z hz => h z (by rw [e]; simp [hz])) b hb
theorem lax_len : ∀ (f : Nat) (l : List Nat), (lax f l).length ≤ l.length
  | 0, l => by simp [lax]
  | f + 1, l => by
    rcases lax_cases f l with ⟨e, e1⟩ | ⟨x, y, r, e, e1⟩ | ⟨c, r, e, hc, e1⟩
    · rw [e1]; simp
    · rw [e1, e]; have := lax_len f r; simp; omega
    · rw [e1, e]; have := lax_len f r; simp; omega
/-- what the document reads -/
def decR (l : List Nat) : List Nat := if l = [37] then [] else laxL l
theorem decR_b8 {l : List Nat} (h : B8 l) : B8 (decR l) := by
  unfold decR
  split
  · exact fun b hb => by cases hb
  · exact lax_b8 _ _ h
theorem wbs_not {s : List Nat} (h : s ≠ []) : wbs s ≠ [37] := by
  cases s with
  | nil => exact absurd rfl h
  | cons b s =>
    intro e
    have e1 : wb b ++ wbs s = [37] := by simpa [wbs] using e
    unfold wb at e1
    by_cases hp : plB b = true
    · rw [if_pos hp] at e1
      have : b = 37 := by injection e1
      subst this; simp [plB] at hp
    · rw [if_neg hp] at e1
      simp at e1
theorem decR_is {l : List Nat} (h8 : B8 l) : (if wordL (decR l) = l then (decR l, (0 : Int)) else ([], 120)) = (match unword l with
    | some s => (s, 0)
    | .none => ([], 120)) := by
  cases hu : unword l with
  | some s =>
    obtain ⟨hw, hs8⟩ := word_unword h8 hu
    have e : decR l = s := by
      by_cases hs : s = []
      · subst hs
        have : l = [37] := by rw [← hw]; rfl
        rw [this]; rfl
      · have hl : wbs s = l := by rw [← hw, wordL, if_neg hs]
        have h9 := (wbs_len s).1
        rw [decR, if_neg (by rw [← hl]; exact wbs_not hs), laxL, ← hl, lax_wbs s _ hs8 h9]
    rw [e, hw, if_pos rfl]
  | none =>
    rw [if_neg]
    intro e
    have := unword_word (decR_b8 h8)
    rw [e, hu] at this
    cases this
end Go.Proofs.YtfafkohghgliaabDoor.Tu
