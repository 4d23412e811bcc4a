import Derived.Test.YtfafkohghgliaabDoorRBytes
/- Words, plain: a text as bytes, its word, and what a word reads as. -/
namespace Go.Proofs.YtfafkohghgliaabDoor.Rt
set_option linter.unusedVariables false

/-- does the byte stand for itself? -/
def plB (b : Nat) : Bool := decide (33 ≤ b) && decide (b ≤ 126) && decide (b ≠ 37)
/-- a hex digit -/
def hx (n : Nat) : Nat := if n < 10 then 48 + n else 87 + n
/-- what a hex digit stands for -/
def hv (c : Nat) : Option Nat := if 48 ≤ c ∧ c ≤ 57 then some (c - 48) else if 97 ≤ c ∧ c ≤ 102 then some (c - 87) else none
/-- how a byte is written -/
def wb (b : Nat) : List Nat := if plB b then [b] else [37, hx (b / 16), hx (b % 16)]
def wbs (l : List Nat) : List Nat := l.flatMap wb
/-- a text's word -/
def wordL (l : List Nat) : List Nat := if l = [] then [37] else wbs l
/-- the byte that a word begins with, and how many bytes write it -/
def fst : List Nat → Option (Nat × Nat)
  | [] => none
  | a :: t => if plB a then some (a, 1) else
    match t with
    | x :: y :: _ => if a ≠ 37 then none else
      match hv x, hv y with
      | some h, some l => if plB (h * 16 + l) then none else some (h * 16 + l, 3)
      | _, _ => none
    | _ => none
/-- what a piece of a word reads as -/
def unw : Nat → List Nat → Option (List Nat)
  | 0, l => if l = [] then some [] else none
  | f + 1, l => if l = [] then some [] else
    match fst l with
    | none => none
    | some (b, n) => (unw f (l.drop n)).map (b :: ·)
/-- what a word reads as -/
def unword (l : List Nat) : Option (List Nat) := if l = [37] then some [] else if l = [] then none else unw l.length l

theorem hv_hx {n : Nat} (h : n < 16) : hv (hx n) = some n := by
  unfold hv hx
  by_cases h1 : n < 10
  · rw [if_pos h1, if_pos (by omega)]; congr 1; omega
  · rw [if_neg h1, if_neg (by omega), if_pos (by omega)]; congr 1; omega
theorem hx_hv {c n : Nat} (h : hv c = some n) : hx n = c ∧ n < 16 := by
  unfold hv at h
  unfold hx
  split at h
  · injection h with h; subst h; rw [if_pos (by omega)]; omega
  · split at h
    · injection h with h; subst h; rw [if_neg (by omega)]; omega
    · cases h
theorem hx_plain {n : Nat} (h : n < 16) : 33 ≤ hx n ∧ hx n ≤ 126 := by unfold hx; split <;> omega
theorem wb_len (b : Nat) : 1 ≤ (wb b).length ∧ (wb b).length ≤ 3 := by unfold wb; split <;> simp
theorem wb_range {b : Nat} (h : b < 256) : ∀ c ∈ wb b, 33 ≤ c ∧ c ≤ 126 := by
  intro c hc
  unfold wb at hc
  split at hc
  · rename_i hp
    simp [plB] at hp
    simp at hc
    omega
  · simp at hc
    rcases hc with rfl | rfl | rfl
    · omega
    · exact hx_plain (by omega)
    · exact hx_plain (by omega)
theorem wbs_len (l : List Nat) : l.length ≤ (wbs l).length ∧ (wbs l).length ≤ 3 * l.length := by
  induction l with
  | nil => simp [wbs]
  | cons a l ih =>
    have := wb_len a
    simp only [wbs, List.flatMap_cons, List.length_append, List.length_cons] at ih ⊢
    omega
theorem wbs_range {l : List Nat} (h : B8 l) : ∀ c ∈ wbs l, 33 ≤ c ∧ c ≤ 126 := by
  intro c hc
  obtain ⟨b, hb, hc⟩ := List.mem_flatMap.1 hc
  exact wb_range (h b hb) c hc
theorem wordL_range {l : List Nat} (h : B8 l) : ∀ c ∈ wordL l, 33 ≤ c ∧ c ≤ 126 := by
  unfold wordL
  split
  · intro c hc; simp at hc; omega
  · exact wbs_range h
theorem wordL_len (l : List Nat) : 1 ≤ (wordL l).length ∧ (wordL l).length ≤ 3 * l.length + 1 := by
  unfold wordL
  split
  · rename_i h; subst h; simp
  · have := wbs_len l
    have : 0 < l.length := List.length_pos_iff.2 ‹_›
    omega
theorem fst_wb {b : Nat} (h : b < 256) (t : List Nat) : fst (wb b ++ t) = some (b, (wb b).length) := by
  unfold wb
  by_cases hp : plB b = true
  · simp [hp, fst]
  · have e : b / 16 * 16 + b % 16 = b := by omega
    have h37 : plB 37 = false := rfl
    simp [hp, fst, hv_hx (show b / 16 < 16 by omega), hv_hx (show b % 16 < 16 by omega), e, h37]
theorem fst_some {l : List Nat} {b n : Nat} (h8 : B8 l) (h : fst l = some (b, n)) : ∃ t, l = wb b ++ t ∧ n = (wb b).length ∧ b < 256 := by
  rcases l with _ | ⟨a, t⟩
  · simp [fst] at h
  · by_cases hp : plB a = true
    · simp only [fst, hp, if_true, Option.some.injEq, Prod.mk.injEq] at h
      obtain ⟨rfl, rfl⟩ := h
      exact ⟨t, by simp [wb, hp], by simp [wb, hp], h8 _ (by simp)⟩
    · rcases t with _ | ⟨x, _ | ⟨y, r⟩⟩
      · simp [fst, hp] at h
      · simp [fst, hp] at h
      · by_cases ha : a = 37
        · subst ha
          cases hx1 : hv x with
          | none => simp [fst, hp, hx1] at h
          | some p =>
            cases hy1 : hv y with
            | none => simp [fst, hp, hx1, hy1] at h
            | some q =>
              by_cases hq : plB (p * 16 + q) = true
              · simp [fst, hp, hx1, hy1, hq] at h
              · simp [fst, hp, hx1, hy1, hq] at h
                obtain ⟨h1, h2⟩ := h
                obtain ⟨ex, hp16⟩ := hx_hv hx1
                obtain ⟨ey, hq16⟩ := hx_hv hy1
                have hq' : plB b = false := by rw [← h1]; simpa using hq
                have e1 : b / 16 = p := by omega
                have e2 : b % 16 = q := by omega
                refine ⟨r, ?_, ?_, by omega⟩
                · simp [wb, hq', e1, e2, ex, ey]
                · simp [wb, hq', h2.symm]
        · simp [fst, hp, ha] at h
theorem fst_pos {l : List Nat} {b n : Nat} (h : fst l = some (b, n)) : 1 ≤ n := by
  rcases l with _ | ⟨a, t⟩
  · simp [fst] at h
  · by_cases hp : plB a = true
    · simp [fst, hp] at h; omega
    · rcases t with _ | ⟨x, _ | ⟨y, r⟩⟩
      · simp [fst, hp] at h
      · simp [fst, hp] at h
      · by_cases ha : a = 37
        · subst ha
          cases hx1 : hv x with
          | none => simp [fst, hp, hx1] at h
          | some p =>
            cases hy1 : hv y with
            | none => simp [fst, hp, hx1, hy1] at h
            | some q =>
              by_cases hq : plB (p * 16 + q) = true
              · simp [fst, hp, hx1, hy1, hq] at h
              · simp [fst, hp, hx1, hy1, hq] at h; omega
        · simp [fst, hp, ha] at h
theorem fst_size {l : List Nat} {b n : Nat} (h8 : B8 l) (h : fst l = some (b, n)) : (n = 1 ∨ n = 3) ∧ n ≤ l.length ∧ b < 256 := by
  obtain ⟨t, e, e2, h3⟩ := fst_some h8 h
  refine ⟨?_, ?_, h3⟩
  · rw [e2]; unfold wb; split <;> simp
  · rw [e, e2]; simp
theorem unw_wbs : ∀ (l : List Nat) (f : Nat), B8 l → (wbs l).length ≤ f → unw f (wbs l) = some l
  | [], 0, _, _ => rfl
  | [], f + 1, _, _ => rfl
  | b :: l, 0, _, h => by
    have := (wbs_len (b :: l)).1
    simp at this; omega
  | b :: l, f + 1, h8, h => by
    have hb : b < 256 := h8 b (by simp)
    have e : wbs (b :: l) = wb b ++ wbs l := by simp [wbs]
    have hne : wb b ++ wbs l ≠ [] := by have := (wb_len b).1; intro hh; have h2 := congrArg List.length hh; rw [List.length_append, List.length_nil] at h2; omega
    have hlen : (wbs l).length ≤ f := by have := (wb_len b).1; rw [e, List.length_append] at h; omega
    rw [e]
    unfold unw
    rw [if_neg hne, fst_wb hb]
    simp [unw_wbs l f (fun x hx => h8 x (by simp [hx])) hlen]
theorem unw_some : ∀ (f : Nat) (l r : List Nat), B8 l → unw f l = some r → l = wbs r ∧ B8 r
  | 0, l, r, _, h => by
    unfold unw at h
    split at h
    · rename_i e; injection h with h; subst e h; exact ⟨rfl, B8.nil⟩
    · cases h
  | f + 1, l, r, h8, h => by
    unfold unw at h
    split at h
    · rename_i e; injection h with h; subst e h; exact ⟨rfl, B8.nil⟩
    · cases hf : fst l with
      | none => rw [hf] at h; cases h
      | some p =>
        obtain ⟨b, n⟩ := p
        rw [hf] at h
        simp only [Option.map_eq_some_iff] at h
        obtain ⟨r', h1, rfl⟩ := h
        obtain ⟨t, e, e2, hb⟩ := fst_some h8 hf
        have h1' := unw_some f _ r' (h8.drop n) h1
        refine ⟨?_, fun x hx => ?_⟩
        · rw [e, e2, List.drop_left] at h1'
          rw [e, h1'.1]; simp [wbs]
        · rcases List.mem_cons.1 hx with rfl | hx
          · exact hb
          · exact h1'.2 x hx
theorem wbs_one {l : List Nat} (h8 : B8 l) : wbs l ≠ [37] := by
  intro h
  cases l with
  | nil => simp [wbs] at h
  | cons b l =>
    have e : wbs (b :: l) = wb b ++ wbs l := by simp [wbs]
    rw [e] at h
    unfold wb at h
    split at h
    · rename_i hp
      simp at h
      rw [h.1] at hp
      simp [plB] at hp
    · simp at h
theorem unword_word {l : List Nat} (h8 : B8 l) : unword (wordL l) = some l := by
  unfold wordL
  split
  · rename_i h; subst h; rfl
  · rename_i h
    unfold unword
    have hne : wbs l ≠ [] := by
      have h1 := (wbs_len l).1
      have h2 : 0 < l.length := List.length_pos_iff.2 h
      intro hh; rw [hh, List.length_nil] at h1; omega
    rw [if_neg (wbs_one h8), if_neg hne]
    exact unw_wbs l _ h8 (Nat.le_refl _)
theorem word_unword {l r : List Nat} (h8 : B8 l) (h : unword l = some r) : wordL r = l ∧ B8 r := by
  unfold unword at h
  split at h
  · rename_i e; injection h with h; subst e h; exact ⟨rfl, B8.nil⟩
  · split at h
    · cases h
    · rename_i hne
      obtain ⟨e, hr⟩ := unw_some _ _ _ h8 h
      refine ⟨?_, hr⟩
      unfold wordL
      rw [if_neg, e]
      rintro rfl
      exact hne (by rw [e]; rfl)
/-- one step of reading a word -/
theorem unw_step {l : List Nat} {f b n : Nat} (h8 : B8 l) (hl : l.length ≤ f) (hf : fst l = some (b, n)) : unw f l = (unw f (l.drop n)).map (b :: ·) := by
  obtain ⟨h1, h2, _⟩ := fst_size h8 hf
  have key : ∀ (f : Nat) (m : List Nat), m.length ≤ f → ∀ g, f ≤ g → unw g m = unw f m := by
    intro f
    induction f with
    | zero =>
      intro m hm g _
      have : m = [] := List.eq_nil_of_length_eq_zero (by omega)
      subst this
      cases g <;> rfl
    | succ f ih =>
      intro m hm g hg
      obtain ⟨g, rfl⟩ : ∃ g', g = g' + 1 := ⟨g - 1, by omega⟩
      unfold unw
      split
      · rfl
      · cases hfm : fst m with
        | none => rfl
        | some p =>
          obtain ⟨b, n⟩ := p
          simp only
          have hn : 1 ≤ n := fst_pos hfm
          rw [ih (m.drop n) (by simp; omega) g (by omega)]
  obtain ⟨f, rfl⟩ : ∃ f', f = f' + 1 := ⟨f - 1, by omega⟩
  have hne : l ≠ [] := by rintro rfl; simp at h2; omega
  rw [key f (l.drop n) (by simp; omega) (f + 1) (by omega)]
  conv => lhs; unfold unw
  rw [if_neg hne, hf]
theorem unw_none {l : List Nat} {f : Nat} (hne : l ≠ []) (hf : fst l = none) : unw f l = none := by
  cases f with
  | zero => simp [unw, hne]
  | succ f => simp [unw, hne, hf]

end Go.Proofs.YtfafkohghgliaabDoor.Rt
