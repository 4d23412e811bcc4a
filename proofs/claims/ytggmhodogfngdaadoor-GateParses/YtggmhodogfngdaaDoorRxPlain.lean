import Derived.Test.YtggmhodogfngdaaDoorRdPlain
/- The document's reading of a configuration's text, plain, and that it is the program's. -/
namespace Go.Proofs.YtggmhodogfngdaaDoor.Rt
set_option linter.unusedVariables false

/-- what the lines have said, as the document keeps it: how often each of the five stood, its value, whether one is beyond all numbers, the splits -/
structure Sd where
  t : Nat → Nat
  v : Nat → Nat
  ov : Bool
  sp : List (List Nat)
def Sd.none : Sd := ⟨fun _ => 0, fun _ => 0, false, []⟩
def Sd.num (s : Sd) (k n : Nat) (o : Bool) : Sd := ⟨fun j => if j = k then s.t j + 1 else s.t j, fun j => if j = k then n else s.v j, s.ov || o, s.sp⟩
def Sd.split (s : Sd) (x : List Nat) : Sd := ⟨s.t, s.v, s.ov, s.sp ++ [x]⟩
/-- which of the five names it is; 5: split; 6: none -/
def nameK (l : List UInt8) : Nat := if headB l = nm 0 then 0 else if headB l = nm 1 then 1 else if headB l = nm 2 then 2 else if headB l = nm 3 then 3 else if headB l = nm 4 then 4 else if headB l = nm 5 then 5 else 6
/-- a line is taken; none: it is of none of the forms -/
def docL (s : Sd) (l : List UInt8) : Option Sd :=
  if l = [] ∨ l.head? = some 35 then some s
  else if nameK l < 5 then
    match num (tailB l) with
    | .none => .none
    | some .none => some (s.num (nameK l) 18446744073709551615 true)
    | some (some n) => some (s.num (nameK l) n false)
  else if nameK l = 5 then (unword ((tailB l).map UInt8.toNat)).map s.split
  else .none
def docR : List (List UInt8) → Sd → Option Sd
  | [], s => some s
  | l :: ls, s => match docL s l with
    | .none => .none
    | some s' => docR ls s'
def Sd.once (s : Sd) : Bool := decide (s.t 0 = 1) && decide (s.t 1 = 1) && decide (s.t 2 = 1) && decide (s.t 3 = 1) && decide (s.t 4 = 1)
/-- how the lines fare -/
def docC : Option Sd → Nat
  | .none => 1
  | some s => if s.once then (if s.ov then 2 else 0) else 1
theorem take_name (d : Dr) (l : List UInt8) (h : ¬ (l = [] ∨ l.head? = some 35)) : takeL d l = if nameK l < 5 then takeN d (nameK l) (tailB l) else if nameK l = 5 then takeS d (tailB l) else (1, d) := by
  unfold takeL nameK
  rw [if_neg h]
  split
  · simp
  · split
    · simp
    · split
      · simp
      · split
        · simp
        · split
          · simp
          · split <;> simp
theorem docL_t {s s' : Sd} {l : List UInt8} (h : docL s l = some s') (k : Nat) : s.t k ≤ s'.t k := by
  unfold docL at h
  split at h
  · injection h with h; subst h; exact Nat.le_refl _
  · split at h
    · cases hn : num (tailB l) with
      | none => rw [hn] at h; cases h
      | some o =>
        rw [hn] at h
        cases o with
        | none => injection h with h; subst h; simp only [Sd.num]; split <;> omega
        | some n => injection h with h; subst h; simp only [Sd.num]; split <;> omega
    · split at h
      · cases hu : unword ((tailB l).map UInt8.toNat) with
        | none => rw [hu] at h; cases h
        | some x => rw [hu] at h; injection h with h; subst h; exact Nat.le_refl _
      · cases h
theorem docR_t : ∀ {ls : List (List UInt8)} {s s' : Sd} (h : docR ls s = some s') (k : Nat), s.t k ≤ s'.t k
  | [], s, s', h, k => by injection h with h; subst h; exact Nat.le_refl _
  | l :: ls, s, s', h, k => by
    rw [docR] at h
    cases hl : docL s l with
    | none => rw [hl] at h; cases h
    | some s1 =>
      rw [hl] at h
      exact Nat.le_trans (docL_t hl k) (docR_t h k)
theorem once_not {s : Sd} {k : Nat} (hk : k < 5) (h : 2 ≤ s.t k) : s.once = false := by
  have h1 : decide (s.t k = 1) = false := by simp; omega
  unfold Sd.once
  match k, hk with
  | 0, _ | 1, _ | 2, _ | 3, _ | 4, _ => simp only [h1, Bool.and_false, Bool.false_and]
theorem docC_twice {ls : List (List UInt8)} {s : Sd} {k : Nat} (hk : k < 5) (h : 2 ≤ s.t k) : docC (docR ls s) = 1 := by
  cases hr : docR ls s with
  | none => rfl
  | some s' =>
    have := docR_t hr k
    show (if s'.once then (if s'.ov then 2 else 0) else 1) = 1
    rw [once_not hk (by omega)]
    rfl
/-- both have heard the same -/
structure Rel (d : Dr) (b : Bool) (s : Sd) : Prop where
  t : ∀ k, k < 5 → s.t k = if (d.f k).isSome then 1 else 0
  ov : s.ov = b
  sp : s.sp = d.sp
  v : b = false → ∀ k, k < 5 → ∀ x, d.f k = some x → s.v k = x
theorem Rel.none : Rel Dr.none false Sd.none := ⟨fun k _ => rfl, rfl, rfl, fun _ k _ x h => by cases h⟩
theorem Rel.num {d : Dr} {b : Bool} {s : Sd} (h : Rel d b s) {k n : Nat} (hk : k < 5) (hd : (d.f k).isSome = false) : Rel (d.put k n) b (s.num k n false) := by
  refine ⟨fun j hj => ?_, by simp [Sd.num, h.ov], h.sp, fun hb j hj x hx => ?_⟩
  · by_cases e : j = k
    · subst e; simp [Sd.num, Dr.put, h.t j hj, hd]
    · simp [Sd.num, Dr.put, e, h.t j hj]
  · by_cases e : j = k
    · subst e; simp [Dr.put] at hx; simp [Sd.num, hx]
    · simp [Dr.put, e] at hx; simp [Sd.num, e, h.v hb j hj x hx]
theorem Rel.over {d : Dr} {b : Bool} {s : Sd} (h : Rel d b s) {k n : Nat} (hk : k < 5) (hd : (d.f k).isSome = false) : Rel (d.put k 0) true (s.num k n true) := by
  refine ⟨fun j hj => ?_, by simp [Sd.num], h.sp, fun hb => by cases hb⟩
  by_cases e : j = k
  · subst e; simp [Sd.num, Dr.put, h.t j hj, hd]
  · simp [Sd.num, Dr.put, e, h.t j hj]
theorem Rel.split {d : Dr} {b : Bool} {s : Sd} (h : Rel d b s) (x : List Nat) : Rel (d.add x) b (s.split x) := ⟨h.t, h.ov, by simp [Sd.split, Dr.add, h.sp], h.v⟩
theorem Rel.whole {d : Dr} {b : Bool} {s : Sd} (h : Rel d b s) : s.once = d.whole := by
  have e : ∀ k, k < 5 → decide (s.t k = 1) = (d.f k).isSome := fun k hk => by
    rw [h.t k hk]
    cases (d.f k).isSome <;> rfl
  unfold Sd.once Dr.whole
  rw [e 0 (by omega), e 1 (by omega), e 2 (by omega), e 3 (by omega), e 4 (by omega)]
/-- the lines fare alike -/
theorem run_doc : ∀ (ls : List (List UInt8)) (d : Dr) (b : Bool) (s : Sd), Rel d b s → (runL ls d b).1 = docC (docR ls s) ∧ ((runL ls d b).1 = 0 → ∃ s', docR ls s = some s' ∧ Rel (runL ls d b).2 false s' ∧ (runL ls d b).2.whole = true)
  | [], d, b, s, h => by
    rw [runL, docR]
    show (if d.whole then (if b then 2 else 0) else 1) = (if s.once then (if s.ov then 2 else 0) else 1) ∧ _
    rw [h.whole, h.ov]
    refine ⟨rfl, fun h0 => ⟨s, rfl, ?_, ?_⟩⟩
    · have h0 : (if d.whole then (if b then 2 else 0) else 1) = 0 := h0
      cases b with
      | false => exact h
      | true => exfalso; revert h0; cases d.whole <;> simp
    · have h0 : (if d.whole then (if b then 2 else 0) else 1) = 0 := h0
      show d.whole = true
      cases hw : d.whole with
      | true => rfl
      | false => rw [hw] at h0; simp at h0
  | l :: ls, d, b, s, h => by
    rw [runL, docR]
    by_cases hsk : l = [] ∨ l.head? = some 35
    · have e1 : takeL d l = (0, d) := by unfold takeL; rw [if_pos hsk]
      have e2 : docL s l = some s := by unfold docL; rw [if_pos hsk]
      rw [e1, e2]
      exact run_doc ls d b s h
    · rw [take_name d l hsk]
      have e2 : docL s l = if nameK l < 5 then (match num (tailB l) with
          | .none => .none
          | some .none => some (s.num (nameK l) 18446744073709551615 true)
          | some (some n) => some (s.num (nameK l) n false)) else if nameK l = 5 then (unword ((tailB l).map UInt8.toNat)).map s.split else .none := by
        unfold docL; rw [if_neg hsk]
      rw [e2]
      by_cases hk : nameK l < 5
      · simp only [hk, if_true]
        unfold takeN
        cases hd : (d.f (nameK l)).isSome with
        | true =>
          have h1 := h.t _ hk
          rw [hd] at h1
          have ht : ∀ n o, 2 ≤ (s.num (nameK l) n o).t (nameK l) := fun n o => by simp [Sd.num, h1]
          cases hn : num (tailB l) with
          | none => simp [docC]
          | some o =>
            cases o with
            | none => simp [docC_twice hk (ht _ _)]
            | some n => simp [docC_twice hk (ht _ _)]
        | false =>
          cases hn : num (tailB l) with
          | none => simp [docC]
          | some o =>
            cases o with
            | none => simpa using run_doc ls _ true _ (h.over (n := 18446744073709551615) hk hd)
            | some n => simpa using run_doc ls _ b _ (h.num (n := n) hk hd)
      · simp only [hk, if_false]
        by_cases h5 : nameK l = 5
        · simp only [h5, if_true]
          unfold takeS
          cases hu : unword ((tailB l).map UInt8.toNat) with
          | none => simp [docC]
          | some x => simpa using run_doc ls _ b _ (h.split x)
        · simp only [h5, if_false]
          simp [docC]
/-- the document's way with words: whatever it reads, its word must be the word -/
def dgR (c : Nat) : Nat := (hv c).getD 16
def lax : Nat → List Nat → List Nat
  | 0, _ => []
  | f + 1, l => match l with
    | [] => []
    | 37 :: x :: y :: r => (dgR x * 16 + dgR y) % 256 :: lax f r
    | c :: r => c :: lax f r
theorem lax_cases (f : Nat) (l : List Nat) : (l = [] ∧ lax (f + 1) l = []) ∨ (∃ x y r, l = 37 :: x :: y :: r ∧ lax (f + 1) l = (dgR x * 16 + dgR y) % 256 :: lax f r) ∨ (∃ c r, l = c :: r ∧ (c ≠ 37 ∨ r.length < 2) ∧ lax (f + 1) l = c :: lax f r) := by
  cases l with
  | nil => exact .inl ⟨rfl, rfl⟩
  | cons c r =>
    refine .inr ?_
    by_cases h37 : c = 37
    · subst h37
      match r with
      | [] => exact .inr ⟨37, [], rfl, .inr (by simp), rfl⟩
      | [x] => exact .inr ⟨37, [x], rfl, .inr (by simp), rfl⟩
      | x :: y :: r => exact .inl ⟨x, y, r, rfl, rfl⟩
    · refine .inr ⟨c, r, rfl, .inl h37, ?_⟩
      rw [lax]
      intro x y q h1 _
      exact absurd h1 h37
theorem lax_wbs : ∀ (s : List Nat) (f : Nat), B8 s → s.length ≤ f → lax f (wbs s) = s
  | [], f, _, _ => by cases f <;> rfl
  | b :: s, 0, _, h => by simp at h
  | b :: s, f + 1, h8, h => by
    have hb : b < 256 := h8 b (by simp)
    have ih := lax_wbs s f (fun x hx => h8 x (by simp [hx])) (by simpa using h)
    have e : wbs (b :: s) = wb b ++ wbs s := by simp [wbs]
    rw [e]
    unfold wb
    by_cases hp : plB b = true
    · rw [if_pos hp]
      have h37 : b ≠ 37 := by intro e; subst e; simp [plB] at hp
      have e1 : lax (f + 1) (b :: wbs s) = b :: lax f (wbs s) := by
        rw [lax]
        intro x y r h1 _
        exact absurd h1 h37
      show lax (f + 1) (b :: wbs s) = _
      rw [e1, ih]
    · rw [if_neg hp]
      show lax (f + 1) (37 :: hx (b / 16) :: hx (b % 16) :: wbs s) = _
      rw [lax, ih]
      unfold dgR
      rw [hv_hx (by omega), hv_hx (by omega)]
      congr 1
      simp only [Option.getD_some]
      omega
theorem lax_fuel : ∀ (f g : Nat) (l : List Nat), l.length ≤ f → l.length ≤ g → lax f l = lax g l
  | 0, 0, l, _, _ => rfl
  | 0, g + 1, l, h, _ => by
    have : l = [] := List.eq_nil_of_length_eq_zero (by omega)
    subst this; rfl
  | f + 1, 0, l, _, h => by
    have : l = [] := List.eq_nil_of_length_eq_zero (by omega)
    subst this; rfl
  | f + 1, g + 1, l, h1, h2 => by
    rcases lax_cases f l with ⟨e, e1⟩ | ⟨x, y, r, e, e1⟩ | ⟨c, r, e, hc, e1⟩
    · subst e; rfl
    · subst e
      rw [lax, lax, lax_fuel f g r (by simp at h1; omega) (by simp at h2; omega)]
    · rcases lax_cases g l with ⟨e', _⟩ | ⟨x, y, r', e', e2⟩ | ⟨c', r', e', hc', e2⟩
      · rw [e] at e'; cases e'
      · rw [e] at e'
        injection e' with h3 h4
        subst h4
        rcases hc with hc | hc
        · exact absurd h3 hc
        · simp at hc; omega
      · rw [e1, e2]
        rw [e] at e'
        injection e' with h3 h4
        subst h3 h4
        rw [e] at h1 h2
        rw [lax_fuel f g r (by simp at h1; omega) (by simp at h2; omega)]
def laxL (l : List Nat) : List Nat := lax l.length l
theorem laxL_three (x y : Nat) (r : List Nat) : laxL (37 :: x :: y :: r) = (dgR x * 16 + dgR y) % 256 :: laxL r := by
  unfold laxL
  show lax (r.length + 2 + 1) (37 :: x :: y :: r) = _
  rw [lax, lax_fuel (r.length + 2) r.length r (by omega) (by omega)]
theorem laxL_one {c : Nat} {r : List Nat} (h : c ≠ 37 ∨ r.length < 2) : laxL (c :: r) = c :: laxL r := by
  unfold laxL
  show lax (r.length + 1) (c :: r) = _
  rw [lax]
  intro x y q h1 h2
  subst h2
  rcases h with h | h
  · exact absurd h1 h
  · simp at h; omega
theorem dgR_lt {c : Nat} (h : c < 256) : dgR c ≤ 16 := by
  unfold dgR
  cases hc : hv c with
  | none => simp
  | some n => have := (hx_hv hc).2; simp; omega
theorem lax_b8 : ∀ (f : Nat) (l : List Nat), B8 l → B8 (lax f l)
  | 0, l, _ => fun b hb => by cases hb
  | f + 1, l, h => by
    rcases lax_cases f l with ⟨e, e1⟩ | ⟨x, y, r, e, e1⟩ | ⟨c, r, e, hc, e1⟩
    · rw [e1]; exact fun b hb => by cases hb
    · rw [e1]
      intro b hb
      rcases List.mem_cons.1 hb with rfl | hb
      · omega
      · exact lax_b8 f r (fun z hz => h z (by rw [e]; simp [hz])) b hb
    · rw [e1]
      intro b hb
      rcases List.mem_cons.1 hb with rfl | hb
      · exact h _ (by rw [e]; simp)
      · exact lax_b8 f r (fun z hz => h z (by rw [e]; simp [hz])) b hb
theorem lax_len : ∀ (f : Nat) (l : List Nat), (lax f l).length ≤ l.length
  | 0, l => by simp [lax]
  | f + 1, l => by
    rcases lax_cases f l with ⟨e, e1⟩ | ⟨x, y, r, e, e1⟩ | ⟨c, r, e, hc, e1⟩
    · rw [e1]; simp
    · rw [e1, e]; have := lax_len f r; simp; omega
    · rw [e1, e]; have := lax_len f r; simp; omega
/-- what the document reads -/
def decR (l : List Nat) : List Nat := if l = [37] then [] else laxL l
theorem decR_b8 {l : List Nat} (h : B8 l) : B8 (decR l) := by
  unfold decR
  split
  · exact fun b hb => by cases hb
  · exact lax_b8 _ _ h
theorem wbs_not {s : List Nat} (h : s ≠ []) : wbs s ≠ [37] := by
  cases s with
  | nil => exact absurd rfl h
  | cons b s =>
    intro e
    have e1 : wb b ++ wbs s = [37] := by simpa [wbs] using e
    unfold wb at e1
    by_cases hp : plB b = true
    · rw [if_pos hp] at e1
      have : b = 37 := by injection e1
      subst this; simp [plB] at hp
    · rw [if_neg hp] at e1
      simp at e1
theorem decR_is {l : List Nat} (h8 : B8 l) : (if wordL (decR l) = l then (decR l, (0 : Int)) else ([], 120)) = (match unword l with
    | some s => (s, 0)
    | .none => ([], 120)) := by
  cases hu : unword l with
  | some s =>
    obtain ⟨hw, hs8⟩ := word_unword h8 hu
    have e : decR l = s := by
      by_cases hs : s = []
      · subst hs
        have : l = [37] := by rw [← hw]; rfl
        rw [this]; rfl
      · have hl : wbs s = l := by rw [← hw, wordL, if_neg hs]
        have h9 := (wbs_len s).1
        rw [decR, if_neg (by rw [← hl]; exact wbs_not hs), laxL, ← hl, lax_wbs s _ hs8 h9]
    rw [e, hw, if_pos rfl]
  | none =>
    rw [if_neg]
    intro e
    have := unword_word (decR_b8 h8)
    rw [e, hu] at this
    cases this
end Go.Proofs.YtggmhodogfngdaaDoor.Rt
