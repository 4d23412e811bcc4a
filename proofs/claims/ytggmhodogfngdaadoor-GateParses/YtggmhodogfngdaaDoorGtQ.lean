import Derived.Test.YtggmhodogfngdaaDoorGtR
/- Requests, plain: how the program and the document come to a line and to an operation. -/
namespace Go.Proofs.YtggmhodogfngdaaDoor.Gt
open Go.Proofs.YtggmhodogfngdaaDoor Go.Proofs.YtggmhodogfngdaaDoor.Rt
set_option linter.unusedVariables false
set_option linter.unusedSimpArgs false

def modeL (o : Og) : List Nat := if o.asof then nAt else if o.ro then nRo else nRw
def scanL (o : Og) : List Nat := if o.back then nRscan else nScan
/-- the program's line of an operation -/
def plin (o : Og) : List Nat :=
  if o.kd = 1 then nBegin ++ 32 :: (modeL o ++ 32 :: wordL o.tok)
  else if o.kd = 2 then nGet ++ 32 :: wordL o.key
  else if o.kd = 3 then scanL o ++ 32 :: (wordL o.key ++ 32 :: (wordL o.hi ++ 32 :: decI o.lim))
  else if o.kd = 4 then nPut ++ 32 :: (wordL o.key ++ 32 :: wordL o.val)
  else if o.kd = 5 then nDel ++ 32 :: wordL o.key
  else if o.kd = 6 then nCommit else if o.kd = 7 then nAbort else []
theorem plin_req {o : Og} {fs : List (List Nat)} (h : reqF o = some fs) : plin o = joinB fs := by
  obtain ⟨kd, ro, asof, back, tok, key, hi, val, lim⟩ := o
  unfold reqF at h
  unfold plin modeL scanL
  simp only at h ⊢
  repeat' split at h
  all_goals first
    | cases h; done
    | (injection h with h; subst h; simp_all [joinB]; done)
    | (injection h with h; subst h
       have e : decI lim = decN lim.toNat := by unfold decI; rw [if_neg (by omega)]
       simp_all [joinB])
theorem word_ge (l : List Nat) : l.length ≤ (wordL l).length := by
  unfold wordL
  split
  · rename_i h; simp [h]
  · exact (wbs_len l).1
/-- how long an operation's texts are -/
def lensO (o : Og) : Nat := o.tok.length + o.key.length + o.hi.length + o.val.length
theorem lens_req {o : Og} {fs : List (List Nat)} (h : reqF o = some fs) : lensO o ≤ (joinB fs).length := by
  obtain ⟨kd, ro, asof, back, tok, key, hi, val, lim⟩ := o
  have w1 := word_ge tok; have w2 := word_ge key; have w3 := word_ge hi; have w4 := word_ge val
  unfold reqF at h
  unfold lensO
  simp only at h ⊢
  repeat' split at h
  all_goals first
    | cases h; done
    | (injection h with h; subst h; simp_all [joinB]; omega)
    | (injection h with h; subst h; simp_all [joinB]; done)
/-- what the program's Request comes to -/
theorem preq_yes {o : Og} {s : List Nat} (h : lineOf 400 o = some s) (h1 : B8 o.tok) (h2 : B8 o.key) (h3 : B8 o.hi) (h4 : B8 o.val) : lensO o ≤ 400 ∧ plin o = s ∧ opOf 400 (plin o) = some o := by
  have h0 := op_line h h1 h2 h3 h4
  unfold lineOf at h
  cases hr : reqF o with
  | none => rw [hr] at h; cases h
  | some fs =>
    rw [hr] at h
    simp only [Option.bind_some] at h
    split at h
    · rename_i hl
      injection h with h
      have e := plin_req hr
      have := lens_req hr
      refine ⟨by omega, by rw [e, h], by rw [e, h]; exact h0⟩
    · cases h
theorem wordL_b8 {l : List Nat} (h : B8 l) : B8 (wordL l) := fun b hb => by have := wordL_range h b hb; omega
theorem decI_b8 (n : Int) : B8 (decI n) := fun b hb => by have := vis_decI n b hb; omega
theorem b8_app {a b : List Nat} (h1 : B8 a) (h2 : B8 b) : B8 (a ++ b) := fun x hx => by
  rcases List.mem_append.1 hx with h | h
  · exact h1 x h
  · exact h2 x h
theorem b8_cons {a : Nat} {b : List Nat} (h1 : a < 256) (h2 : B8 b) : B8 (a :: b) := fun x hx => by
  rcases List.mem_cons.1 hx with h | h
  · rw [h]; exact h1
  · exact h2 x h
theorem plin_b8 {o : Og} (h1 : B8 o.tok) (h2 : B8 o.key) (h3 : B8 o.hi) (h4 : B8 o.val) : B8 (plin o) := by
  have w1 := wordL_b8 h1; have w2 := wordL_b8 h2; have w3 := wordL_b8 h3; have w4 := wordL_b8 h4
  have w5 := decI_b8 o.lim
  unfold plin modeL scanL
  repeat' split
  all_goals repeat (first | exact b8_nil | exact w1 | exact w2 | exact w3 | exact w4 | exact w5 | refine b8_app ?_ ?_ | refine b8_cons (by decide) ?_)
theorem preq_no {o : Og} (h : lineOf 400 o = none) (h1 : B8 o.tok) (h2 : B8 o.key) (h3 : B8 o.hi) (h4 : B8 o.val) : opOf 400 (plin o) ≠ some o := fun e => by
  rw [(line_op (plin_b8 h1 h2 h3 h4) e).1] at h
  cases h

/-- just the fields that a kind's lines name -/
def bareO (o : Og) : Og :=
  if o.kd = 1 then ⟨o.kd, o.ro, o.asof, false, o.tok, [], [], [], 0⟩
  else if o.kd = 2 then ⟨o.kd, false, false, false, [], o.key, [], [], 0⟩
  else if o.kd = 3 then ⟨o.kd, false, false, o.back, [], o.key, o.hi, [], o.lim⟩
  else if o.kd = 4 then ⟨o.kd, false, false, false, [], o.key, [], o.val, 0⟩
  else if o.kd = 5 then ⟨o.kd, false, false, false, [], o.key, [], [], 0⟩
  else ⟨o.kd, false, false, false, [], [], [], [], 0⟩
/-- the document's line of an operation -/
def dlin (o : Og) : List Nat :=
  if o.kd = 1 then (if o.asof then (if o.ro then nBegin ++ 32 :: (nAt ++ 32 :: wordL o.tok) else []) else if o.ro then nBegin ++ 32 :: (nRo ++ 32 :: wordL o.tok) else nBegin ++ 32 :: (nRw ++ 32 :: wordL o.tok))
  else if o.kd = 2 then nGet ++ 32 :: wordL o.key
  else if o.kd = 3 then (if o.lim < 0 then [] else scanL o ++ 32 :: (wordL o.key ++ 32 :: (wordL o.hi ++ 32 :: decN o.lim.toNat)))
  else if o.kd = 4 then nPut ++ 32 :: (wordL o.key ++ 32 :: wordL o.val)
  else if o.kd = 5 then nDel ++ 32 :: wordL o.key
  else if o.kd = 6 then nCommit else if o.kd = 7 then nAbort else []
theorem dlin_req {o : Og} {fs : List (List Nat)} (h : reqF o = some fs) : dlin o = joinB fs ∧ o = bareO o ∧ joinB fs ≠ [] := by
  obtain ⟨kd, ro, asof, back, tok, key, hi, val, lim⟩ := o
  unfold reqF at h
  unfold dlin bareO scanL
  simp only at h ⊢
  repeat' split at h
  all_goals first
    | cases h; done
    | (injection h with h; subst h; simp_all [joinB]; done)
    | (injection h with h; subst h
       have e : ¬ lim < 0 := by omega
       simp_all [joinB]; done)
    | (injection h with h; subst h
       have e : ¬ lim < 0 := by omega
       cases back <;> simp_all [joinB])
theorem dlin_none {o : Og} (hl : o.lim ≤ 9223372036854775807) (h : reqF o = none) : o ≠ bareO o ∨ dlin o = [] := by
  obtain ⟨kd, ro, asof, back, tok, key, hi, val, lim⟩ := o
  by_cases hb : (⟨kd, ro, asof, back, tok, key, hi, val, lim⟩ : Og) = bareO ⟨kd, ro, asof, back, tok, key, hi, val, lim⟩
  · refine .inr ?_
    unfold reqF at h
    unfold bareO at hb
    unfold dlin
    simp only at h hb hl ⊢
    by_cases k1 : kd = 1
    · simp only [k1, if_true, Og.mk.injEq, true_and] at h hb ⊢
      cases asof <;> cases ro <;> simp_all
    by_cases k2 : kd = 2
    · simp only [k2, if_true, Og.mk.injEq, true_and] at h hb ⊢
      simp_all
    by_cases k3 : kd = 3
    · simp only [k3, if_true, Og.mk.injEq, true_and] at h hb ⊢
      have : lim < 0 := by
        rcases Int.lt_or_le lim 0 with h' | h'
        · exact h'
        · simp_all
      simp [this]
    by_cases k4 : kd = 4
    · simp only [k4, if_true, Og.mk.injEq, true_and] at h hb ⊢
      simp_all
    by_cases k5 : kd = 5
    · simp only [k5, if_true, Og.mk.injEq, true_and] at h hb ⊢
      simp_all
    by_cases k6 : kd = 6
    · simp only [k6, if_true, Og.mk.injEq, true_and] at h hb ⊢
      simp_all
    by_cases k7 : kd = 7
    · simp only [k7, if_true, Og.mk.injEq, true_and] at h hb ⊢
      simp_all
    simp [k1, k2, k3, k4, k5, k6, k7]
  · exact .inl hb
/-- what the document's Request comes to -/
theorem dreq_yes {o : Og} {s : List Nat} (h : lineOf 400 o = some s) : o = bareO o ∧ dlin o = s ∧ s ≠ [] ∧ s.length ≤ 400 := by
  unfold lineOf at h
  cases hr : reqF o with
  | none => rw [hr] at h; cases h
  | some fs =>
    rw [hr] at h
    simp only [Option.bind_some] at h
    split at h
    · rename_i hl
      injection h with h
      obtain ⟨e1, e2, e3⟩ := dlin_req hr
      exact ⟨e2, by rw [e1, h], by rw [← h]; exact e3, by rw [← h]; exact hl⟩
    · cases h
theorem dreq_no {o : Og} (hl : o.lim ≤ 9223372036854775807) (h : lineOf 400 o = none) : o ≠ bareO o ∨ dlin o = [] ∨ 400 < (dlin o).length := by
  unfold lineOf at h
  cases hr : reqF o with
  | none => rcases dlin_none hl hr with h | h
            · exact .inl h
            · exact .inr (.inl h)
  | some fs =>
    rw [hr] at h
    simp only [Option.bind_some] at h
    split at h
    · cases h
    · rename_i hl
      rw [(dlin_req hr).1]
      exact .inr (.inr (by omega))
end Go.Proofs.YtggmhodogfngdaaDoor.Gt
