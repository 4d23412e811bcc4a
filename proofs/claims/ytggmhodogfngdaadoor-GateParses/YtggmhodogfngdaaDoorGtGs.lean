import Derived.Test.YtggmhodogfngdaaDoorGtO
/- How the document guesses an operation: plain. -/
namespace Go.Proofs.YtggmhodogfngdaaDoor.Gt
open Go.Proofs.YtggmhodogfngdaaDoor Go.Proofs.YtggmhodogfngdaaDoor.Rt
set_option linter.unusedVariables false
set_option linter.unusedSimpArgs false

/-- the i-th field's text -/
def unI (fs : List (List Nat)) (i : Nat) : List Nat := match fs[i]? with
  | some l => unT l
  | none => []
/-- the digits of a text, added up, round the end where it must -/
def stW (v b : Nat) : Nat := (v * 10 + b + 18446744073709551568) % 18446744073709551616
def sumW (v : Nat) (l : List Nat) : Nat := l.foldl stW v
def numW (fs : List (List Nat)) : Int := match fs[3]? with
  | some l => let v := sumW 0 l; if v < 9223372036854775808 then (v : Int) else (v : Int) - 18446744073709551616
  | none => 0
/-- the operation that fields would be -/
def guessO (fs : List (List Nat)) : Og :=
  let h := hdF fs
  if h = nBegin then ⟨1, (fs[1]? = some nAt) || (fs[1]? = some nRo), fs[1]? = some nAt, false, unI fs 2, [], [], [], 0⟩
  else if h = nGet then ⟨2, false, false, false, [], unI fs 1, [], [], 0⟩
  else if h = nDel then ⟨5, false, false, false, [], unI fs 1, [], [], 0⟩
  else if h = nPut then ⟨4, false, false, false, [], unI fs 1, [], unI fs 2, 0⟩
  else if h = nScan then ⟨3, false, false, false, [], unI fs 1, unI fs 2, [], numW fs⟩
  else if h = nRscan then ⟨3, false, false, true, [], unI fs 1, unI fs 2, [], numW fs⟩
  else if h = nCommit then ⟨6, false, false, false, [], [], [], [], 0⟩
  else if h = nAbort then ⟨7, false, false, false, [], [], [], [], 0⟩
  else Og.zero
theorem sumW_app (v : Nat) (a : List Nat) (b : Nat) : sumW v (a ++ [b]) = stW (sumW v a) b := by
  unfold sumW
  rw [List.foldl_append, List.foldl_cons, List.foldl_nil]
theorem stW_dig {v d : Nat} (hd : d < 10) (hv : v * 10 + d < 18446744073709551616) : stW v (48 + d) = v * 10 + d := by
  unfold stW
  have e : v * 10 + (48 + d) + 18446744073709551568 = (v * 10 + d) + 18446744073709551616 := by omega
  rw [e, Nat.add_mod_right, Nat.mod_eq_of_lt hv]
theorem sumW_one (b : Nat) : sumW 0 [b] = stW 0 b := by
  unfold sumW
  rw [List.foldl_cons, List.foldl_nil]
theorem sumW_dec : ∀ (m n : Nat), n ≤ m → n < 18446744073709551616 → sumW 0 (decN n) = n
  | m, n, hm, hn => by
    rw [decN_eq]
    by_cases h : n < 10
    · rw [if_pos h, sumW_one, stW_dig h (by omega)]
      omega
    · have hlt : n / 10 < n := by omega
      rw [if_neg h, sumW_app, sumW_dec (m - 1) (n / 10) (by omega) (by omega), stW_dig (by omega) (by omega)]
      omega
  termination_by m n => n
theorem num_dec {l : List Nat} {z : Nat} (h : undec l = some z) : (if sumW 0 l < 9223372036854775808 then ((sumW 0 l : Nat) : Int) else ((sumW 0 l : Nat) : Int) - 18446744073709551616) = (z : Int) := by
  obtain ⟨h1, h2⟩ := dec_undec h
  rw [← h1, sumW_dec z z (Nat.le_refl _) (by omega), if_pos (by omega)]
/-- where fields are an operation's, it is the one that is guessed -/
theorem guess_par {fs : List (List Nat)} {o : Og} (h : parF fs = some o) : guessO fs = o := by
  rcases fs with _ | ⟨a, _ | ⟨b, _ | ⟨c, _ | ⟨d, _ | ⟨e, r⟩⟩⟩⟩⟩
  · cases h
  · replace h : par1 a = some o := h
    unfold par1 at h
    split at h
    · rename_i hc; injection h with h; subst h hc; rfl
    · split at h
      · rename_i hc; injection h with h; subst h hc; rfl
      · cases h
  · replace h : par2 a b = some o := h
    unfold par2 at h
    cases hu : unword b with
    | none => rw [hu] at h; cases h
    | some x =>
      rw [hu] at h
      simp only [Option.bind_some] at h
      have u := (unT_some hu).1
      split at h
      · rename_i hc; injection h with h; subst h hc; simp [guessO, hdF_cons, unI, u]
      · split at h
        · rename_i hc; injection h with h; subst h hc; simp [guessO, hdF_cons, unI, u]
        · cases h
  · replace h : par3 a b c = some o := h
    unfold par3 at h
    cases hu : unword c with
    | none => rw [hu] at h; cases h
    | some x =>
      rw [hu] at h
      simp only [Option.bind_some] at h
      have u := (unT_some hu).1
      split at h
      · rename_i hb; subst hb
        split at h
        · rename_i hc; injection h with h; subst h hc; simp [guessO, hdF_cons, unI, u]
        · split at h
          · rename_i hc; injection h with h; subst h hc; simp [guessO, hdF_cons, unI, u]
          · split at h
            · rename_i hc; injection h with h; subst h hc; simp [guessO, hdF_cons, unI, u]
            · cases h
      · split at h
        · rename_i hb; subst hb
          cases hv : unword b with
          | none => rw [hv] at h; cases h
          | some y =>
            rw [hv] at h
            have v := (unT_some hv).1
            simp only [Option.bind_some] at h
            injection h with h; subst h
            simp [guessO, hdF_cons, unI, u, v]
        · cases h
  · replace h : par4 a b c d = some o := h
    unfold par4 at h
    cases hu : unword b with
    | none => rw [hu] at h; cases h
    | some x =>
      cases hv : unword c with
      | none => rw [hu, hv] at h; cases h
      | some y =>
        cases hn : undec d with
        | none => rw [hu, hv, hn] at h; cases h
        | some z =>
          rw [hu, hv, hn] at h
          have u := (unT_some hu).1
          have v := (unT_some hv).1
          have n := num_dec hn
          simp only [Option.bind_some] at h
          split at h
          · rename_i hc; injection h with h; subst h hc
            simp only [guessO, hdF_cons, unI, numW]
            simp [u, v, n]
          · split at h
            · rename_i hc; injection h with h; subst h hc
              simp only [guessO, hdF_cons, unI, numW]
              simp [u, v, n]
            · cases h
  · cases h
/-- what the document's Parse comes to -/
theorem dpar_is {s : List Nat} (h8 : B8 s) (hl : s.length ≤ 400) (hb1 : B8 (guessO (fld s)).tok) (hb2 : B8 (guessO (fld s)).key) (hb3 : B8 (guessO (fld s)).hi) (hb4 : B8 (guessO (fld s)).val) :
    (lineOf 400 (guessO (fld s)) = some s → opOf 400 s = some (guessO (fld s))) ∧ (lineOf 400 (guessO (fld s)) ≠ some s → opOf 400 s = none) := by
  refine ⟨fun h => op_line h hb1 hb2 hb3 hb4, fun h => ?_⟩
  cases ho : opOf 400 s with
  | none => rfl
  | some o =>
    have hg : guessO (fld s) = o := by
      unfold opOf at ho
      rw [if_pos hl] at ho
      exact guess_par ho
    rw [hg] at h
    exact absurd (line_op h8 ho).1 h
end Go.Proofs.YtggmhodogfngdaaDoor.Gt
