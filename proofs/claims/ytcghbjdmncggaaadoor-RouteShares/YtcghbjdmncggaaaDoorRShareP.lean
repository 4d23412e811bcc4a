import Derived.Test.YtcghbjdmncggaaaDoorRCutP
/- The participants of a transaction, plain. -/
namespace Go.Proofs.YtcghbjdmncggaaaDoor.Rt
set_option linter.unusedVariables false

/-- the reads of shard i -/
def readsL (ss : List ByteArray) (rs : List T2) (i : Nat) : List T2 := rs.filterMap fun r => comm (reachN ss i) r
/-- the writes of shard i -/
def writesL (ss : List ByteArray) (ws : List Wr) (i : Nat) : List Wr := ws.filter fun x => decide (ownN ss x.key = i)
/-- a share: a shard, its reads, its writes -/
abbrev Sh := Nat × List T2 × List Wr
def shareN (ss : List ByteArray) (rs : List T2) (ws : List Wr) : Nat → List Sh
  | 0 => []
  | n + 1 => shareN ss rs ws n ++ if (readsL ss rs n).length + (writesL ss ws n).length = 0 then [] else [(n, readsL ss rs n, writesL ss ws n)]
def shareL (ss : List ByteArray) (rs : List T2) (ws : List Wr) : List Sh := shareN ss rs ws (ss.length + 1)
theorem share_mem {ss : List ByteArray} {rs : List T2} {ws : List Wr} {p : Sh} : ∀ {n : Nat}, p ∈ shareN ss rs ws n → p.1 < n ∧ p.2.1 = readsL ss rs p.1 ∧ p.2.2 = writesL ss ws p.1 ∧ p.2.1.length + p.2.2.length ≠ 0
  | 0, h => by simp [shareN] at h
  | n + 1, h => by
    rw [shareN, List.mem_append] at h
    rcases h with h | h
    · have := share_mem h; exact ⟨by omega, this.2⟩
    · split at h
      · simp at h
      · rename_i hne
        simp at h; subst h; exact ⟨by simp, rfl, rfl, hne⟩
theorem share_rise (ss : List ByteArray) (rs : List T2) (ws : List Wr) : ∀ n, (shareN ss rs ws n).Pairwise fun a b => a.1 < b.1
  | 0 => by simp [shareN]
  | n + 1 => by
    rw [shareN, List.pairwise_append]
    refine ⟨share_rise ss rs ws n, ?_, fun a ha b hb => ?_⟩
    · split <;> simp
    · have := (share_mem ha).1
      split at hb
      · simp at hb
      · simp at hb; subst hb; exact this
theorem share_len (ss : List ByteArray) (rs : List T2) (ws : List Wr) : ∀ n, (shareN ss rs ws n).length ≤ n
  | 0 => by simp [shareN]
  | n + 1 => by
    have := share_len ss rs ws n
    rw [shareN, List.length_append]
    split <;> simp <;> omega

/-- how many writes the first n shards have -/
def sumW (l : List Sh) : Nat := (l.map fun p => p.2.2.length).sum
theorem sumW_snoc (l : List Sh) (p : Sh) : sumW (l ++ [p]) = sumW l + p.2.2.length := by simp [sumW]
theorem below_split (ss : List ByteArray) (ws : List Wr) (n : Nat) : (ws.filter fun x => decide (ownN ss x.key < n + 1)).length = (ws.filter fun x => decide (ownN ss x.key < n)).length + (writesL ss ws n).length := by
  induction ws with
  | nil => rfl
  | cons x ws ih =>
    simp only [writesL] at ih ⊢
    simp only [List.filter_cons]
    rcases Nat.lt_trichotomy (ownN ss x.key) n with h | h | h
    · have h1 : decide (ownN ss x.key < n + 1) = true := decide_eq_true (by omega)
      have h2 : decide (ownN ss x.key < n) = true := decide_eq_true h
      have h3 : decide (ownN ss x.key = n) = false := decide_eq_false (by omega)
      rw [h1, h2, h3]; simp [ih]; omega
    · have h1 : decide (ownN ss x.key < n + 1) = true := decide_eq_true (by omega)
      have h2 : decide (ownN ss x.key < n) = false := decide_eq_false (by omega)
      have h3 : decide (ownN ss x.key = n) = true := decide_eq_true h
      rw [h1, h2, h3]; simp [ih]; omega
    · have h1 : decide (ownN ss x.key < n + 1) = false := decide_eq_false (by omega)
      have h2 : decide (ownN ss x.key < n) = false := decide_eq_false (by omega)
      have h3 : decide (ownN ss x.key = n) = false := decide_eq_false (by omega)
      rw [h1, h2, h3]; simp [ih]
theorem sum_shares (ss : List ByteArray) (rs : List T2) (ws : List Wr) : ∀ n, sumW (shareN ss rs ws n) = (ws.filter fun x => decide (ownN ss x.key < n)).length
  | 0 => by
    have h0 : (ws.filter fun x => decide (ownN ss x.key < 0)) = [] := List.filter_eq_nil_iff.2 (by simp)
    rw [h0]; rfl
  | n + 1 => by
    have ih := sum_shares ss rs ws n
    rw [shareN, below_split]
    split
    · rename_i h
      rw [List.append_nil, ih]; omega
    · rw [sumW_snoc, ih]
theorem sum_all (ss : List ByteArray) (rs : List T2) (ws : List Wr) : sumW (shareL ss rs ws) = ws.length := by
  rw [shareL, sum_shares, List.filter_eq_self.2]
  intro x _
  have := own_le ss x.key
  exact decide_eq_true (by omega)

/-- the least shard of the writes -/
def homeN (ss : List ByteArray) : List Wr → Nat
  | [] => 0
  | [x] => ownN ss x.key
  | x :: ws => min (ownN ss x.key) (homeN ss ws)
/-- the same, from the front -/
def homeK (ss : List ByteArray) (ws : List Wr) : Nat → Nat
  | 0 => ownN ss (nthW ws 0).key
  | k + 1 => min (homeK ss ws k) (ownN ss (nthW ws (k + 1)).key)
theorem homeK_le (ss : List ByteArray) (ws : List Wr) : ∀ k i, i ≤ k → homeK ss ws k ≤ ownN ss (nthW ws i).key
  | 0, i, h => by
    obtain rfl : i = 0 := (by omega)
    exact Nat.le_refl _
  | k + 1, i, h => by
    rw [homeK]
    by_cases e : i = k + 1
    · subst e; exact Nat.min_le_right _ _
    · exact Nat.le_trans (Nat.min_le_left _ _) (homeK_le ss ws k i (by omega))
theorem homeK_is (ss : List ByteArray) (ws : List Wr) : ∀ k, ∃ i, i ≤ k ∧ homeK ss ws k = ownN ss (nthW ws i).key
  | 0 => ⟨0, Nat.le_refl _, rfl⟩
  | k + 1 => by
    rw [homeK]
    obtain ⟨i, hi, e⟩ := homeK_is ss ws k
    rcases Nat.le_total (homeK ss ws k) (ownN ss (nthW ws (k + 1)).key) with h | h
    · exact ⟨i, by omega, by rw [Nat.min_eq_left h, e]⟩
    · exact ⟨k + 1, Nat.le_refl _, Nat.min_eq_right h⟩
/-- the home is the first shard that has writes -/
theorem home_first {ss : List ByteArray} {ws : List Wr} (h0 : 0 < ws.length) : (∀ i, i < homeK ss ws (ws.length - 1) → writesL ss ws i = []) ∧ writesL ss ws (homeK ss ws (ws.length - 1)) ≠ [] := by
  constructor
  · intro i hi
    rw [writesL, List.filter_eq_nil_iff]
    intro x hx
    obtain ⟨j, hj, rfl⟩ := List.mem_iff_getElem.1 hx
    have := homeK_le ss ws (ws.length - 1) j (by omega)
    simp only [nthW, List.getElem?_eq_getElem hj, Option.getD_some] at this
    simp; omega
  · obtain ⟨i, hi, e⟩ := homeK_is ss ws (ws.length - 1)
    rw [e]
    intro h
    have hm : nthW ws i ∈ writesL ss ws (ownN ss (nthW ws i).key) := by
      rw [writesL, List.mem_filter]
      refine ⟨?_, by simp⟩
      simp [nthW, show i < ws.length by omega]
    rw [h] at hm
    simp at hm

/-- how many of the spans have the key -/
def cnt2 (k : ByteArray) (l : List T2) : Nat := (l.filter fun s => insB k s).length
theorem cnt2_snoc (k : ByteArray) (l : List T2) (s : T2) : cnt2 k (l ++ [s]) = cnt2 k l + if insB k s then 1 else 0 := by
  simp only [cnt2, List.filter_append, List.length_append]
  cases h : insB k s <;> simp [List.filter, h]
theorem reads_in {ss : List ByteArray} (h : risB ss = true) {rs : List T2} {i : Nat} (hi : i ≤ ss.length) (k : ByteArray) {s : T2} (hs : s ∈ readsL ss rs i) (hk : insB k s = true) : ownN ss k = i := by
  obtain ⟨r, _, hr⟩ := List.mem_filterMap.1 hs
  rw [comm_some hr, ins_reach h k hi] at hk
  simp at hk
  exact hk.1
theorem cnt_reads {ss : List ByteArray} (h : risB ss = true) (rs : List T2) {i : Nat} (hi : i ≤ ss.length) (k : ByteArray) : cnt2 k (readsL ss rs i) = if ownN ss k = i then cnt2 k rs else 0 := by
  induction rs with
  | nil => simp [readsL, cnt2]
  | cons r rs ih =>
    simp only [readsL, cnt2] at ih ⊢
    simp only [List.filterMap_cons, List.filter_cons]
    cases hc : comm (reachN ss i) r with
    | none =>
      simp only
      rw [ih]
      have hn := comm_none hc k
      rw [ins_reach h k hi] at hn
      by_cases ho : ownN ss k = i
      · simp [ho] at hn; simp [ho, hn]
      · simp [ho]
    | some t =>
      simp only [List.filter_cons]
      have ht := comm_some hc k
      rw [ins_reach h k hi] at ht
      by_cases ho : ownN ss k = i
      · simp only [ho, decide_true, Bool.true_and] at ht
        simp only [ho, if_true] at ih ⊢
        rw [ht]
        cases insB k r <;> simp [ih]
      · simp only [ho, decide_false, Bool.false_and] at ht
        simp only [ho, if_false] at ih ⊢
        rw [ht]
        simpa using ih
/-- how many of the shares' reads have the key -/
def got (k : ByteArray) (l : List Sh) : Nat := (l.map fun p => cnt2 k p.2.1).sum
theorem got_snoc (k : ByteArray) (l : List Sh) (p : Sh) : got k (l ++ [p]) = got k l + cnt2 k p.2.1 := by simp [got]
theorem got_shares {ss : List ByteArray} (h : risB ss = true) (rs : List T2) (ws : List Wr) (k : ByteArray) : ∀ n, n ≤ ss.length + 1 → got k (shareN ss rs ws n) = if ownN ss k < n then cnt2 k rs else 0
  | 0, _ => by simp [shareN, got]
  | n + 1, hn => by
    have ih := got_shares h rs ws k n (by omega)
    have hc := cnt_reads h rs (show n ≤ ss.length by omega) k
    have key : got k (shareN ss rs ws n ++ if (readsL ss rs n).length + (writesL ss ws n).length = 0 then [] else [(n, readsL ss rs n, writesL ss ws n)]) = got k (shareN ss rs ws n) + cnt2 k (readsL ss rs n) := by
      split
      · rename_i h0
        have : readsL ss rs n = [] := List.eq_nil_of_length_eq_zero (by omega)
        rw [this, List.append_nil]; simp [cnt2]
      · rw [got_snoc]
    rw [shareN, key, ih, hc]
    by_cases h1 : ownN ss k < n
    · rw [if_pos h1, if_neg (by omega), if_pos (by omega)]; rfl
    · by_cases h2 : ownN ss k = n
      · rw [if_neg h1, if_pos h2, if_pos (by omega)]; omega
      · rw [if_neg h1, if_neg h2, if_neg (by omega)]
theorem got_all {ss : List ByteArray} (h : risB ss = true) (rs : List T2) (ws : List Wr) (k : ByteArray) : got k (shareL ss rs ws) = cnt2 k rs := by
  have := own_le ss k
  rw [shareL, got_shares h rs ws k _ (Nat.le_refl _), if_pos (by omega)]

end Go.Proofs.YtcghbjdmncggaaaDoor.Rt
