import Derived.Test.YtfkiccdjffhhhaaGreatDoorGRows
import Derived.Test.YtfkiccdjffhhhaaGreatDoorIPlain
/- Shards and spans, plain. -/
namespace Go.Proofs.YtfkiccdjffhhhaaGreatDoor.Rt
set_option linter.unusedVariables false

abbrev mt : ByteArray := ⟨#[]⟩
theorem ltS_lt (a b : ByteArray) : ltS a b = lt a b := rfl
theorem lt_nil (k : ByteArray) : ltS k mt = false := by rw [ltS, toList_empty]; cases k.toList <;> rfl
theorem em_nil : emS mt = true := by rw [emS, toList_empty]; rfl
theorem em_iff (a : ByteArray) : emS a = true ↔ a = mt := by
  constructor
  · intro h
    rcases lt_tri a mt with e | e | e
    · exact e
    · rw [← ltS_lt, lt_nil] at e; cases e
    · rw [← ltS_lt, lt_empty, h] at e; cases e
  · rintro rfl; exact em_nil
theorem ltS_trans {a b c : ByteArray} (h1 : ltS a b = true) (h2 : ltS b c = true) : ltS a c = true := lt_trans h1 h2
theorem ltS_irrefl (a : ByteArray) : ltS a a = false := lt_irrefl a
theorem ltS_asymm {a b : ByteArray} (h : ltS a b = true) : ltS b a = false := lt_asymm h
theorem ltS_of_le_lt {a b c : ByteArray} (h1 : ltS b a = false) (h2 : ltS b c = true) : ltS a c = true := by
  rcases lt_tri a b with rfl | h | h
  · exact h2
  · exact lt_trans h h2
  · rw [ltS_lt] at h1; rw [h1] at h; cases h
theorem ltS_of_lt_le {a b c : ByteArray} (h1 : ltS a b = true) (h2 : ltS c b = false) : ltS a c = true := by
  rcases lt_tri b c with rfl | h | h
  · exact h1
  · exact lt_trans h1 h
  · rw [ltS_lt] at h2; rw [h2] at h; cases h
theorem le_trans {a b c : ByteArray} (h1 : ltS b a = false) (h2 : ltS c b = false) : ltS c a = false := by
  cases h : ltS c a with
  | false => rfl
  | true => rw [ltS_of_lt_le h h1] at h2; cases h2

def nthS (ss : List ByteArray) (i : Nat) : ByteArray := ss[i]?.getD mt
def prevS (ss : List ByteArray) (i : Nat) : ByteArray := if i = 0 then mt else nthS ss (i - 1)
/-- keys that rise -/
def risB (ss : List ByteArray) : Bool := allB (fun i => keyOk (prevS ss i) (nthS ss i)) ss.length
theorem allB_all {p : Nat → Bool} : ∀ {n : Nat}, allB p n = true → ∀ i, i < n → p i = true
  | 0, _, i, hi => by omega
  | n + 1, h, i, hi => by
    simp only [allB, Bool.and_eq_true] at h
    by_cases e : i = n
    · subst e; exact h.2
    · exact allB_all h.1 i (by omega)
theorem ris_step {ss : List ByteArray} (h : risB ss = true) {i : Nat} (hi : i < ss.length) : ltS (prevS ss i) (nthS ss i) = true := by
  have := allB_all h i hi
  simp only [keyOk, Bool.and_eq_true] at this
  exact this.1
theorem ris_lt {ss : List ByteArray} (h : risB ss = true) : ∀ {j : Nat}, j < ss.length → ∀ i, i < j → ltS (nthS ss i) (nthS ss j) = true
  | 0, hj, i, hi => by omega
  | j + 1, hj, i, hi => by
    have h1 := ris_step h hj
    simp only [prevS, Nat.succ_ne_zero, if_false, Nat.add_sub_cancel] at h1
    by_cases e : i = j
    · subst e; exact h1
    · exact ltS_trans (ris_lt h (by omega) i (by omega)) h1
theorem ris_ne {ss : List ByteArray} (h : risB ss = true) {i : Nat} (hi : i < ss.length) : emS (nthS ss i) = false := by
  cases he : emS (nthS ss i) with
  | false => rfl
  | true =>
    have := ris_step h hi
    rw [(em_iff _).1 he, lt_nil] at this
    cases this

/-- how many of the first n split keys are at or below the key -/
def cntS (ss : List ByteArray) (k : ByteArray) : Nat → Nat
  | 0 => 0
  | n + 1 => cntS ss k n + if ltS k (nthS ss n) then 0 else 1
/-- the shard of a key -/
def ownN (ss : List ByteArray) (k : ByteArray) : Nat := cntS ss k ss.length
theorem cnt_le (ss : List ByteArray) (k : ByteArray) : ∀ n, cntS ss k n ≤ n
  | 0 => by simp [cntS]
  | n + 1 => by have := cnt_le ss k n; rw [cntS]; split <;> omega
theorem own_le (ss : List ByteArray) (k : ByteArray) : ownN ss k ≤ ss.length := cnt_le _ _ _
theorem cnt_is {ss : List ByteArray} (h : risB ss = true) (k : ByteArray) : ∀ n, n ≤ ss.length → ∀ i, i < n → (ltS k (nthS ss i) = false ↔ i < cntS ss k n)
  | 0, _, i, hi => by omega
  | n + 1, hn, i, hi => by
    have ih := cnt_is h k n (by omega)
    have hle := cnt_le ss k n
    rw [cntS]
    cases hk : ltS k (nthS ss n) with
    | true =>
      simp only [if_true, Nat.add_zero]
      by_cases e : i = n
      · subst e; rw [hk]; simp; omega
      · exact ih i (by omega)
    | false =>
      simp only [Bool.false_eq_true, if_false]
      have all : ∀ j, j < n → ltS k (nthS ss j) = false := fun j hj => le_trans (ltS_asymm (ris_lt h (by omega) j hj)) hk
      have hn' : cntS ss k n = n := by
        cases n with
        | zero => rfl
        | succ n => have := (ih n (by omega)).1 (all n (by omega)); omega
      rw [hn']
      constructor
      · intro _; omega
      · intro _
        by_cases e : i = n
        · subst e; exact hk
        · exact all i (by omega)
theorem own_is {ss : List ByteArray} (h : risB ss = true) (k : ByteArray) {i : Nat} (hi : i < ss.length) : ltS k (nthS ss i) = false ↔ i < ownN ss k := cnt_is h k _ (Nat.le_refl _) i hi
theorem own_nil {ss : List ByteArray} (h : risB ss = true) : ownN ss mt = 0 := by
  rcases Nat.eq_zero_or_pos (ownN ss mt) with e | e
  · exact e
  · have hl := own_le ss mt
    have := (own_is h mt (show 0 < ss.length by omega)).2 e
    rw [lt_empty, ris_ne h (by omega)] at this
    cases this
theorem own_split {ss : List ByteArray} (h : risB ss = true) {i : Nat} (hi : i < ss.length) : ownN ss (nthS ss i) = i + 1 := by
  have h1 := (own_is h (nthS ss i) hi).1 (ltS_irrefl _)
  have hl := own_le ss (nthS ss i)
  rcases Nat.lt_or_ge (i + 1) (ownN ss (nthS ss i)) with e | e
  · have := (own_is h (nthS ss i) (show i + 1 < ss.length by omega)).2 e
    rw [ris_lt h (by omega) i (by omega)] at this
    cases this
  · omega
theorem own_mono {ss : List ByteArray} (h : risB ss = true) {k k' : ByteArray} (hk : ltS k' k = false) : ownN ss k ≤ ownN ss k' := by
  rcases Nat.lt_or_ge (ownN ss k') (ownN ss k) with e | e
  · have hl := own_le ss k
    have h1 := (own_is h k (show ownN ss k' < ss.length by omega)).2 e
    have h2 := (own_is h k' (show ownN ss k' < ss.length by omega)).1 (le_trans h1 hk)
    omega
  · exact e

/-- is a text inside a span? -/
def insB (k : ByteArray) (s : T2) : Bool := !ltS k s.1 && (emS s.2 || ltS k s.2)
/-- a shard's range -/
def reachN (ss : List ByteArray) (i : Nat) : T2 := (prevS ss i, nthS ss i)
theorem reach_last (ss : List ByteArray) : nthS ss ss.length = mt := by simp [nthS]
theorem ins_reach {ss : List ByteArray} (h : risB ss = true) (k : ByteArray) {i : Nat} (hi : i ≤ ss.length) : insB k (reachN ss i) = decide (ownN ss k = i) := by
  have hl := own_le ss k
  have h1 : (!ltS k (prevS ss i)) = decide (i ≤ ownN ss k) := by
    unfold prevS
    split
    · rename_i e; subst e; rw [lt_nil]; simp
    · have := own_is h k (show i - 1 < ss.length by omega)
      rw [Bool.eq_iff_iff]; simp only [Bool.not_eq_true', decide_eq_true_eq]
      rw [this]; omega
  have h2 : (emS (nthS ss i) || ltS k (nthS ss i)) = decide (ownN ss k ≤ i) := by
    by_cases e : i = ss.length
    · subst e; rw [reach_last, em_nil, Bool.true_or]; simp [hl]
    · rw [ris_ne h (by omega), Bool.false_or]
      have := own_is h k (show i < ss.length by omega)
      cases hk : ltS k (nthS ss i) with
      | false => have := this.1 hk; symm; simp; omega
      | true =>
        have : ¬ i < ownN ss k := fun hh => by rw [this.2 hh] at hk; cases hk
        symm; simp; omega
  simp only [insB, reachN, h1, h2]
  rw [Bool.eq_iff_iff]; simp only [Bool.and_eq_true, decide_eq_true_eq]; omega

def maxT (a b : ByteArray) : ByteArray := if ltS a b then b else a
def lesH (a b : ByteArray) : ByteArray := if emS a || (!emS b && ltS b a) then b else a
def join (a b : T2) : T2 := (maxT a.1 b.1, lesH a.2 b.2)
def void (s : T2) : Bool := !emS s.2 && !ltS s.1 s.2
def comm (a b : T2) : Option T2 := if void (join a b) then none else some (join a b)
theorem ins_join (k : ByteArray) (a b : T2) : insB k (join a b) = (insB k a && insB k b) := by
  have h1 : (!ltS k (maxT a.1 b.1)) = (!ltS k a.1 && !ltS k b.1) := by
    unfold maxT
    cases h : ltS a.1 b.1 with
    | true =>
      simp only [if_true]
      cases hb : ltS k b.1 with
      | true => simp
      | false => simp [le_trans (ltS_asymm h) hb]
    | false =>
      simp only [Bool.false_eq_true, if_false]
      cases ha : ltS k a.1 with
      | true => simp
      | false => simp [le_trans h ha]
  have h2 : (emS (lesH a.2 b.2) || ltS k (lesH a.2 b.2)) = ((emS a.2 || ltS k a.2) && (emS b.2 || ltS k b.2)) := by
    unfold lesH
    cases ha : emS a.2 with
    | true => simp
    | false =>
      cases hb : emS b.2 with
      | true => simp [ha]
      | false =>
        simp only [Bool.false_or, Bool.not_false, Bool.true_and]
        cases h : ltS b.2 a.2 with
        | true =>
          simp only [if_true, hb, Bool.false_or]
          cases hk : ltS k b.2 with
          | false => simp
          | true => simp [ltS_trans hk h]
        | false =>
          simp only [Bool.false_eq_true, if_false, ha, Bool.false_or]
          cases hk : ltS k a.2 with
          | false => simp
          | true => simp [ltS_of_lt_le hk h]
  simp only [insB, join] at h1 h2 ⊢
  rw [h1, h2]
  cases ltS k a.1 <;> cases ltS k b.1 <;> simp
theorem ins_void {k : ByteArray} {s : T2} (h : void s = true) : insB k s = false := by
  simp only [void, Bool.and_eq_true, Bool.not_eq_true'] at h
  cases hi : insB k s with
  | false => rfl
  | true =>
    simp only [insB, h.1, Bool.false_or, Bool.and_eq_true, Bool.not_eq_true'] at hi
    rw [ltS_of_le_lt hi.1 hi.2] at h
    cases h.2
theorem comm_some {a b s : T2} (h : comm a b = some s) (k : ByteArray) : insB k s = (insB k a && insB k b) := by
  unfold comm at h
  split at h
  · cases h
  · injection h with h; rw [← h, ins_join]
theorem comm_none {a b : T2} (h : comm a b = none) (k : ByteArray) : (insB k a && insB k b) = false := by
  unfold comm at h
  split at h
  · rename_i hv; rw [← ins_join]; exact ins_void hv
  · cases h
theorem comm_void {a b s : T2} (h : comm a b = some s) : void s = false := by
  unfold comm at h
  split at h
  · cases h
  · rename_i hv; injection h with h; rw [← h]; simpa using hv
/-- a part: a shard and a span -/
abbrev Pt := Nat × T2
/-- the parts in the first n shards -/
def cutN (ss : List ByteArray) (s : T2) : Nat → List Pt
  | 0 => []
  | n + 1 => cutN ss s n ++ match comm (reachN ss n) s with
    | none => []
    | some t => [(n, t)]
def cutL (ss : List ByteArray) (s : T2) : List Pt := cutN ss s (ss.length + 1)
theorem cut_len (ss : List ByteArray) (s : T2) : ∀ n, (cutN ss s n).length ≤ n
  | 0 => by simp [cutN]
  | n + 1 => by
    have := cut_len ss s n
    rw [cutN, List.length_append]
    cases comm (reachN ss n) s <;> simp <;> omega
theorem cut_mem {ss : List ByteArray} {s : T2} {p : Pt} : ∀ {n : Nat}, p ∈ cutN ss s n → p.1 < n ∧ comm (reachN ss p.1) s = some p.2
  | 0, h => by simp [cutN] at h
  | n + 1, h => by
    rw [cutN, List.mem_append] at h
    rcases h with h | h
    · have := cut_mem h; exact ⟨by omega, this.2⟩
    · cases hc : comm (reachN ss n) s with
      | none => rw [hc] at h; simp at h
      | some t => rw [hc] at h; simp at h; subst h; exact ⟨by simp, hc⟩
theorem cut_rise (ss : List ByteArray) (s : T2) : ∀ n, (cutN ss s n).Pairwise fun a b => a.1 < b.1
  | 0 => by simp [cutN]
  | n + 1 => by
    rw [cutN, List.pairwise_append]
    refine ⟨cut_rise ss s n, ?_, fun a ha b hb => ?_⟩
    · cases comm (reachN ss n) s <;> simp
    · have := (cut_mem ha).1
      cases hc : comm (reachN ss n) s with
      | none => rw [hc] at hb; simp at hb
      | some t => rw [hc] at hb; simp at hb; subst hb; exact this
/-- how many of the parts have the key -/
def cntP (k : ByteArray) (l : List Pt) : Nat := (l.filter fun p => insB k p.2).length
theorem cntP_snoc (k : ByteArray) (l : List Pt) (p : Pt) : cntP k (l ++ [p]) = cntP k l + if insB k p.2 then 1 else 0 := by
  simp only [cntP, List.filter_append, List.length_append]
  cases h : insB k p.2 <;> simp [List.filter, h]
theorem part_in {ss : List ByteArray} (h : risB ss = true) {s : T2} {k : ByteArray} {p : Pt} (hp : p ∈ cutL ss s) : insB k p.2 = (decide (ownN ss k = p.1) && insB k s) := by
  obtain ⟨h1, h2⟩ := cut_mem hp
  rw [comm_some h2, ins_reach h k (by omega)]
theorem cut_cnt {ss : List ByteArray} (h : risB ss = true) (s : T2) (k : ByteArray) : ∀ n, n ≤ ss.length + 1 → cntP k (cutN ss s n) = if decide (ownN ss k < n) && insB k s then 1 else 0
  | 0, _ => by simp [cutN, cntP]
  | n + 1, hn => by
    have ih := cut_cnt h s k n (by omega)
    have hr := ins_reach h k (show n ≤ ss.length by omega)
    rw [cutN]
    cases hc : comm (reachN ss n) s with
    | none =>
      have := comm_none hc k
      rw [hr] at this
      rw [List.append_nil, ih]
      cases hs : insB k s with
      | false => simp
      | true =>
        rw [hs, Bool.and_true, decide_eq_false_iff_not] at this
        simp only [Bool.and_true, decide_eq_true_eq]
        by_cases hlt : ownN ss k < n
        · rw [if_pos hlt, if_pos (by omega)]
        · rw [if_neg hlt, if_neg (by omega)]
    | some t =>
      have := comm_some hc k
      rw [hr] at this
      rw [cntP_snoc, ih, this]
      cases hs : insB k s with
      | false => simp
      | true =>
        simp only [Bool.and_true, decide_eq_true_eq]
        by_cases hlt : ownN ss k < n
        · rw [if_pos hlt, if_neg (by omega), if_pos (by omega)]
        · by_cases he : ownN ss k = n
          · rw [if_neg hlt, if_pos he, if_pos (by omega)]
          · rw [if_neg hlt, if_neg he, if_neg (by omega)]
theorem cut_one {ss : List ByteArray} (h : risB ss = true) (s : T2) (k : ByteArray) : cntP k (cutL ss s) = if insB k s then 1 else 0 := by
  have hl := own_le ss k
  rw [cutL, cut_cnt h s k _ (Nat.le_refl _)]
  have : decide (ownN ss k < ss.length + 1) = true := by simp; omega
  rw [this, Bool.true_and]
theorem cut_all {ss : List ByteArray} (h : risB ss = true) : ∀ n, n ≤ ss.length + 1 → (cutN ss (mt, mt) n).length = n
  | 0, _ => rfl
  | n + 1, hn => by
    have e : join (reachN ss n) (mt, mt) = reachN ss n := by
      simp only [join, reachN, maxT, lesH, lt_nil, em_nil]
      cases he : emS (nthS ss n) with
      | true => simp [(em_iff _).1 he]
      | false => simp
    have hv : void (reachN ss n) = false := by
      simp only [void, reachN]
      by_cases hl : n = ss.length
      · subst hl; rw [reach_last, em_nil]; rfl
      · rw [ris_step h (by omega)]; simp
    have hc : comm (reachN ss n) (mt, mt) = some (reachN ss n) := by
      unfold comm; rw [e, hv]; rfl
    rw [cutN, hc]
    simp only [List.length_append, List.length_cons, List.length_nil]
    rw [cut_all h n (by omega)]

end Go.Proofs.YtfkiccdjffhhhaaGreatDoor.Rt
