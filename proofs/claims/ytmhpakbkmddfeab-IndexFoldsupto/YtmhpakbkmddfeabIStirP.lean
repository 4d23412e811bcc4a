import Derived.Test.YtmhpakbkmddfeabIStir
namespace Go.Proofs.Ytmhpakbkmddfeab
set_option linter.unusedVariables false

/-- a key is there -/
def HasK (l : List En) (k : ByteArray) : Prop := ∃ v, (k, v) ∈ l
theorem delX_less {l : List En} {k : ByteArray} (h : HasK l k) : (delX l k).length + 1 ≤ l.length := by
  obtain ⟨v, h⟩ := h
  have : (l.filter fun e => !decide (e.1 = k)).length < l.length := List.length_filter_lt_length_iff_exists.2 ⟨_, h, by simp⟩
  exact this
theorem setX_same {l : List En} (hr : Rising l) {k : ByteArray} (h : HasK l k) (u : Int) : (setX l k u).length = l.length := by
  obtain ⟨v, h⟩ := h
  obtain ⟨A, B, rfl, h1, h2⟩ := parted hr h
  rw [setX_mid h1]; simp
theorem setX_has {l : List En} (hr : Rising l) {k k' : ByteArray} (u : Int) (h : HasK l k) : HasK (setX l k' u) k := by
  obtain ⟨v, h⟩ := h
  by_cases e : k = k'
  · exact ⟨u, (setX_mem hr k' u _).2 (.inl (by rw [e]))⟩
  · exact ⟨v, (setX_mem hr k' u _).2 (.inr ⟨h, e⟩)⟩
theorem delX_has {l : List En} {k k' : ByteArray} (hne : k ≠ k') (h : HasK l k) : HasK (delX l k') k := by
  obtain ⟨v, h⟩ := h
  exact ⟨v, (delX_mem l k' _).2 ⟨h, hne⟩⟩
theorem topX_mem {a : List En} {y : En} (h : topX a = some y) : y ∈ a := by
  have h1 : y ∈ (rangeX a ⟨#[]⟩ (zb hiT)).reverse := List.mem_of_head? h
  exact (List.mem_filter.1 (List.mem_reverse.1 h1)).1
theorem stirA_rising {l : List En} (hr : Rising l) (e : En) : Rising (stirA l e) := setX_rising (delX_rising hr _) _ _
theorem stirX_rising {l : List En} (hr : Rising l) (e : En) : Rising (stirX l e) := by
  unfold stirX
  cases topX (stirA l e) with
  | none => exact stirA_rising hr e
  | some y => exact setX_rising (stirA_rising hr e) _ _
theorem stirA_len {l : List En} (hr : Rising l) {e : En} (h : HasK l e.1) : (stirA l e).length ≤ l.length := by
  have h1 := delX_less h
  have h2 := setX_len (delX l e.1) (zb e.1) e.2
  unfold stirA; omega
theorem stirX_len {l : List En} (hr : Rising l) {e : En} (h : HasK l e.1) : (stirX l e).length ≤ l.length := by
  have h1 := stirA_len hr h
  unfold stirX
  cases ht : topX (stirA l e) with
  | none => exact h1
  | some y => exact Nat.le_trans (Nat.le_of_eq (setX_same (stirA_rising hr e) ⟨y.2, topX_mem ht⟩ _)) h1
theorem stirX_has {l : List En} (hr : Rising l) {e : En} {k : ByteArray} (hne : k ≠ e.1) (h : HasK l k) : HasK (stirX l e) k := by
  have h1 : HasK (stirA l e) k := setX_has (delX_rising hr _) _ (delX_has hne h)
  unfold stirX
  cases ht : topX (stirA l e) with
  | none => exact h1
  | some y => exact setX_has (stirA_rising hr e) _ h1
theorem stir_all : ∀ {E l : List En}, Rising E → Rising l → (∀ e ∈ E, HasK l e.1) → (E.foldl stirX l).length ≤ l.length ∧ Rising (E.foldl stirX l)
  | [], l, _, hl, _ => ⟨Nat.le_refl _, hl⟩
  | e :: E, l, hE, hl, h => by
    have hp := List.pairwise_cons.1 hE
    have := stir_all (E := E) (l := stirX l e) hp.2 (stirX_rising hl e) (fun x hx => stirX_has hl (fun he => by have := hp.1 x hx; rw [he, lt_irrefl] at this; cases this) (h x (by simp [hx])))
    exact ⟨Nat.le_trans this.1 (stirX_len hl (h e (by simp))), this.2⟩
/-- any part of the span, and it has not grown -/
theorem stir_part {E l pre : List En} (hE : Rising E) (hl : Rising l) (h : ∀ e ∈ E, HasK l e.1) (hp : pre <+: E) : (pre.foldl stirX l).length ≤ l.length :=
  (stir_all (List.Pairwise.sublist hp.sublist hE) hl (fun e he => h e (hp.subset he))).1
theorem range_has {l : List En} (lo hi : ByteArray) : ∀ e ∈ rangeX l lo hi, HasK l e.1 := fun e he => ⟨e.2, (List.mem_filter.1 he).1⟩

/-- the same on the document's log -/
def stirC (log : List Ch) (e : En) : List Ch := (topX (ixL (log ++ [⟨e.1, 0, true⟩] ++ [⟨zb e.1, e.2, false⟩]))).elim (log ++ [⟨e.1, 0, true⟩] ++ [⟨zb e.1, e.2, false⟩]) (fun y => log ++ [⟨e.1, 0, true⟩] ++ [⟨zb e.1, e.2, false⟩] ++ [⟨y.1, -1, false⟩])
theorem stirC_two (log : List Ch) (e : En) : ixL (log ++ [⟨e.1, 0, true⟩] ++ [⟨zb e.1, e.2, false⟩]) = stirA (ixL log) e := by
  rw [ixL_one, ixL_gone]; rfl
theorem stirC_ix (log : List Ch) (e : En) : ixL (stirC log e) = stirX (ixL log) e := by
  unfold stirC stirX
  rw [stirC_two]
  cases topX (stirA (ixL log) e) with
  | none => exact stirC_two log e
  | some y => show ixL (_ ++ [⟨y.1, -1, false⟩]) = _; rw [ixL_one, stirC_two]; rfl
theorem stirC_len (log : List Ch) (e : En) : (stirC log e).length ≤ log.length + 3 := by
  unfold stirC
  cases topX (ixL (log ++ [⟨e.1, 0, true⟩] ++ [⟨zb e.1, e.2, false⟩])) <;> simp
theorem stirC_ix_all (E : List En) (log : List Ch) : ixL (E.foldl stirC log) = E.foldl stirX (ixL log) := by
  induction E generalizing log with
  | nil => rfl
  | cons e E ih => show ixL (E.foldl stirC (stirC log e)) = _; rw [ih, stirC_ix]; rfl
theorem stirC_len_all (E : List En) (log : List Ch) : (E.foldl stirC log).length ≤ log.length + 3 * E.length := by
  induction E generalizing log with
  | nil => exact Nat.le_refl _
  | cons e E ih => have := ih (stirC log e); have := stirC_len log e; show (E.foldl stirC (stirC log e)).length ≤ _; rw [List.length_cons]; omega

/-- what k steps leave of a log -/
structure GoodK (k : Nat) (l : List Ch) : Prop where
  ix : (ixL l).length ≤ k
  len : l.length ≤ k + 3 * k * k
  key : ∀ c ∈ l, c.key.size ≤ 1048576 + k
theorem zb_size (k : ByteArray) : (zb k).size = k.size + 1 := by
  unfold zb; exact ByteArray.size_append
theorem ix_key {l : List Ch} {e : En} (h : e ∈ ixL l) : ∃ c ∈ l, c.key = e.1 := getL_key ((ixL_mem l e.1 e.2).1 h)
theorem stirC_key {S : Nat} {log : List Ch} {e : En} (h : ∀ c ∈ log, c.key.size ≤ S + 1) (he : e.1.size ≤ S) : ∀ c ∈ stirC log e, c.key.size ≤ S + 1 := by
  have h2 : ∀ c ∈ log ++ [(⟨e.1, 0, true⟩ : Ch)] ++ [⟨zb e.1, e.2, false⟩], c.key.size ≤ S + 1 := by
    intro c hc
    simp only [List.mem_append, List.mem_singleton] at hc
    rcases hc with (hc | rfl) | rfl
    · exact h c hc
    · show e.1.size ≤ _; omega
    · show (zb e.1).size ≤ _; rw [zb_size]; omega
  unfold stirC
  cases ht : topX (ixL (log ++ [⟨e.1, 0, true⟩] ++ [⟨zb e.1, e.2, false⟩])) with
  | none => exact h2
  | some y =>
    intro c hc
    rcases List.mem_append.1 hc with hc | hc
    · exact h2 c hc
    · obtain rfl := List.mem_singleton.1 hc
      obtain ⟨c', hc', e'⟩ := ix_key (topX_mem ht)
      show y.1.size ≤ _
      rw [← e']; exact h2 c' hc'
theorem stirC_key_all {S : Nat} : ∀ {E : List En} {log : List Ch}, (∀ c ∈ log, c.key.size ≤ S + 1) → (∀ e ∈ E, e.1.size ≤ S) → ∀ c ∈ E.foldl stirC log, c.key.size ≤ S + 1
  | [], log, h, _ => h
  | e :: E, log, h, hE => stirC_key_all (E := E) (log := stirC log e) (stirC_key h (hE e (by simp))) (fun x hx => hE x (by simp [hx]))
theorem GoodK.nil (k : Nat) : GoodK k [] := ⟨by simp [ixL], by simp, by simp⟩
theorem GoodK.up {k : Nat} {l : List Ch} (h : GoodK k l) : GoodK (k + 1) l := by
  refine ⟨Nat.le_succ_of_le h.ix, Nat.le_trans h.len ?_, fun c hc => Nat.le_trans (h.key c hc) (by omega)⟩
  have : 3 * k * k ≤ 3 * (k + 1) * (k + 1) := Nat.mul_le_mul (by omega) (by omega)
  omega
theorem GoodK.entry {k : Nat} {l : List Ch} (h : GoodK k l) {lo hi : ByteArray} {e : En} (he : e ∈ rangeX (ixL l) lo hi) : e.1.size ≤ 1048576 + k := by
  obtain ⟨c, hc, e'⟩ := ix_key (List.mem_filter.1 he).1
  rw [← e']; exact h.key c hc
theorem GoodK.fold {k : Nat} {l : List Ch} (h : GoodK k l) (lo hi : ByteArray) : GoodK (k + 1) ((rangeX (ixL l) lo hi).foldl stirC l) := by
  have hl : (rangeX (ixL l) lo hi).length ≤ (ixL l).length := List.length_filter_le _ _
  have h1 := stirC_len_all (rangeX (ixL l) lo hi) l
  refine ⟨?_, ?_, ?_⟩
  · rw [stirC_ix_all]
    exact Nat.le_trans (stir_all (rangeX_rising (ixL_rising l) lo hi) (ixL_rising l) (range_has lo hi)).1 (Nat.le_succ_of_le h.ix)
  · have h2 := h.len
    have h3 := h.ix
    have h4 : 3 * (k + 1) * (k + 1) = 3 * k * k + 6 * k + 3 := by rw [Nat.mul_add, Nat.mul_add, Nat.add_mul, Nat.add_mul]; omega
    rw [h4]; omega
  · exact stirC_key_all (S := 1048576 + k) (fun c hc => Nat.le_succ_of_le (h.key c hc)) (fun e he => h.entry he)
theorem GoodK.chg {k : Nat} {l : List Ch} (h : GoodK k l) (o : Ao) (ho : o.key.size ≤ 1048576) : GoodK (k + 1) (chgO o l) := by
  have hl := chgO_len o l
  have h2 := h.len
  have h5 : 3 * k * k ≤ 3 * (k + 1) * (k + 1) := Nat.mul_le_mul (by omega) (by omega)
  refine ⟨?_, by omega, ?_⟩
  · have h3 := h.ix
    unfold chgO
    split
    · simp [ixL]
    · split
      · rw [ixL_one]; have := setX_len (ixL l) o.key o.v; omega
      · split
        · rw [ixL_gone]; have := delX_len (ixL l) o.key; omega
        · omega
  · intro c hc
    unfold chgO at hc
    split at hc
    · cases hc
    · split at hc
      · rcases List.mem_append.1 hc with hc | hc
        · exact Nat.le_trans (h.key c hc) (by omega)
        · obtain rfl := List.mem_singleton.1 hc; show o.key.size ≤ _; omega
      · split at hc
        · rcases List.mem_append.1 hc with hc | hc
          · exact Nat.le_trans (h.key c hc) (by omega)
          · obtain rfl := List.mem_singleton.1 hc; show o.key.size ≤ _; omega
        · exact Nat.le_trans (h.key c hc) (by omega)
theorem GoodK.room {k : Nat} {l : List Ch} (h : GoodK k l) (hk : k ≤ 300000) : (l.length + 900002) * 64 ≤ 140737488355328 := by
  have h2 := h.len
  have h5 : 3 * k * k ≤ 3 * 300000 * 300000 := Nat.mul_le_mul (by omega) hk
  omega

end Go.Proofs.Ytmhpakbkmddfeab
