import Derived.Test.YtchfoipkaookmaaWirePlain
/- Plain mathematics: a number's bytes, one by one. -/
namespace Go.Proofs.Ytchfoipkaookmaa

theorem vb_shape : ∀ v : Nat, ∃ n, (vb v).length = n + 1 ∧ (∀ i, i < n → (vb v).getD i 0 = v / 128 ^ i % 128 + 128) ∧ (vb v).getD n 0 = v / 128 ^ n ∧ v / 128 ^ n < 128 ∧ (n ≠ 0 → v / 128 ^ n ≠ 0) := by
  intro v
  induction v using Nat.strongRecOn with
  | ind v ih =>
    by_cases h : v < 128
    · refine ⟨0, by rw [vb_small h]; rfl, fun i hi => absurd hi (Nat.not_lt_zero _), ?_, ?_, fun h0 => absurd rfl h0⟩
      · rw [vb_small h]; simp
      · simpa using h
    · obtain ⟨n, h1, h2, h3, h4, h5⟩ := ih (v / 128) (by omega)
      have e : ∀ i, v / 128 / 128 ^ i = v / 128 ^ (i + 1) := fun i => by rw [Nat.div_div_eq_div_mul, Nat.pow_succ, Nat.mul_comm]
      refine ⟨n + 1, by rw [vb_great h]; simp [h1], fun i hi => ?_, ?_, ?_, fun _ => ?_⟩
      · rw [vb_great h]
        cases i with
        | zero => simp
        | succ i => rw [← e]; simpa using h2 i (by omega)
      · rw [vb_great h, ← e]; simpa using h3
      · rw [← e]; exact h4
      · rw [← e]
        by_cases hn : n = 0
        · subst hn; simp; omega
        · exact h5 hn

theorem vgo_cut : ∀ (v k : Nat), k ≤ 9 → v < lim k → vgo k ((vb v).take ((vb v).length - 1)) = .short := by
  intro v
  induction v using Nat.strongRecOn with
  | ind v ih =>
    intro k hk hv
    by_cases h : v < 128
    · rw [vb_small h]; simp [vgo]
    · have hk9 : k ≠ 9 := by
        intro e; subst e; have := lim_nine.1 hv; omega
      have hlen : (vb (v / 128)).length ≠ 0 := by
        obtain ⟨n, h1, _⟩ := vb_shape (v / 128); omega
      obtain ⟨m, hm⟩ : ∃ m, (vb (v / 128)).length = m + 1 := ⟨_, (Nat.succ_pred_eq_of_pos (by omega)).symm⟩
      have := ih (v / 128) (by omega) (k + 1) (by omega) (lim_next (by omega) hv)
      rw [vb_great h]
      simp only [List.length_cons, hm, Nat.add_sub_cancel, List.take_succ_cons] at this ⊢
      rw [vgo, if_neg hk9, if_neg (by omega), this]

theorem vgo_more_idle : ∀ (v k : Nat), k ≤ 9 → v < lim k → vgo k ((vb v).take ((vb v).length - 1) ++ [(vb v).getD ((vb v).length - 1) 0 + 128, 0]) = .form := by
  intro v
  induction v using Nat.strongRecOn with
  | ind v ih =>
    intro k hk hv
    by_cases h : v < 128
    · rw [vb_small h]
      simp only [List.length_singleton, Nat.sub_self, List.take_zero, List.nil_append, List.getD_cons_zero]
      by_cases hk9 : k = 9
      · rw [vgo, if_pos hk9, if_neg (by omega)]
      · rw [vgo, if_neg hk9, if_neg (by omega)]
        have : vgo (k + 1) [0] = .form := by
          rw [vgo]
          by_cases h8 : k + 1 = 9
          · rw [if_pos h8, if_neg (by decide)]
          · rw [if_neg h8, if_pos (by decide), if_pos ⟨rfl, by omega⟩]
        rw [this]
    · have hk9 : k ≠ 9 := by
        intro e; subst e; have := lim_nine.1 hv; omega
      obtain ⟨m, hm⟩ : ∃ m, (vb (v / 128)).length = m + 1 := by
        obtain ⟨n, h1, _⟩ := vb_shape (v / 128); exact ⟨n, h1⟩
      have := ih (v / 128) (by omega) (k + 1) (by omega) (lim_next (by omega) hv)
      rw [vb_great h]
      simp only [List.length_cons, hm, Nat.add_sub_cancel, List.take_succ_cons, List.cons_append, List.getD_cons_succ] at this ⊢
      rw [vgo, if_neg hk9, if_neg (by omega), this]

end Go.Proofs.Ytchfoipkaookmaa
