import Derived.Test.YtgplnbdankfobaaGreatDoorQFam
/- Rows that are written over one after another. -/
namespace Go.Proofs.YtgplnbdankfobaaGreatDoor.Fam
open Go.RowKit
set_option linter.unusedVariables false
section
variable {α : Type}
/-- row j when the rows before i and k places of row i hold M's, the rest X's -/
def ct (M X : Nat → List α) (i k j : Nat) : List α := if j < i then M j else if j = i then (M i).take k ++ (X i).drop k else X j
theorem ct_zero (M X : Nat → List α) (j : Nat) : ct M X 0 0 j = X j := by
  unfold ct
  rw [if_neg (by omega)]
  by_cases e : j = 0
  · rw [if_pos e, e]; simp
  · rw [if_neg e]
theorem ct_next (M X : Nat → List α) {i : Nat} (hl : (M i).length = (X i).length) (j : Nat) : ct M X i (X i).length j = ct M X (i + 1) 0 j := by
  unfold ct
  by_cases h1 : j < i
  · rw [if_pos h1, if_pos (by omega)]
  · rw [if_neg h1]
    by_cases h2 : j = i
    · subst h2
      rw [if_pos rfl, if_pos (by omega), ← hl, List.take_length, hl, List.drop_length, List.append_nil]
    · rw [if_neg h2, if_neg (by omega)]
      by_cases h3 : j = i + 1
      · rw [if_pos h3, h3]; simp
      · rw [if_neg h3]
theorem ct_len (M X : Nat → List α) (hl : ∀ j, (M j).length = (X j).length) {i k : Nat} (hk : k ≤ (X i).length) (j : Nat) : (ct M X i k j).length = (X j).length := by
  unfold ct
  by_cases h1 : j < i
  · rw [if_pos h1, hl]
  · rw [if_neg h1]
    by_cases h2 : j = i
    · subst h2
      rw [if_pos rfl, List.length_append, List.length_take, List.length_drop, hl]; omega
    · rw [if_neg h2]
theorem ct_set (M X : Nat → List α) {i k : Nat} (hl : (M i).length = (X i).length) (hk : k < (X i).length) {x : α} (hx : (M i)[k]? = some x) : (ct M X i k i).set k x = ct M X i (k + 1) i := by
  unfold ct
  rw [if_neg (by omega), if_pos rfl, if_neg (by omega), if_pos rfl]
  have h1 : ((M i).take k).length = k := by rw [List.length_take]; omega
  have h2 : (X i).drop k = (X i)[k] :: (X i).drop (k + 1) := List.drop_eq_getElem_cons hk
  have h3 : (M i).take (k + 1) = (M i).take k ++ [x] := by rw [List.take_add_one, hx]; rfl
  rw [h2, h3, List.set_append_right _ _ (by omega), h1, Nat.sub_self, List.set_cons_zero, List.append_assoc]
  rfl
theorem ct_other (M X : Nat → List α) {i k k' j : Nat} (h : j ≠ i) : ct M X i k j = ct M X i k' j := by
  unfold ct
  by_cases h1 : j < i
  · rw [if_pos h1, if_pos h1]
  · rw [if_neg h1, if_neg h1, if_neg h, if_neg h]
theorem ct_done (M X : Nat → List α) {n j : Nat} (h : j < n) : ct M X n 0 j = M j := by unfold ct; rw [if_pos h]
end
end Go.Proofs.YtgplnbdankfobaaGreatDoor.Fam
