/- Plain mathematics of stamps: no Go. -/
namespace Go.Proofs.Ytfafkohghgliaaa

/-- the order, a Bool function of the six numbers -/
def lessB (a b c x y z : Int) : Bool := if a = x then (if b = y then decide (c < z) else decide (b < y)) else decide (a < x)
/-- the three numbers alike -/
def sameB (a b c x y z : Int) : Bool := (a == x) && ((b == y) && (c == z))
def cmpI (a b c x y z : Int) : Int := if sameB a b c x y z then 0 else if lessB a b c x y z then -1 else 1

theorem sameB_iff {a b c x y z : Int} : sameB a b c x y z = true ↔ a = x ∧ b = y ∧ c = z := by simp [sameB]
theorem sameB_no {a b c x y z : Int} (h : ¬ (a = x ∧ b = y ∧ c = z)) : sameB a b c x y z = false := by
  cases hs : sameB a b c x y z with
  | false => rfl
  | true => exact absurd (sameB_iff.1 hs) h
theorem sameB_self (a b c : Int) : sameB a b c a b c = true := by simp [sameB]
theorem lessB_iff {a b c x y z : Int} : lessB a b c x y z = true ↔ a < x ∨ (a = x ∧ (b < y ∨ (b = y ∧ c < z))) := by
  unfold lessB
  by_cases h1 : a = x
  · by_cases h2 : b = y
    · simp [h1, h2]
    · simp [h1, h2]
  · simp [h1]
theorem lessB_iff_false {a b c x y z : Int} : lessB a b c x y z = false ↔ ¬ (a < x ∨ (a = x ∧ (b < y ∨ (b = y ∧ c < z)))) := by
  rw [← lessB_iff]; simp
theorem less_anti {a b c x y z : Int} (h : ¬ (a = x ∧ b = y ∧ c = z)) : lessB x y z a b c = !lessB a b c x y z := by
  cases h1 : lessB a b c x y z
  · rw [lessB_iff_false] at h1
    show _ = true
    rw [lessB_iff]; omega
  · rw [lessB_iff] at h1
    show _ = false
    rw [lessB_iff_false]; omega
theorem less_irr (a b c : Int) : lessB a b c a b c = false := by simp [lessB]
theorem less_trans {a b c x y z r s t : Int} (h : lessB a b c x y z = true) (k : lessB x y z r s t = true) : lessB a b c r s t = true := by
  rw [lessB_iff] at *; omega
theorem cmpI_self (a b c : Int) : cmpI a b c a b c = 0 := by simp [cmpI, sameB]
theorem cmpI_lt {a b c x y z : Int} (h : sameB a b c x y z = false) (k : lessB a b c x y z = true) : cmpI a b c x y z = -1 := by
  unfold cmpI; rw [h, k]; rfl
theorem cmpI_gt {a b c x y z : Int} (h : sameB a b c x y z = false) (k : lessB a b c x y z = false) : cmpI a b c x y z = 1 := by
  unfold cmpI; rw [h, k]; rfl

end Go.Proofs.Ytfafkohghgliaaa
