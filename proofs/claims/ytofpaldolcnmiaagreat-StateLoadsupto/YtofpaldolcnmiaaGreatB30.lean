import Derived.Test.YtofpaldolcnmiaaGreatB29
set_option linter.unusedVariables false
namespace Go.Proofs.YtofpaldolcnmiaaGreat.Ys
open Go.RowKit Go.Sort
section
variable {F : Nat → Prop} {w w' : World} {p : Nat} {m1 m2 m : Option Nat} {V : List Lk.Hv} {I : Lk.It} {s : Ps}
theorem err_valid {r : Rg} (h : r.err = 0) : r.rules = true := by
 unfold Rg.err at h; split at h
 ·rename_i hv; unfold Rg.valid at hv; rw [Bool.and_eq_true] at hv; exact hv.2
 ·cases h
theorem rules_2 {r : Rg} (h : r.rules = true) (hk : r.k = 2) : r.rs.length ≤ 16 ∧ writesOk r.ws = true ∧ r.w ≠ 18446744073709551615 := by
 unfold Rg.rules at h; rw [if_neg (by omega), if_pos hk] at h; simp only [Bool.and_eq_true] at h; obtain ⟨⟨⟨⟨_, h2⟩, _⟩, h4⟩, h5⟩ := h; unfold readsOk at h4; rw [Bool.and_eq_true] at h4; exact ⟨by simpa using h4.1, h5, by simpa [topW] using h2⟩
end
def Sta (B : Nat) (w : World) (p : Nat) (s : Ps) : Prop := ∃ F m1 m2 m V I, St F w p m1 m2 m V I s ∧ ∀ b, F b ∨ Bm p m1 m2 m b → B ≤ b
section
variable {B : Nat} {w w' : World} {p : Nat} {s : Ps}
theorem Sta.later (T : Sta B w p s) (h : Below w.heap.size w w') : Sta B w' p s := by
 obtain ⟨F, m1, m2, m, V, I, T, hl⟩ := T; exact ⟨F, m1, m2, m, V, I, T.later h, hl⟩
end
end Go.Proofs.YtofpaldolcnmiaaGreat.Ys
