import Derived.Test.YtfafkohghgliaaaTuRefV
/- The order of tuples, step by step, plain. -/
namespace Go.Proofs.Ytfafkohghgliaaa.Tu
open Go.RowKit Go.Sort Go.Proofs.Ytfafkohghgliaaa
set_option linter.unusedVariables false
set_option linter.unusedSectionVars false
variable [DecidableEq Vl]

/-- the first k are alike: then the rest decides -/
theorem cmp_drop : ∀ {xs ys : List Vl} {k : Nat}, k ≤ xs.length → k ≤ ys.length → xs.take k = ys.take k → cmpT xs ys = cmpT (xs.drop k) (ys.drop k)
  | _, _, 0, _, _, _ => rfl
  | [], _, k + 1, h, _, _ => by simp at h
  | _ :: _, [], k + 1, _, h, _ => by simp at h
  | x :: xs, y :: ys, k + 1, h1, h2, h => by
    simp only [List.take_succ_cons, List.cons.injEq] at h
    obtain ⟨rfl, h⟩ := h
    have := cmp_drop (k := k) (by simpa using h1) (by simpa using h2) h
    simp only [List.drop_succ_cons]
    rw [← this]
    simp [cmpT, bef_irr]
theorem cmp_at {xs ys : List Vl} {k : Nat} (h1 : k < xs.length) (h2 : k < ys.length) (h : xs.take k = ys.take k) :
    cmpT xs ys = if bef (nthV xs k) (nthV ys k) then -1 else if bef (nthV ys k) (nthV xs k) then 1 else cmpT (xs.drop (k + 1)) (ys.drop (k + 1)) := by
  rw [cmp_drop (by omega) (by omega) h, nthV_drop h1, nthV_drop h2]; rfl
theorem take_same {xs ys : List Vl} {k : Nat} (h1 : k < xs.length) (h2 : k < ys.length) (h : xs.take k = ys.take k) (ha : bef (nthV xs k) (nthV ys k) = false) (hb : bef (nthV ys k) (nthV xs k) = false) :
    xs.take (k + 1) = ys.take (k + 1) := by rw [nthV_take h1, nthV_take h2, h, bef_tri ha hb]
theorem cmp_end {xs ys : List Vl} {k : Nat} (h1 : k ≤ xs.length) (h2 : k ≤ ys.length) (h : xs.take k = ys.take k) (hk : k = xs.length ∨ k = ys.length) :
    cmpT xs ys = if xs.length < ys.length then -1 else if ys.length < xs.length then 1 else 0 := by
  rw [cmp_drop h1 h2 h]
  have a : (xs.drop k).length = xs.length - k := List.length_drop
  have b : (ys.drop k).length = ys.length - k := List.length_drop
  cases hx : xs.drop k with
  | nil =>
    rw [hx] at a
    cases hy : ys.drop k with
    | nil => rw [hy] at b; simp at a b; rw [if_neg (by omega), if_neg (by omega)]; rfl
    | cons y q => rw [hy] at b; simp at a b; rw [if_pos (by omega)]; rfl
  | cons x p =>
    rw [hx] at a
    cases hy : ys.drop k with
    | nil => rw [hy] at b; simp at a b; rw [if_neg (by omega), if_pos (by omega)]; rfl
    | cons y q => rw [hx, ] at *; rw [hy] at b; simp at a b; omega
end Go.Proofs.Ytfafkohghgliaaa.Tu
