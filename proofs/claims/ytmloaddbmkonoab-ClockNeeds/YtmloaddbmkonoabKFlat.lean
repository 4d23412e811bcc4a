import Derived.Test.YtmloaddbmkonoabKStamps
import Derived.OwnWalk
namespace Go.Proofs.Ytmloaddbmkonoab
open Go.RowKit Go.Sort

/-- the cells of stamps, one behind the other -/
def St.cs (s : St) : List Value := [.int .u64 s.w, .int .u32 s.l, .int .u32 s.n]
def flat (xs : List St) : List Value := xs.flatMap St.cs
theorem flat_length (xs : List St) : (flat xs).length = xs.length * 3 := by
  induction xs with
  | nil => rfl
  | cons x xs ih => simp only [flat, List.flatMap_cons, List.length_append, List.length_cons] at *; rw [ih]; simp [St.cs]; omega
theorem flat_append (xs ys : List St) : flat (xs ++ ys) = flat xs ++ flat ys := by simp [flat]
theorem flat_one (x : St) : flat [x] = x.cs := by simp [flat]

theorem flat_at (xs : List St) (i : Nat) (h : i < xs.length) : (flat xs)[i * 3]? = some (.int .u64 (nth xs i).w) ∧ (flat xs)[i * 3 + 1]? = some (.int .u32 (nth xs i).l) ∧ (flat xs)[i * 3 + 2]? = some (.int .u32 (nth xs i).n) := by
  induction xs generalizing i with
  | nil => simp at h
  | cons x xs ih =>
    have e : flat (x :: xs) = x.cs ++ flat xs := by simp [flat]
    rw [e]
    cases i with
    | zero => exact ⟨rfl, rfl, rfl⟩
    | succ i =>
      have := ih i (by simpa using h)
      have n1 : nth (x :: xs) (i + 1) = nth xs i := by simp [nth]
      rw [n1]
      have hl : x.cs.length = 3 := rfl
      refine ⟨?_, ?_, ?_⟩
      · rw [List.getElem?_append_right (by rw [hl]; omega), hl, show (i + 1) * 3 - 3 = i * 3 by omega]; exact this.1
      · rw [List.getElem?_append_right (by rw [hl]; omega), hl, show (i + 1) * 3 + 1 - 3 = i * 3 + 1 by omega]; exact this.2.1
      · rw [List.getElem?_append_right (by rw [hl]; omega), hl, show (i + 1) * 3 + 2 - 3 = i * 3 + 2 by omega]; exact this.2.2

theorem Try.infoSt : (Try.prog.info? 33).map (fun i => (i.zero, i.size, i.bytes)) = some (some (stv 0 0 0), 3, 16) := by kernel_rfl

/-- a row that is our own, as a row that is read -/
theorem row_of_owns {w : World} {base : Nat} {v : Value} {xs : List St} (h : w.ownsRow base 33 3 v xs.length (flat xs)) :
    ∃ a c, v = .slice a xs.length c ∧ Row w a xs := by
  have h' := h
  obtain ⟨hl, ⟨rfl, h0⟩ | ⟨g, cap, cur, rfl, _⟩⟩ := h'
  · exact ⟨none, 0, by rw [h0], fun i hi => by omega⟩
  · refine ⟨_, cap, rfl, fun i hi => ⟨g, 0, rfl, ?_⟩⟩
    have hc := fun j hj => h.cellAt j hj
    obtain ⟨f0, f1, f2⟩ := flat_at xs i hi
    simp only [Nat.zero_add]
    exact ⟨by rw [hc _ (by omega)]; exact f0, by rw [hc _ (by omega)]; exact f1, by rw [hc _ (by omega)]; exact f2⟩

end Go.Proofs.Ytmloaddbmkonoab
