import Derived.Test.YtmloaddbmkonoabKFlat
namespace Go.Proofs.Ytmloaddbmkonoab
open Go.RowKit Go.Sort

theorem flat_cons (x : St) (xs : List St) : flat (x :: xs) = .int .u64 x.w :: .int .u32 x.l :: .int .u32 x.n :: flat xs := by simp [flat, St.cs]

theorem flat_set : ∀ (xs : List St) (i : Nat) (x : St), i < xs.length → flat (xs.set i x) = (((flat xs).set (i * 3) (.int .u64 x.w)).set (i * 3 + 1) (.int .u32 x.l)).set (i * 3 + 2) (.int .u32 x.n)
  | [], _, _, h => by simp at h
  | y :: ys, 0, x, _ => by rw [List.set_cons_zero, flat_cons, flat_cons]; rfl
  | y :: ys, i + 1, x, h => by
    have ih := flat_set ys i x (by simpa using h)
    rw [List.set_cons_succ, flat_cons, flat_cons, ih]
    rw [show (i + 1) * 3 = i * 3 + 1 + 1 + 1 by omega]
    simp only [List.set_cons_succ]

/-- a list given by its places -/
def tab (M : Nat) (f : Nat → St) : List St := (List.range M).map f
theorem tab_length (M : Nat) (f : Nat → St) : (tab M f).length = M := by simp [tab]
theorem nth_tab {M i : Nat} (f : Nat → St) (h : i < M) : nth (tab M f) i = f i := by simp [nth, tab, h]
theorem tab_congr {M : Nat} {f g : Nat → St} (h : ∀ i, i < M → f i = g i) : tab M f = tab M g := by
  unfold tab
  apply List.map_congr_left
  intro i hi
  exact h i (List.mem_range.1 hi)
theorem tab_set {M k : Nat} {f g : Nat → St} {x : St} (hk : g k = x) (h : ∀ i, i < M → i ≠ k → g i = f i) : (tab M f).set k x = tab M g := by
  apply List.ext_getElem?
  intro i
  by_cases hi : i < M
  · by_cases e : i = k
    · subst e; simp [tab, hi, hk]
    · rw [List.getElem?_set_ne (fun e' => e e'.symm)]
      simp [tab, hi, h i hi e]
  · rw [List.getElem?_eq_none (by simp [tab]; omega), List.getElem?_eq_none (by simp [tab]; omega)]
theorem tab_of_list (xs : List St) : xs = tab xs.length (nth xs) := by
  apply List.ext_getElem?
  intro i
  by_cases hi : i < xs.length
  · simp [tab, hi, nth]
  · rw [List.getElem?_eq_none (by omega), List.getElem?_eq_none (by simp [tab]; omega)]
theorem take_tab {M n : Nat} (f : Nat → St) (h : n ≤ M) : (tab M f).take n = tab n f := by
  apply List.ext_getElem?
  intro i
  by_cases hi : i < n
  · have : i < M := by omega
    simp [tab, hi, this]
  · rw [List.getElem?_eq_none (by simp [tab]; omega), List.getElem?_eq_none (by simp [tab]; omega)]

theorem made_flat (M : Nat) : (madeCells (stv 0 0 0).cells (M * 3)).toList = flat (tab M fun _ => zst) := by
  apply List.ext_getElem?
  intro j
  by_cases hj : j < M * 3
  · have hi : j / 3 < (tab M fun _ => zst).length := by rw [tab_length]; omega
    obtain ⟨f0, f1, f2⟩ := flat_at _ (j / 3) hi
    have hn : nth (tab M fun _ => zst) (j / 3) = zst := nth_tab _ (by rw [tab_length] at hi; exact hi)
    rw [hn] at f0 f1 f2
    have hl : (madeCells (stv 0 0 0).cells (M * 3)).toList[j]? = some ((stv 0 0 0).cells[j % 3]!) := by
      simp [madeCells, hj, Value.cells]
    rw [hl]
    have h3 : j % 3 = 0 ∨ j % 3 = 1 ∨ j % 3 = 2 := by omega
    rcases h3 with e | e | e
    · rw [e, show j = j / 3 * 3 by omega, f0]; rfl
    · rw [e]; conv => rhs; rw [show j = j / 3 * 3 + 1 by omega]
      rw [f1]; rfl
    · rw [e]; conv => rhs; rw [show j = j / 3 * 3 + 2 by omega]
      rw [f2]; rfl
  · rw [List.getElem?_eq_none (by simp [madeCells]; omega), List.getElem?_eq_none (by rw [flat_length, tab_length]; omega)]

/-- a stamp put into a row of our own -/
theorem owns_put {w : World} {base g M cap : Nat} {xs : List St} (h : w.ownsRow base 33 3 (.slice (some ⟨g, 0, none⟩) M cap) M (flat xs)) {k : Nat} (hk : k < xs.length) (x : St) :
    (((w.setCell ⟨g, k * 3, none⟩ (.int .u64 x.w)).setCell ⟨g, k * 3 + 1, none⟩ (.int .u32 x.l)).setCell ⟨g, k * 3 + 2, none⟩ (.int .u32 x.n)).ownsRow base 33 3 (.slice (some ⟨g, 0, none⟩) M cap) M (flat (xs.set k x)) := by
  rw [flat_set xs k x hk]
  exact (((h.stored _ _).1.stored _ _).1.stored _ _).1
theorem below_put3 {B : Nat} {w0 w : World} (h : Below B w0 w) {g : Nat} (hg : B ≤ g) (j : Nat) (x : St) :
    Below B w0 (((w.setCell ⟨g, j, none⟩ (.int .u64 x.w)).setCell ⟨g, j + 1, none⟩ (.int .u32 x.l)).setCell ⟨g, j + 2, none⟩ (.int .u32 x.n)) :=
  Below.setCell (p := ⟨g, j + 2, none⟩) (Below.setCell (p := ⟨g, j + 1, none⟩) (Below.setCell (p := ⟨g, j, none⟩) h hg _) hg _) hg _

theorem owns_later {w w' : World} {base size n : Nat} {e : TypeId} {v : Value} {xs : List Value} (h : w.ownsRow base e size v n xs) (hb : Below w.heap.size w w') : w'.ownsRow base e size v n xs :=
  h.kept (row := none) ⟨hb.os, hb.tape, hb.output, hb.size, fun k hk _ => hb.block k hk⟩ (by cases hv : v.ownBlock <;> simp)

/-- a row of our own that is not nil, as a row that is read -/
theorem row_of_owns_at {w : World} {base g M cap : Nat} {f : Nat → St} (h : w.ownsRow base 33 3 (.slice (some ⟨g, 0, none⟩) M cap) M (flat (tab M f))) : Row w (some ⟨g, 0, none⟩) (tab M f) := by
  obtain ⟨a, c, e, hr⟩ := row_of_owns (xs := tab M f) (by rw [tab_length]; exact h)
  injection e with e1 _ _
  rw [e1]; exact hr

end Go.Proofs.Ytmloaddbmkonoab
