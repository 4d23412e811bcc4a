import Derived.Test.YtodolbekbeccbabShelf
import Derived.Test.YtodolbekbeccbabSortPlain
import Derived.Test.YtodolbekbeccbabCompare
import Derived.Test.YtodolbekbeccbabTab
import Derived.Laws.CopyOwn
namespace Go.Proofs.Ytodolbekbeccbab
open Go.RowKit Go.Sort Go.Shelf Go.Lib
set_option linter.unusedVariables false

set_option maxHeartbeats 400000 in
theorem less_lays (a b c x y z : Int) (w : World) :
    Calls Try.prog 21 #[stv a b c, stv x y z] w fun e w' => e = .returned (.bool (lessB a b c x y z)) ∧ ∃ os, w' = grow w os := by
  by_cases h1 : a = x
  · by_cases h2 : b = y
    · subst h1 h2
      go_enter Try.func21, Try.ntmps21
      go_wp2
      go_ret
      exact ⟨by simp [lessB], _, by rw [alloc_eq_grow, alloc_eq_grow, grow_grow]⟩
    · subst h1
      have h2' : (b != y) = true := by simpa using h2
      go_enter Try.func21, Try.ntmps21
      go_wp2
      go_ret
      exact ⟨by simp [lessB, h2], _, by rw [alloc_eq_grow, alloc_eq_grow, grow_grow]⟩
  · have h1' : (a != x) = true := by simpa using h1
    go_enter Try.func21, Try.ntmps21
    go_wp2
    go_ret
    exact ⟨by simp [lessB, h1], _, by rw [alloc_eq_grow, alloc_eq_grow, grow_grow]⟩

set_option maxHeartbeats 400000 in
theorem compare_lays (a b c x y z : Int) (w : World) :
    Calls Try.prog 25 #[stv a b c, stv x y z] w fun e w' => e = .returned (.int .i64 (cmpI a b c x y z)) ∧ ∃ q os, w' = grow (w.drewN q) os := by
  by_cases h : a = x ∧ b = y ∧ c = z
  · obtain ⟨rfl, rfl, rfl⟩ := h
    go_enter Try.func25, Try.ntmps25
    go_wp2
    go_ret
    exact ⟨by simp [cmpI, sameB], 0, _, by rw [alloc_eq_grow, alloc_eq_grow, grow_grow]; rfl⟩
  · have hs := sameB_no h
    have hq : ∀ w, (binOp .eql 25 (stv a b c) (stv x y z)).run Try.prog w = .ok (.bool false) w := fun w => by rw [run_eq, hs]
    cases hl : lessB a b c x y z
    all_goals
      go_enter Try.func25, Try.ntmps25
      go_wp2_with (go_at_call 21; refine (less_lays _ _ _ _ _ _ _).mono ?_; rintro e w' ⟨rfl, os, rfl⟩)
      go_ret
      exact ⟨by simp [cmpI, hs, hl], 0, _, by rw [alloc_eq_grow, alloc_eq_grow, grow_grow, grow_grow]; rfl⟩

def cmpS (x y : St) : Int := cmpI x.w x.l x.n y.w y.l y.n
theorem ltS (x y : St) : ltOf cmpS x y = x.less y := by
  unfold ltOf cmpS cmpI St.less
  by_cases h : x.w = y.w ∧ x.l = y.l ∧ x.n = y.n
  · obtain ⟨h1, h2, h3⟩ := h
    rw [h1, h2, h3, sameB_self, less_irr]; rfl
  · rw [sameB_no h]
    cases lessB x.w x.l x.n y.w y.l y.n <;> rfl
theorem swoS : SWO (ltOf cmpS) where
  irrefl x := by rw [ltS]; exact less_irr _ _ _
  trans x y z h1 h2 := by rw [ltS] at *; exact less_trans h1 h2
  ntrans x y z h1 h2 := by
    rw [ltS] at *
    unfold St.less at *
    rw [lessB_iff_false] at *
    omega
theorem totS (x y : St) (h1 : ltOf cmpS x y = false) (h2 : ltOf cmpS y x = false) : x = y := by
  rw [ltS] at *
  exact le_antisymm (by unfold leS; rw [h2]; rfl) (by unfold leS; rw [h1]; rfl)
theorem leS_eq : (fun x y : St => !(ltOf cmpS) y x) = leS := by
  funext x y
  rw [ltS]; rfl

theorem cmpLays [Inhabited St] (blk off size : Nat) (w : World) : CmpLays Try.prog 25 #[] St.cs 3 cmpS blk off size w :=
  fun _ _ _ _ x y => compare_lays _ _ _ _ _ _ _

theorem flatK_eq [Inhabited St] (xs : List St) : flatK St.cs 3 xs.toArray = (flat xs).toArray := by
  apply Array.ext_getElem?
  intro j
  by_cases hj : j < xs.length * 3
  · have hi : j / 3 < xs.length := by omega
    obtain ⟨f0, f1, f2⟩ := flat_at xs (j / 3) hi
    have hn : nth xs (j / 3) = xs[j / 3]! := by simp [nth, hi]
    have hl : (flatK St.cs 3 xs.toArray)[j]? = some ((St.cs (nth xs (j / 3)))[j % 3]!) := by
      rw [hn]; simp [flatK, hj]
    rw [hl]
    have h3 : j % 3 = 0 ∨ j % 3 = 1 ∨ j % 3 = 2 := by omega
    rw [List.getElem?_toArray]
    rcases h3 with e | e | e
    · rw [e]; conv => rhs; rw [show j = j / 3 * 3 by omega]
      rw [f0]; rfl
    · rw [e]; conv => rhs; rw [show j = j / 3 * 3 + 1 by omega]
      rw [f1]; rfl
    · rw [e]; conv => rhs; rw [show j = j / 3 * 3 + 2 by omega]
      rw [f2]; rfl
  · rw [Array.getElem?_eq_none (by simp; omega), Array.getElem?_eq_none (by simp [flat_length]; omega)]

/-- a row of our own that is full, and its block -/
theorem owns_full {w : World} {base g n : Nat} {xs : List St} (hn : xs.length = n) (h : w.ownsRow base 25 3 (.slice (some ⟨g, 0, none⟩) n n) n (flat xs)) :
    base ≤ g ∧ n ≤ maxLen ∧ w.heap[g]? = some (.cells (flat xs).toArray 25 (0, 0)) := by
  obtain ⟨hl, ⟨e, _⟩ | ⟨g', cap, cur, e, hb, hg, h1, h2, h3, h4⟩⟩ := h
  · cases e
  · injection e with e1 e2 e3
    injection e1 with e1
    injection e1 with e1 _ _
    subst e1 e3
    refine ⟨hb, h2, ?_⟩
    rw [hg, ← h4, List.take_of_length_le (by simp [h3])]
theorem owns_of_full {w : World} {base g n : Nat} {xs : List St} (hn : xs.length = n) (hb : base ≤ g) (hm : n ≤ maxLen) (h : w.heap[g]? = some (.cells (flat xs).toArray 25 (0, 0))) :
    w.ownsRow base 25 3 (.slice (some ⟨g, 0, none⟩) n n) n (flat xs) :=
  ⟨by rw [flat_length, hn], .inr ⟨g, n, (flat xs).toArray, rfl, hb, h, Nat.le_refl _, hm, by simp [flat_length, hn], List.take_of_length_le (by rw [flat_length, hn]; exact Nat.le_refl _)⟩⟩

theorem holds_full [Inhabited St] {w : World} {g : Nat} {xs : List St} (h : w.heap[g]? = some (.cells (flat xs).toArray 25 (0, 0))) : HoldsK St.cs 3 w g 0 xs.toArray := by
  unfold HoldsK
  rw [flatK_eq]
  intro i hi
  simp at hi
  simp [World.cell?, World.frozen?, h, hi]

end Go.Proofs.Ytodolbekbeccbab
