import Derived.Test.YtgplnbdankfobaaGreatDoorQSameC
import Derived.Test.YtgplnbdankfobaaGreatDoorQById
/- New, Before, rows of what is held read element by element. -/
namespace Go.Proofs.YtgplnbdankfobaaGreatDoor.Lk
open Go.RowKit Go.Sort
set_option linter.unusedVariables false

theorem new_is (w : World) : Calls Tryz.prog 4 #[] w fun e w' => e = .returned (.pointer (some ⟨w.heap.size, 0, none⟩)) ∧ Tb w' w.heap.size none none [] [] ∧ Below w.heap.size w w' := by
  have HT : Hid (Tb (w.alloc (.cells #[.map none, .map none] 57)) w.heap.size none none [] []) :=
    ⟨⟨_, (MapKept.heap_alloc _ _).1, rfl, rfl⟩, fun o s hc => by
      simp only [World.cell?, (MapKept.heap_alloc _ _).1] at hc
      match o, hc with
      | 0, hc => simp at hc
      | 1, hc => simp at hc
      | o + 2, hc => simp at hc, rfl, rfl, by simp, ok_nil, by simp, by simp⟩
  go_enter Tryz.func4, Tryz.ntmps4
  go_wp2_with fail
  go_ret
  exact ⟨rfl, HT.out, Below.al (Below.refl _ _) _⟩
theorem before_is {i j : Ix} {u : Bool} (hu : ltI i j = u) (w : World) : Calls Tryz.prog 43 #[ixv i, ixv j] w fun e w' => e = .returned (.bool u) ∧ Below w.heap.size w w' := by
  obtain ⟨ic, is⟩ := i
  obtain ⟨jc, js⟩ := j
  subst hu
  by_cases h : ic = jc
  · subst h
    have h' : (ic != ic) = false := by simp
    go_enter Tryz.func43, Tryz.ntmps43
    go_wp2_with fail
    go_ret
    exact ⟨by simp [ltI], by (repeat (first | exact Below.refl _ _ | assumption | refine Below.drew ?_ | refine Below.al ?_ _ | refine Below.setCell ?_ (by first | exact Nat.le_refl _ | (simp; omega) | (simp; done)) _ | refine Below.on ?_ (by assumption)))⟩
  · have h' : (ic != jc) = true := by simpa using h
    go_enter Tryz.func43, Tryz.ntmps43
    go_wp2_with fail
    go_ret
    exact ⟨by simp [ltI, h], by (repeat (first | exact Below.refl _ _ | assumption | refine Below.drew ?_ | refine Below.al ?_ _ | refine Below.setCell ?_ (by first | exact Nat.le_refl _ | (simp; omega) | (simp; done)) _ | refine Below.on ?_ (by assumption)))⟩
end Go.Proofs.YtgplnbdankfobaaGreatDoor.Lk
