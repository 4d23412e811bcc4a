import Derived.Test.YtfkiccdjffhhhaaGreatDoorRFit
/- fit, where it is not valid by its numbers. -/
namespace Go.Proofs.YtfkiccdjffhhhaaGreatDoor.Rt
open Go.RowKit Go.Sort
set_option linter.unusedVariables false

set_option maxHeartbeats 4000000 in
set_option maxRecDepth 100000 in
theorem fit_no {c : Cf} {w : World} (h : c.Ok w) (A : ¬ (1 ≤ c.sh ∧ c.sh ≤ 6 ∧ 1 ≤ c.cl ∧ c.cl ≤ 6 ∧ 256 ≤ c.ca ∧ c.ca ≤ 1048576 ∧ 0 ≤ c.pk ∧ c.pk ≤ 16 ∧ (c.ss.length : Int) = c.sh - 1)) {u : Bool} (hu : c.okB = u) :
    Calls Tryz.prog 4 #[c.val] w fun e w' => e = .returned (.bool u) ∧ Below w.heap.size w w' := by
  subst hu
  have H := hid h
  obtain ⟨sh, cl, a, cp, ss, ca, pk, wi⟩ := c
  have hs := h.sh
  have hl := h.len
  simp only at hs hl A
  clear h
  have HU := hid (ok_not (c := ⟨sh, cl, a, cp, ss, ca, pk, wi⟩) A)
  by_cases B : 1 ≤ sh ∧ sh ≤ 6 ∧ 1 ≤ cl ∧ cl ≤ 6 ∧ 256 ≤ ca ∧ ca ≤ 1048576 ∧ 0 ≤ pk ∧ pk ≤ 16
  · have hne : ¬ (ss.length : Int) = sh - 1 := fun e => A ⟨B.1, B.2.1, B.2.2.1, B.2.2.2.1, B.2.2.2.2.1, B.2.2.2.2.2.1, B.2.2.2.2.2.2.1, B.2.2.2.2.2.2.2, e⟩
    have hne' : ((ss.length : Int) == sh - 1) = false := by simpa using hne
    have hne2 : ((ss.length : Int) != sh - 1) = true := by simpa using hne
    obtain ⟨h1, h2, h3, h4, h5, h6, h7, h8⟩ := B
    clear A
    go_enter Tryz.func4, Tryz.ntmps4
    go_wp2_with fail
    all_goals (first | (go_ret; exact ⟨ret_bool HU.out.symm, by (repeat (first | with_reducible exact Below.refl _ _ | with_reducible assumption | with_reducible refine Below.drew ?_ | with_reducible refine Below.al ?_ _ | with_reducible refine Below.setCell ?_ (by first | exact Nat.le_refl _ | (simp; omega) | (simp; done)) _ | with_reducible refine Below.on ?_ (by assumption)))⟩) | (exfalso; omega))
  · clear A
    go_enter Tryz.func4, Tryz.ntmps4
    go_wp2_with fail
    all_goals (first | (go_ret; exact ⟨ret_bool HU.out.symm, by (repeat (first | with_reducible exact Below.refl _ _ | with_reducible assumption | with_reducible refine Below.drew ?_ | with_reducible refine Below.al ?_ _ | with_reducible refine Below.setCell ?_ (by first | exact Nat.le_refl _ | (simp; omega) | (simp; done)) _ | with_reducible refine Below.on ?_ (by assumption)))⟩) | (exfalso; omega))

theorem fit_is {c : Cf} {w : World} (h : c.Ok w) {u : Bool} (hu : c.okB = u) :
    Calls Tryz.prog 4 #[c.val] w fun e w' => e = .returned (.bool u) ∧ Below w.heap.size w w' := by
  by_cases A : 1 ≤ c.sh ∧ c.sh ≤ 6 ∧ 1 ≤ c.cl ∧ c.cl ≤ 6 ∧ 256 ≤ c.ca ∧ c.ca ≤ 1048576 ∧ 0 ≤ c.pk ∧ c.pk ≤ 16 ∧ (c.ss.length : Int) = c.sh - 1
  · exact fit_yes h A hu
  · exact fit_no h A hu

end Go.Proofs.YtfkiccdjffhhhaaGreatDoor.Rt
