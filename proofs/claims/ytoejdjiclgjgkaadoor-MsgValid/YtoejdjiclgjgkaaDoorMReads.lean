import Derived.Test.YtoejdjiclgjgkaaDoorMSmall
namespace Go.Proofs.YtoejdjiclgjgkaaDoor
open Go.RowKit Go.Sort
set_option linter.unusedVariables false

/-- all of the first n -/
def allB (p : Nat → Bool) : Nat → Bool
  | 0 => true
  | n + 1 => allB p n && p n
theorem allB_no {p : Nat → Bool} {k : Nat} (h : p k = false) : ∀ n, k < n → allB p n = false
  | 0, hn => by omega
  | n + 1, hn => by
    by_cases e : k = n
    · subst e; rw [allB, h, Bool.and_false]
    · rw [allB, allB_no h n (by omega), Bool.false_and]
theorem allB_yes {p : Nat → Bool} {k : Nat} (h : allB p k = true) (h' : p k = true) : allB p (k + 1) = true := by rw [allB, h, h']; rfl
def spanAt (xs : List T2) (i : Nat) : Bool := spanOk (nth2 xs i)
def readsOk (xs : List T2) : Bool := decide (xs.length ≤ 16) && allB (spanAt xs) xs.length

set_option maxHeartbeats 1000000 in
theorem validReads_is {a : Option Addr} {c : Nat} {xs : List T2} {w : World} {u : Bool} (hu : readsOk xs = u) (h : Row2 w a xs) (hl : xs.length ≤ 9223372036854775807) :
    Calls Tryd.prog 53 #[.slice a xs.length c] w fun e w' => e = .returned (.bool u) ∧ Below w.heap.size w w' := by
  subst hu
  by_cases h16 : 16 < (xs.length : Int)
  · go_enter Tryd.func53, Tryd.ntmps53
    go_wp2_with fail
    go_ret
    refine ⟨ret_bool ?_, by (repeat (first | exact Below.refl _ _ | assumption | refine Below.drew ?_ | refine Below.al ?_ _ | refine Below.setCell ?_ (by first | exact Nat.le_refl _ | (simp; omega) | (simp; done)) _ | refine Below.on ?_ (by assumption)))⟩
    rw [readsOk, decide_eq_false (by omega)]; rfl
  have H16 := hid h16
  have h16' : decide (16 < (xs.length : Int)) = false := decide_eq_false h16
  clear h16
  go_enter Tryd.func53, Tryd.ntmps53
  go_wp2_with fail
  go_loopg [10] xs.length (fun g s10 wr => ∃ k : Nat, k ≤ xs.length ∧ g = xs.length - k ∧ s10 = .int .i64 k ∧ Below w.heap.size w wr ∧ Hid (allB (spanAt xs) k = true))
  case atStart => exact ⟨0, by omega, by omega, rfl, Below.refl _ _, rfl⟩
  case round =>
    obtain ⟨k, hk, rfl, rfl, hb, HA⟩ := hrel
    by_cases hlt : k < xs.length
    · obtain ⟨b, off, rfl, c0, c1⟩ := (h.later hb) k hlt
      obtain ⟨u, hu⟩ : ∃ u, spanOk (nth2 xs k) = u := ⟨_, rfl⟩
      have HU : Hid (spanAt xs k = u) := hu
      obtain ⟨x, hx⟩ : ∃ x, x = nth2 xs k := ⟨_, rfl⟩
      rw [← hx] at c0 c1 hu
      clear hx
      go_wp2_with fail
      refine (validSpan_is hu _).mono ?_
      rintro e w1 ⟨rfl, hw1⟩
      replace hb : Below w.heap.size w w1 := Below.on (Below.al hb _) hw1
      clear hw1 hu
      cases u
      · go_wp2_with fail
        go_ret
        refine ⟨ret_bool ?_, hb⟩
        rw [readsOk, allB_no HU.out _ hlt, Bool.and_false]
      · go_wp2_with fail
        go_roundg (xs.length - (k + 1))
        case measure => omega
        case rel => exact ⟨k + 1, by omega, rfl, by go_num, hb, allB_yes HA.out HU.out⟩
    · obtain rfl : k = xs.length := by omega
      go_wp2_with fail
      go_ret
      refine ⟨ret_bool ?_, hb⟩
      rw [readsOk, HA.out, decide_eq_true (by have := H16.out; omega)]; rfl

end Go.Proofs.YtoejdjiclgjgkaaDoor
