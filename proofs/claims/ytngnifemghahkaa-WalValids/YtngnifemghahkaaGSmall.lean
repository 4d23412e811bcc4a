import Derived.Test.YtngnifemghahkaaGBase
import Derived.Test.YtngnifemghahkaaHValid
/- Package valid, over a record's lists (GBase's words). -/
namespace Go.Proofs.Ytngnifemghahkaa
open Go.RowKit Go.Sort
set_option linter.unusedVariables false

theorem validSpan_is {x : T2} {u : Bool} (hu : spanOk x = u) (w : World) :
    Calls Try.prog 26 #[.agg #[.string x.1, .string x.2]] w fun e w' => e = .returned (.bool u) ∧ Below w.heap.size w w' := by
  subst hu
  obtain ⟨lo, hi⟩ := x
  go_enter Try.func26, Try.ntmps26
  go_wp2_with fail
  all_goals go_ret
  all_goals refine ⟨ret_bool ?_, by (repeat (first | exact Below.refl _ _ | assumption | refine Below.drew ?_ | refine Below.al ?_ _ | refine Below.setCell ?_ (by first | exact Nat.le_refl _ | (simp; omega) | (simp; done)) _ | refine Below.on ?_ (by assumption)))⟩
  all_goals simp only [spanOk, emS, ltS]
  · rw [Bool.eq_iff_iff]; simp; omega
  · rename_i h2 h1 h0; rw [Bool.eq_iff_iff]; simp [h0]; omega
  · rename_i h2 h1 h0; rw [Bool.eq_iff_iff]; simp; omega
  · rw [Bool.eq_iff_iff]; simp; omega

set_option maxHeartbeats 1000000 in
theorem validReads_is {a : Option Addr} {c : Nat} {xs : List T2} {w : World} {u : Bool} (hu : readsOk xs = u) (h : Row2 w a xs) (hl : xs.length ≤ 9223372036854775807) :
    Calls Try.prog 23 #[.slice a xs.length c] w fun e w' => e = .returned (.bool u) ∧ Below w.heap.size w w' := by
  subst hu
  by_cases h16 : 16 < (xs.length : Int)
  · go_enter Try.func23, Try.ntmps23
    go_wp2_with fail
    go_ret
    refine ⟨ret_bool ?_, by (repeat (first | exact Below.refl _ _ | assumption | refine Below.drew ?_ | refine Below.al ?_ _ | refine Below.setCell ?_ (by first | exact Nat.le_refl _ | (simp; omega) | (simp; done)) _ | refine Below.on ?_ (by assumption)))⟩
    rw [readsOk, decide_eq_false (by omega)]; rfl
  have H16 := hid h16
  have h16' : decide (16 < (xs.length : Int)) = false := decide_eq_false h16
  clear h16
  go_enter Try.func23, Try.ntmps23
  go_wp2_with fail
  go_loopg [10] xs.length (fun g s10 wr => ∃ k : Nat, k ≤ xs.length ∧ g = xs.length - k ∧ s10 = .int .i64 k ∧ Below w.heap.size w wr ∧ Hid (allB (spanAt xs) k = true))
  case atStart => exact ⟨0, by omega, by omega, rfl, Below.refl _ _, rfl⟩
  case round =>
    obtain ⟨k, hk, rfl, rfl, hb, HA⟩ := hrel
    by_cases hlt : k < xs.length
    · obtain ⟨b, off, rfl, c0, c1⟩ := (h.later hb) k hlt
      obtain ⟨u, hu⟩ : ∃ u, spanOk (nth2 xs k) = u := ⟨_, rfl⟩
      have HU : Hid (spanAt xs k = u) := hu
      obtain ⟨x, hx⟩ : ∃ x, x = nth2 xs k := ⟨_, rfl⟩
      rw [← hx] at c0 c1 hu
      clear hx
      go_wp2_with fail
      refine (validSpan_is hu _).mono ?_
      rintro e w1 ⟨rfl, hw1⟩
      replace hb : Below w.heap.size w w1 := Below.on (Below.al hb _) hw1
      clear hw1 hu
      cases u
      · go_wp2_with fail
        go_ret
        refine ⟨ret_bool ?_, hb⟩
        rw [readsOk, allB_no HU.out _ hlt, Bool.and_false]
      · go_wp2_with fail
        go_roundg (xs.length - (k + 1))
        case measure => omega
        case rel => exact ⟨k + 1, by omega, rfl, by go_num, hb, allB_yes HA.out HU.out⟩
    · obtain rfl : k = xs.length := by omega
      go_wp2_with fail
      go_ret
      refine ⟨ret_bool ?_, hb⟩
      rw [readsOk, HA.out, decide_eq_true (by have := H16.out; omega)]; rfl

theorem txn_is {c s : Int} (w : World) :
    Calls Try.prog 16 #[.agg #[.int .u32 c, .int .u32 s]] w fun e w' => e = .returned (.bool (decide (1 ≤ s))) ∧ Below w.heap.size w w' := by
  go_enter Try.func16, Try.ntmps16
  go_wp2_with fail
  go_ret
  exact ⟨ret_bool (by simp), by (repeat (first | exact Below.refl _ _ | assumption | refine Below.drew ?_ | refine Below.al ?_ _ | refine Below.setCell ?_ (by first | exact Nat.le_refl _ | (simp; omega) | (simp; done)) _ | refine Below.on ?_ (by assumption)))⟩

end Go.Proofs.Ytngnifemghahkaa
