import Derived.Test.YtoejdjiclgjgkaaDoorMBase
namespace Go.Proofs.YtoejdjiclgjgkaaDoor
open Go.RowKit Go.Sort
set_option linter.unusedVariables false

set_option maxHeartbeats 1000000 in
theorem equalR_self {a : Option Addr} {c c' : Nat} {xs : List T2} {w : World} (h : Row2 w a xs) (hl : xs.length ≤ 9223372036854775807) :
    Calls Tryd.prog 32 #[.slice a xs.length c, .slice a xs.length c'] w fun e w' => e = .returned (.bool true) ∧ Below w.heap.size w w' := by
  have hn : ((xs.length : Int) != (xs.length : Int)) = false := by simp
  go_enter Tryd.func32, Tryd.ntmps32
  go_wp2_with fail
  go_loopg [13] xs.length (fun g s13 wr => ∃ k : Nat, k ≤ xs.length ∧ g = xs.length - k ∧ s13 = .int .i64 k ∧ Below w.heap.size w wr)
  case atStart => exact ⟨0, by omega, by omega, rfl, Below.refl _ _⟩
  case round =>
    obtain ⟨k, hk, rfl, rfl, hb⟩ := hrel
    by_cases hlt : k < xs.length
    · obtain ⟨b, off, rfl, c0, c1⟩ := (h.later hb) k hlt
      obtain ⟨x, hx⟩ : ∃ x, x = nth2 xs k := ⟨_, rfl⟩
      rw [← hx] at c0 c1
      have kc0 := cell_regrown c0; have kc1 := cell_regrown c1
      have hne : ∀ w, (binOp .neq 51 (.agg #[.string x.1, .string x.2]) (.agg #[.string x.1, .string x.2])).run Tryd.prog w = .ok (.bool false) w := fun w => run_neSpan x w
      clear hx h
      go_wp2_with fail
      refine wp_region_quiet_below (by kernel_rfl) (by kernel_rfl) ?_
      repeat (go_big_quiet_step (fail))
      refine wpQuiet_nil ?_
      intro w1 hw
      replace hw := below_of_regrown hw
      replace hb := Below.on hb hw
      clear hw kc0 kc1
      go_wp2_with fail
      go_roundg (xs.length - (k + 1))
      case measure => omega
      case rel => exact ⟨k + 1, by omega, rfl, by go_num, hb⟩
    · obtain rfl : k = xs.length := by omega
      go_wp2_with fail
      go_ret
      exact ⟨rfl, hb⟩
set_option maxHeartbeats 1000000 in
theorem equalR_nil {a : Option Addr} {c : Nat} {n : Nat} {w : World} {u : Bool} (hu : decide (n = 0) = u) (hl : n ≤ 9223372036854775807) :
    Calls Tryd.prog 32 #[.slice a n c, .slice none 0 0] w fun e w' => e = .returned (.bool u) ∧ Below w.heap.size w w' := by
  cases u
  · have hn : ¬ n = 0 := by simpa using hu
    have hn' : ((n : Int) != 0) = true := by simpa using hn
    clear hu
    go_enter Tryd.func32, Tryd.ntmps32
    go_wp2_with fail
    go_ret
    exact ⟨rfl, by (repeat (first | exact Below.refl _ _ | assumption | refine Below.drew ?_ | refine Below.al ?_ _ | refine Below.setCell ?_ (by first | exact Nat.le_refl _ | (simp; omega) | (simp; done)) _ | refine Below.on ?_ (by assumption)))⟩
  · have hn : n = 0 := by simpa using hu
    subst hn
    clear hu
    go_enter Tryd.func32, Tryd.ntmps32
    go_wp2_with fail
    go_rounds 1
    go_ret
    exact ⟨rfl, by (repeat (first | exact Below.refl _ _ | assumption | refine Below.drew ?_ | refine Below.al ?_ _ | refine Below.setCell ?_ (by first | exact Nat.le_refl _ | (simp; omega) | (simp; done)) _ | refine Below.on ?_ (by assumption)))⟩
theorem equalR_any {a a' : Option Addr} {c c' : Nat} {xs ys : List T2} {w : World} {u : Bool} (hu : decide (xs.length = ys.length) = u) (hs : (a' = a ∧ ys = xs) ∨ (a' = none ∧ ys = [] ∧ c' = 0)) (h : Row2 w a xs) (hl : xs.length ≤ 9223372036854775807) :
    Calls Tryd.prog 32 #[.slice a xs.length c, .slice a' ys.length c'] w fun e w' => e = .returned (.bool u) ∧ Below w.heap.size w w' := by
  rcases hs with ⟨rfl, rfl⟩ | ⟨rfl, rfl, rfl⟩
  · rw [decide_eq_true rfl] at hu
    subst hu
    exact equalR_self h hl
  · exact equalR_nil hu hl

set_option maxHeartbeats 1000000 in
theorem equalP_self {a : Option Addr} {c c' : Nat} {xs : List T2} {w : World} (h : Row2 w a xs) (hl : xs.length ≤ 9223372036854775807) :
    Calls Tryd.prog 34 #[.slice a xs.length c, .slice a xs.length c'] w fun e w' => e = .returned (.bool true) ∧ Below w.heap.size w w' := by
  have hn : ((xs.length : Int) != (xs.length : Int)) = false := by simp
  go_enter Tryd.func34, Tryd.ntmps34
  go_wp2_with fail
  go_loopg [13] xs.length (fun g s13 wr => ∃ k : Nat, k ≤ xs.length ∧ g = xs.length - k ∧ s13 = .int .i64 k ∧ Below w.heap.size w wr)
  case atStart => exact ⟨0, by omega, by omega, rfl, Below.refl _ _⟩
  case round =>
    obtain ⟨k, hk, rfl, rfl, hb⟩ := hrel
    by_cases hlt : k < xs.length
    · obtain ⟨b, off, rfl, c0, c1⟩ := (h.later hb) k hlt
      obtain ⟨x, hx⟩ : ∃ x, x = nth2 xs k := ⟨_, rfl⟩
      rw [← hx] at c0 c1
      have kc0 := cell_regrown c0; have kc1 := cell_regrown c1
      have hne : ∀ w, (binOp .neq 55 (.agg #[.string x.1, .string x.2]) (.agg #[.string x.1, .string x.2])).run Tryd.prog w = .ok (.bool false) w := fun w => run_nePair x w
      clear hx h
      go_wp2_with fail
      refine wp_region_quiet_below (by kernel_rfl) (by kernel_rfl) ?_
      repeat (go_big_quiet_step (fail))
      refine wpQuiet_nil ?_
      intro w1 hw
      replace hw := below_of_regrown hw
      replace hb := Below.on hb hw
      clear hw kc0 kc1
      go_wp2_with fail
      go_roundg (xs.length - (k + 1))
      case measure => omega
      case rel => exact ⟨k + 1, by omega, rfl, by go_num, hb⟩
    · obtain rfl : k = xs.length := by omega
      go_wp2_with fail
      go_ret
      exact ⟨rfl, hb⟩
set_option maxHeartbeats 1000000 in
theorem equalP_nil {a : Option Addr} {c : Nat} {n : Nat} {w : World} {u : Bool} (hu : decide (n = 0) = u) (hl : n ≤ 9223372036854775807) :
    Calls Tryd.prog 34 #[.slice a n c, .slice none 0 0] w fun e w' => e = .returned (.bool u) ∧ Below w.heap.size w w' := by
  cases u
  · have hn : ¬ n = 0 := by simpa using hu
    have hn' : ((n : Int) != 0) = true := by simpa using hn
    clear hu
    go_enter Tryd.func34, Tryd.ntmps34
    go_wp2_with fail
    go_ret
    exact ⟨rfl, by (repeat (first | exact Below.refl _ _ | assumption | refine Below.drew ?_ | refine Below.al ?_ _ | refine Below.setCell ?_ (by first | exact Nat.le_refl _ | (simp; omega) | (simp; done)) _ | refine Below.on ?_ (by assumption)))⟩
  · have hn : n = 0 := by simpa using hu
    subst hn
    clear hu
    go_enter Tryd.func34, Tryd.ntmps34
    go_wp2_with fail
    go_rounds 1
    go_ret
    exact ⟨rfl, by (repeat (first | exact Below.refl _ _ | assumption | refine Below.drew ?_ | refine Below.al ?_ _ | refine Below.setCell ?_ (by first | exact Nat.le_refl _ | (simp; omega) | (simp; done)) _ | refine Below.on ?_ (by assumption)))⟩
theorem equalP_any {a a' : Option Addr} {c c' : Nat} {xs ys : List T2} {w : World} {u : Bool} (hu : decide (xs.length = ys.length) = u) (hs : (a' = a ∧ ys = xs) ∨ (a' = none ∧ ys = [] ∧ c' = 0)) (h : Row2 w a xs) (hl : xs.length ≤ 9223372036854775807) :
    Calls Tryd.prog 34 #[.slice a xs.length c, .slice a' ys.length c'] w fun e w' => e = .returned (.bool u) ∧ Below w.heap.size w w' := by
  rcases hs with ⟨rfl, rfl⟩ | ⟨rfl, rfl, rfl⟩
  · rw [decide_eq_true rfl] at hu
    subst hu
    exact equalP_self h hl
  · exact equalP_nil hu hl

set_option maxHeartbeats 1000000 in
theorem equalW_self {a : Option Addr} {c c' : Nat} {xs : List Wr} {w : World} (h : RowW w a xs) (hl : xs.length ≤ 9223372036854775807) :
    Calls Tryd.prog 33 #[.slice a xs.length c, .slice a xs.length c'] w fun e w' => e = .returned (.bool true) ∧ Below w.heap.size w w' := by
  have hn : ((xs.length : Int) != (xs.length : Int)) = false := by simp
  go_enter Tryd.func33, Tryd.ntmps33
  go_wp2_with fail
  go_loopg [13] xs.length (fun g s13 wr => ∃ k : Nat, k ≤ xs.length ∧ g = xs.length - k ∧ s13 = .int .i64 k ∧ Below w.heap.size w wr)
  case atStart => exact ⟨0, by omega, by omega, rfl, Below.refl _ _⟩
  case round =>
    obtain ⟨k, hk, rfl, rfl, hb⟩ := hrel
    by_cases hlt : k < xs.length
    · obtain ⟨b, off, rfl, c0, c1, c2⟩ := (h.later hb) k hlt
      obtain ⟨x, hx⟩ : ∃ x, x = nthW xs k := ⟨_, rfl⟩
      rw [← hx] at c0 c1 c2
      have kc0 := cell_regrown c0; have kc1 := cell_regrown c1; have kc2 := cell_regrown c2
      have hne : ∀ w, (binOp .neq 53 (.agg #[.string x.key, .bool x.del, .string x.val]) (.agg #[.string x.key, .bool x.del, .string x.val])).run Tryd.prog w = .ok (.bool false) w := fun w => run_neWrite x w
      clear hx h
      go_wp2_with fail
      refine wp_region_quiet_below (by kernel_rfl) (by kernel_rfl) ?_
      repeat (go_big_quiet_step (fail))
      refine wpQuiet_nil ?_
      intro w1 hw
      replace hw := below_of_regrown hw
      replace hb := Below.on hb hw
      clear hw kc0 kc1 kc2
      go_wp2_with fail
      go_roundg (xs.length - (k + 1))
      case measure => omega
      case rel => exact ⟨k + 1, by omega, rfl, by go_num, hb⟩
    · obtain rfl : k = xs.length := by omega
      go_wp2_with fail
      go_ret
      exact ⟨rfl, hb⟩
set_option maxHeartbeats 1000000 in
theorem equalW_nil {a : Option Addr} {c : Nat} {n : Nat} {w : World} {u : Bool} (hu : decide (n = 0) = u) (hl : n ≤ 9223372036854775807) :
    Calls Tryd.prog 33 #[.slice a n c, .slice none 0 0] w fun e w' => e = .returned (.bool u) ∧ Below w.heap.size w w' := by
  cases u
  · have hn : ¬ n = 0 := by simpa using hu
    have hn' : ((n : Int) != 0) = true := by simpa using hn
    clear hu
    go_enter Tryd.func33, Tryd.ntmps33
    go_wp2_with fail
    go_ret
    exact ⟨rfl, by (repeat (first | exact Below.refl _ _ | assumption | refine Below.drew ?_ | refine Below.al ?_ _ | refine Below.setCell ?_ (by first | exact Nat.le_refl _ | (simp; omega) | (simp; done)) _ | refine Below.on ?_ (by assumption)))⟩
  · have hn : n = 0 := by simpa using hu
    subst hn
    clear hu
    go_enter Tryd.func33, Tryd.ntmps33
    go_wp2_with fail
    go_rounds 1
    go_ret
    exact ⟨rfl, by (repeat (first | exact Below.refl _ _ | assumption | refine Below.drew ?_ | refine Below.al ?_ _ | refine Below.setCell ?_ (by first | exact Nat.le_refl _ | (simp; omega) | (simp; done)) _ | refine Below.on ?_ (by assumption)))⟩
theorem equalW_any {a a' : Option Addr} {c c' : Nat} {xs ys : List Wr} {w : World} {u : Bool} (hu : decide (xs.length = ys.length) = u) (hs : (a' = a ∧ ys = xs) ∨ (a' = none ∧ ys = [] ∧ c' = 0)) (h : RowW w a xs) (hl : xs.length ≤ 9223372036854775807) :
    Calls Tryd.prog 33 #[.slice a xs.length c, .slice a' ys.length c'] w fun e w' => e = .returned (.bool u) ∧ Below w.heap.size w w' := by
  rcases hs with ⟨rfl, rfl⟩ | ⟨rfl, rfl, rfl⟩
  · rw [decide_eq_true rfl] at hu
    subst hu
    exact equalW_self h hl
  · exact equalW_nil hu hl

end Go.Proofs.YtoejdjiclgjgkaaDoor
