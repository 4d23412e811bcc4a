import Derived.Test.YtdllhkjdckcgmaaDoorLEnt
namespace Go.Proofs.YtdllhkjdckcgmaaDoor
open Go.RowKit Go.Sort
set_option linter.unusedVariables false

set_option maxHeartbeats 4000000 in
theorem still_is {w : World} {a : Option Addr} {c : Nat} {l : List En2} (h : RowW2 w a l) (he : ∀ e ∈ l, Ent w e) (hl : l.length ≤ 1000000) :
    Calls Tryd.prog 15 #[.slice a l.length c] w fun e w' => e = .returned (.bool true) ∧ Below w.heap.size w w' := by
  have HR := hid h
  have HE := hid he
  clear h he
  go_enter Tryd.func15, Tryd.ntmps15
  go_wp2_with fail
  go_loopg [6] l.length (fun g s6 wr => ∃ k : Nat, k ≤ l.length ∧ g = l.length - k ∧ s6 = .int .i64 k ∧ Hid (Below w.heap.size w wr))
  case atStart => exact ⟨0, by omega, by omega, rfl, Below.refl _ _⟩
  case round =>
    obtain ⟨k, hk, rfl, rfl, HB⟩ := hrel
    by_cases hlt : k < l.length
    · obtain ⟨b, rfl, d0, d1⟩ := HR.out k hlt
      have d0 := cell_later HB.out d0
      have d1 := cell_later HB.out d1
      obtain ⟨T, hT, o1, o2⟩ := (HE.out _ (nthW2_mem hlt)).later HB.out
      obtain ⟨a1, c1, e1, r1⟩ := rowT_of_owns o1
      obtain ⟨a2, c2, e2, r2⟩ := rowT_of_owns o2
      rw [e1] at d0
      rw [e2] at d1
      have SM : Hid (∀ W', Below wr.heap.size wr W' → Calls Tryd.prog 11 #[.slice a1 T.length c1, .slice a2 T.length c2] W' fun e w' => e = .returned (.bool true) ∧ Below W'.heap.size W' w') := fun W' hb =>
        (same_is (decide_eq_true rfl) (r1.later hb) (r2.later hb) (by omega)).mono fun e w' ⟨he, hb'⟩ => ⟨he, hb'⟩
      clear e1 e2 r1 r2 o1 o2 hT
      have q0 := cell_regrown d0
      have q1 := cell_regrown d1
      clear d0 d1
      go_wp2_with fail
      refine wp_region_quiet_below (by kernel_rfl) (by kernel_rfl) ?_
      repeat (go_big_quiet_step (((go_at_call 11; exact Calls.regrown_of (SM.out _ (below_regrown _ _ _))))))
      refine wpQuiet_nil ?_
      intro w3 hww3
      replace hww3 := below_of_regrown hww3
      go_wp2_with fail
      go_roundg (l.length - (k + 1))
      case measure => omega
      case rel => exact ⟨k + 1, by omega, rfl, by go_num, Below.on HB.out hww3⟩
    · obtain rfl : k = l.length := by omega
      clear hlt
      go_wp2_with fail
      go_ret
      exact ⟨rfl, HB.out⟩

end Go.Proofs.YtdllhkjdckcgmaaDoor
