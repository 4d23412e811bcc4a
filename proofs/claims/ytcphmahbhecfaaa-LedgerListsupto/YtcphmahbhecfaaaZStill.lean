import Derived.Test.YtcphmahbhecfaaaZEnt
import Derived.Test.YtcphmahbhecfaaaZGrow
/- still (written by mk_zent.py). -/
namespace Go.Proofs.Ytcphmahbhecfaaa.Lg
open Go.RowKit Go.Sort Go.Shelf Go.Lib Lk
set_option linter.unusedVariables false

set_option maxHeartbeats 4000000 in
theorem still_is {w : World} {a : Option Addr} {n c : Nat} {l : List En2} (h : RowW2 w a l) (hn : l.length = n) (he : ∀ e ∈ l, Ent w e) (hl : n ≤ 20000000) :
    Calls Try.prog 8 #[.slice a n c] w fun e w' => e = .returned (.bool true) ∧ Below w.heap.size w w' := by
  have HR := hid h
  have HE := hid he
  have HN := hid hn
  clear h he hn
  go_enter Try.func8, Try.ntmps8
  go_wp2_with fail
  go_loopg [6] n (fun g s6 wr => ∃ k : Nat, k ≤ n ∧ g = n - k ∧ s6 = .int .i64 k ∧ Hid (Below w.heap.size w wr))
  case atStart => exact ⟨0, by omega, by omega, rfl, Below.refl _ _⟩
  case round =>
    obtain ⟨k, hk, rfl, rfl, HB⟩ := hrel
    by_cases hlt : k < n
    · have hlt' : k < l.length := by rw [HN.out]; exact hlt
      obtain ⟨b, eb, d0, d1⟩ := HR.out k hlt'
      subst eb
      have hk1 : (k : Int) < (n : Int) := by omega
      have d0 := cell_later HB.out d0
      have d1 := cell_later HB.out d1
      obtain ⟨T, hT, o1, o2⟩ := (HE.out _ (nthW2_mem hlt')).later HB.out
      obtain ⟨a1, c1, e1, _⟩ := OwnE.slice o1
      obtain ⟨a2, c2, e2, _⟩ := OwnE.slice o2
      rw [e1] at d0 o1
      rw [e2] at d1 o2
      have SM : Hid (∀ W', Below wr.heap.size wr W' → Calls Try.prog 15 #[.slice a1 T.length c1, .slice a2 T.length c2] W' fun e w' => e = .returned (.bool true) ∧ Below W'.heap.size W' w') := fun W' hb =>
        sameEntries_is (RowC.later (own_row o1 rfl) hb) (RowC.later (own_row o2 rfl) hb) rfl (by omega)
      clear e1 e2 o1 o2 hT hlt'
      have q0 := cell_regrown d0
      have q1 := cell_regrown d1
      clear d0 d1
      go_wp2_with fail
      refine wp_region_quiet_below (by kernel_rfl) (by kernel_rfl) ?_
      repeat (go_big_quiet_step (((go_at_call 15; exact Calls.regrown_of (SM.out _ (below_regrown _ _ _))))))
      refine wpQuiet_nil ?_
      intro w3 hww3
      replace hww3 := below_of_regrown hww3
      go_wp2_with fail
      go_roundg (n - (k + 1))
      case measure => omega
      case rel => exact ⟨k + 1, by omega, rfl, by go_num, Below.on HB.out hww3⟩
    · obtain rfl : k = n := by omega
      clear hlt
      go_wp2_with fail
      go_ret
      exact ⟨rfl, HB.out⟩
end Go.Proofs.Ytcphmahbhecfaaa.Lg
