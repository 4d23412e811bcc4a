import Derived.Test.YtbgmbbmnnfmbpabQRefB
/- SameIDs, at lists that are the same. -/
namespace Go.Proofs.Ytbgmbbmnnfmbpab.Lk
open Go.RowKit Go.Sort
set_option linter.unusedVariables false

set_option maxRecDepth 8000 in
set_option maxHeartbeats 4000000 in
theorem sameids_is {w : World} {a a' : Option Addr} {c c' n : Nat} {D : List Ix} (hn : D.length = n) (ha : RowI w a D) (hb : RowI w a' D) (hl : n ≤ 9223372036854775806) :
    Calls Try.prog 21 #[.slice a n c, .slice a' n c'] w fun e w' => e = .returned (.bool true) ∧ Below w.heap.size w w' := by
  have HA := hid ha
  have HB' := hid hb
  have HN := hid hn
  clear ha hb hn
  go_enter Try.func21, Try.ntmps21
  go_wp2_with fail
  go_loopg [5] n (fun g s5 wr => ∃ i : Nat, i ≤ n ∧ g = n - i ∧ s5 = .int .i64 i ∧ Hid (Below w.heap.size w wr))
  case atStart => exact ⟨0, by omega, by omega, rfl, Below.refl _ _⟩
  case round =>
    obtain ⟨i, hi1, rfl, rfl, HB⟩ := hrel
    by_cases hlt : i < n
    · obtain ⟨b1, o1, rfl, hc1⟩ := HA.out i (by rw [HN.out]; exact hlt)
      obtain ⟨b2, o2, rfl, hc2⟩ := HB'.out i (by rw [HN.out]; exact hlt)
      obtain ⟨x, hx⟩ : ∃ x, x = D[i]?.getD (0, 0) := ⟨_, rfl⟩
      rw [← hx] at hc1 hc2
      have s0 := cell_regrown (cell_later HB.out (show w.cell? ⟨b1, o1 + i * 2, none⟩ = some (.int .u32 x.1) from hc1 0 _ rfl))
      have s1 := cell_regrown (cell_later HB.out (hc1 1 _ rfl))
      have t0 := cell_regrown (cell_later HB.out (show w.cell? ⟨b2, o2 + i * 2, none⟩ = some (.int .u32 x.1) from hc2 0 _ rfl))
      have t1 := cell_regrown (cell_later HB.out (hc2 1 _ rfl))
      have hi2 : (i : Int) < (n : Int) := by omega
      clear hc1 hc2 hx
      go_wp2_with fail
      refine wp_region_quiet_below (by kernel_rfl) (by kernel_rfl) ?_
      repeat (go_big_quiet_step (fail))
      refine wpQuiet_nil ?_
      intro wn hwn
      replace hwn := below_of_regrown hwn
      have HBN : Hid (Below w.heap.size w wn) := Below.on HB.out hwn
      clear s0 s1 t0 t1
      go_wp2_with fail
      go_roundg (n - (i + 1))
      case measure => omega
      case rel => exact ⟨i + 1, by omega, rfl, by go_num, HBN⟩
    · obtain rfl : i = n := by omega
      go_wp2_with fail
      go_ret
      exact ⟨rfl, HB.out⟩
end Go.Proofs.Ytbgmbbmnnfmbpab.Lk
