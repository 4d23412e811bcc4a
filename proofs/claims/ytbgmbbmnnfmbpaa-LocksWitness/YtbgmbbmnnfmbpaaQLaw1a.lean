import Derived.Test.YtbgmbbmnnfmbpaaQOrd
import Derived.Lib.QuietBelow
import Derived.Deep.RegionHeld3
/- LocksInside, LocksOverlap, LocksWitness: the walks. -/
namespace Go.Proofs.Ytbgmbbmnnfmbpaa.Lk
open Go.RowKit Go.Sort
set_option linter.unusedVariables false

set_option maxHeartbeats 2000000 in
theorem law_inside {k lo hi : ByteArray} (hk : k.size < 9223372036854775807) (w : World) :
    Calls Try.prog 3 #[.agg #[.string k, .string lo, .string hi]] w fun e w' => e = .returned (.bool true) ∧ Below w.heap.size w w' := by
  obtain ⟨u, hu⟩ : ∃ u, insB k (lo, hi) = u := ⟨_, rfl⟩
  have HU := hid hu
  clear hu
  have H1 : Hid (insB k (k, zb k) = true) := ins_point k
  have H2 : Hid (insB (zb k) (k, zb k) = false) := ins_next k
  obtain ⟨k0, hk0⟩ : ∃ k0, k ++ ⟨#[0]⟩ = k0 := ⟨_, rfl⟩
  rw [zb, hk0] at H1 H2
  have hlen : (9223372036854775807 < k.size + 1) = False := by simp; omega
  go_enter Try.func3, Try.ntmps3
  go_wp2_with fail
  refine (inside_is (s := (k, k0)) H1.out _).mono ?_
  rintro e w' ⟨rfl, hw⟩
  have hb : Below w.heap.size w w' := by (repeat (first | exact Below.refl _ _ | assumption | refine Below.drew ?_ | refine Below.al ?_ _ | refine Below.setCell ?_ (by first | exact Nat.le_refl _ | (simp; omega) | (simp; done)) _ | refine Below.on ?_ (by assumption)))
  have b0 : w'.cell? ⟨w.heap.size, 0, none⟩ = some (.string k) := cell_later hw (by simp [go_sem])
  have b1 : w'.cell? ⟨w.heap.size, 1, none⟩ = some (.string lo) := cell_later hw (by simp [go_sem])
  have b2 : w'.cell? ⟨w.heap.size, 2, none⟩ = some (.string hi) := cell_later hw (by simp [go_sem])
  have p0 : w'.cell? ⟨w.heap.size + 1, 0, none⟩ = some (.string k) := cell_later hw (by simp [go_sem])
  have p1 : w'.cell? ⟨w.heap.size + 1, 1, none⟩ = some (.string k0) := cell_later hw (by simp [go_sem])
  clear hw
  go_wp2_with fail
  refine (inside_is (s := (k, k0)) H2.out _).mono ?_
  rintro e w' ⟨rfl, hw⟩
  replace hb : Below w.heap.size w w' := Below.on hb hw
  replace b0 := cell_later hw b0
  replace b1 := cell_later hw b1
  replace b2 := cell_later hw b2
  replace p0 := cell_later hw p0
  replace p1 := cell_later hw p1
  clear hw
  have q0 := cell_regrown b0
  have q1 := cell_regrown b1
  have q2 := cell_regrown b2
  have C1 := hid (fun W => inside_is (s := (lo, hi)) HU.out W)
  have C2 := hid (fun W => refinside_is (s := (lo, hi)) HU.out W)
  go_wp2_with fail
  refine wp_region_quiet_below (by kernel_rfl) (by kernel_rfl) ?_
  repeat (go_big_quiet_step ((first | (go_at_call 9; exact Calls.regrown_of (C1.out _)) | (go_at_call 10; exact Calls.regrown_of (C2.out _)))))
  refine wpQuiet_nil ?_
  intro wn hwn
  replace hwn := below_of_regrown hwn
  go_wp2_with fail
  go_ret
  exact ⟨by simp, Below.on hb hwn⟩

end Go.Proofs.Ytbgmbbmnnfmbpaa.Lk
