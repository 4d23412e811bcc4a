import Derived.Test.YtbgmbbmnnfmbpaaQOrd
import Derived.Lib.QuietBelow
import Derived.Deep.RegionHeld3
/- LocksInside, LocksOverlap, LocksWitness: the walks. -/
namespace Go.Proofs.Ytbgmbbmnnfmbpaa.Lk
open Go.RowKit Go.Sort
set_option linter.unusedVariables false

set_option maxHeartbeats 2000000 in
theorem law_overlap {al ah bl bh k : ByteArray} (w : World) :
    Calls Try.prog 5 #[.agg #[.string al, .string ah, .string bl, .string bh, .string k]] w fun e w' => e = .returned (.bool true) ∧ Below w.heap.size w w' := by
  obtain ⟨u, hu⟩ : ∃ u, overB (al, ah) (bl, bh) = u := ⟨_, rfl⟩
  have HU := hid hu
  have HV : Hid (overB (bl, bh) (al, ah) = u) := by show _ = _; rw [over_comm, hu]
  clear hu
  have H1 := hid (over_all k)
  go_enter Try.func5, Try.ntmps5
  go_wp2_with fail
  refine (overlap_is (a := (k, ⟨#[]⟩)) (b := (⟨#[]⟩, ⟨#[]⟩)) H1.out _).mono ?_
  rintro e w' ⟨rfl, hw⟩
  have hb : Below w.heap.size w w' := by (repeat (first | exact Below.refl _ _ | assumption | refine Below.drew ?_ | refine Below.al ?_ _ | refine Below.setCell ?_ (by first | exact Nat.le_refl _ | (simp; omega) | (simp; done)) _ | refine Below.on ?_ (by assumption)))
  have b0 : w'.cell? ⟨w.heap.size, 0, none⟩ = some (.string al) := cell_later hw (by simp [go_sem])
  have b1 : w'.cell? ⟨w.heap.size, 1, none⟩ = some (.string ah) := cell_later hw (by simp [go_sem])
  have b2 : w'.cell? ⟨w.heap.size, 2, none⟩ = some (.string bl) := cell_later hw (by simp [go_sem])
  have b3 : w'.cell? ⟨w.heap.size, 3, none⟩ = some (.string bh) := cell_later hw (by simp [go_sem])
  have b4 : w'.cell? ⟨w.heap.size, 4, none⟩ = some (.string k) := cell_later hw (by simp [go_sem])
  clear hw
  go_wp2_with fail
  refine (refoverlap_is (a := (al, ah)) (b := (bl, bh)) HU.out _).mono ?_
  rintro e w' ⟨rfl, hw⟩
  replace hb : Below w.heap.size w w' := Below.on hb hw
  replace b0 := cell_later hw b0
  replace b1 := cell_later hw b1
  replace b2 := cell_later hw b2
  replace b3 := cell_later hw b3
  replace b4 := cell_later hw b4
  clear hw
  go_wp2_with fail
  refine (overlap_is (a := (al, ah)) (b := (bl, bh)) HU.out _).mono ?_
  rintro e w' ⟨rfl, hw⟩
  replace hb : Below w.heap.size w w' := Below.on hb hw
  replace b0 := cell_later hw b0
  replace b1 := cell_later hw b1
  replace b2 := cell_later hw b2
  replace b3 := cell_later hw b3
  replace b4 := cell_later hw b4
  clear hw
  cases u
  all_goals
    go_wp2_with fail
    refine (overlap_is (a := (bl, bh)) (b := (al, ah)) HV.out _).mono ?_
    rintro e w' ⟨rfl, hw⟩
    go_wp2_with fail
    go_ret
    exact ⟨rfl, Below.on hb hw⟩

end Go.Proofs.Ytbgmbbmnnfmbpaa.Lk
