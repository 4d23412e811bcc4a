import Derived.Test.YtpnbgdbkiokooaaDoorFlAll
/- A row gone round. -/
namespace Go.Proofs.YtpnbgdbkiokooaaDoor.Fl
open Go.RowKit Go.Sort Go.Proofs.YtpnbgdbkiokooaaDoor
set_option linter.unusedVariables false

theorem rot_get {ys : List ByteArray} {t : Int} {i : Nat} (hi : i < ys.length) : nthT (rot ys t) i = nthT ys ((plc t ys.length + i) % ys.length) := by
  have hp := plc_lt (t := t) (n := ys.length) (by omega)
  have hl : (ys.drop (plc t ys.length)).length = ys.length - plc t ys.length := List.length_drop
  by_cases h : i < ys.length - plc t ys.length
  · rw [Nat.mod_eq_of_lt (by omega), rot, nthT, List.getElem?_append_left (by omega), List.getElem?_drop]; rfl
  · have e : (plc t ys.length + i) % ys.length = i - (ys.length - plc t ys.length) := by
      rw [show plc t ys.length + i = (i - (ys.length - plc t ys.length)) + ys.length by omega, Nat.add_mod_right, Nat.mod_eq_of_lt (by omega)]
    rw [e, rot, nthT, List.getElem?_append_right (by omega), hl, List.getElem?_take, if_pos (by omega)]; rfl
theorem rot_len (ys : List ByteArray) (t : Int) : (rot ys t).length = ys.length := by rw [rot, List.length_append, List.length_drop, List.length_take]; omega
/-- the law's own reckoning of the place -/
theorem at_neg {t : Int} {n : Nat} (hn : 0 < n) (h : t.tmod (n : Int) < 0) : t.tmod (n : Int) + (n : Int) = ((plc t n : Nat) : Int) := by
  obtain ⟨h1, h2, h3⟩ := plc_is t hn
  rw [Int.tmod_eq_of_lt (by omega) (by omega)] at h1
  exact h1
theorem at_pos {t : Int} {n : Nat} (hn : 0 < n) (h : 0 ≤ t.tmod (n : Int)) : t.tmod (n : Int) = ((plc t n : Nat) : Int) := by
  obtain ⟨h1, h2, h3⟩ := plc_is t hn
  rw [Int.tmod_eq_emod_of_nonneg (by omega), Int.add_emod_right, Int.emod_eq_of_lt h h3] at h1
  exact h1

end Go.Proofs.YtpnbgdbkiokooaaDoor.Fl
