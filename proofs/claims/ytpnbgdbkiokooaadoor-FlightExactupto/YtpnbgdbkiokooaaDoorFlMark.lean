import Derived.Test.YtpnbgdbkiokooaaDoorFlRow
import Derived.Test.YtpnbgdbkiokooaaDoorShelfI
import Derived.Lib.ItoaMem
import Derived.Lib.ItoaLen
import Derived.Lib.SmallJoins
import Derived.Laws.IdiomStrings
/- The law's marks. -/
namespace Go.Proofs.YtpnbgdbkiokooaaDoor.Fl
open Go.RowKit Go.Sort Go.Proofs.YtpnbgdbkiokooaaDoor
set_option linter.unusedVariables false

abbrev PowTab (w : World) : Prop := Lib.TabIs Tryd.prog w "internal/strconv.uint64pow10" .u64 Lib.pow10Tab
theorem gPow : Tryd.prog.globalNamed "internal/strconv.uint64pow10" = some 0 := by kernel_rfl
theorem PowTab.later {w w' : World} (h : PowTab w) (hb : Below w.heap.size w w') : PowTab w' := Joins.tab_stays gPow h hb (Nat.le_refl _)
def itoaB (i : Int) : ByteArray := ⟨(Lib.itoa i).toArray⟩
theorem itoaB_size {i : Int} (h0 : -4611686018427387904 ≤ i) (hi : i ≤ 4611686018427387904) : (itoaB i).size ≤ 40 := by
  show (Lib.itoa i).length ≤ 40
  unfold Lib.itoa
  by_cases h : i < 0
  · rw [if_pos h, List.length_cons, Lib.decDigits_length]
    have := Lib.nDigits_le20 i.natAbs (by omega)
    omega
  · rw [if_neg h, Lib.decDigits_length]
    have := Lib.nDigits_le20 i.toNat (by omega)
    omega
theorem itoa_is {i : Int} (h0 : -4611686018427387904 ≤ i) (hi : i ≤ 4611686018427387904) (w : World) (ht : PowTab w) :
    Calls Tryd.prog 34 #[.int .i64 i] w fun e w' => e = .returned (.string (itoaB i)) ∧ Below w.heap.size w w' := by
  refine (Tryd.strconv_Itoa i (by omega) (by omega) w ht).mono ?_
  rintro e w' ⟨rfl, k, os, rfl⟩
  exact ⟨rfl, rfl, rfl, rfl, by simp [grow], fun j hj => by simp [grow, Array.getElem?_append, hj]⟩
def markB (i j : Int) : ByteArray := (⟨#[35]⟩ ++ itoaB i ++ ⟨#[46]⟩ : ByteArray) ++ itoaB j
set_option maxHeartbeats 400000 in
theorem mark_is {i j : Int} (hi : -4611686018427387904 ≤ i ∧ i ≤ 4611686018427387904) (hj : -4611686018427387904 ≤ j ∧ j ≤ 4611686018427387904) (w : World) (ht : PowTab w) :
    Calls Tryd.prog 17 #[.int .i64 i, .int .i64 j] w fun e w' => e = .returned (.string (markB i j)) ∧ Below w.heap.size w w' := by
  have HT := hid ht
  have z1 := itoaB_size hi.1 hi.2
  have z2 := itoaB_size hj.1 hj.2
  have HM : Hid (markB i j = (⟨#[35]⟩ ++ itoaB i ++ ⟨#[46]⟩ : ByteArray) ++ itoaB j) := rfl
  generalize markB i j = mm at HM
  have C1 := hid (itoa_is hi.1 hi.2 w ht)
  have C2 : Hid (∀ w1, Below w.heap.size w w1 → Calls Tryd.prog 34 #[.int .i64 j] w1 fun e w' => e = .returned (.string (itoaB j)) ∧ Below w1.heap.size w1 w') := fun w1 hb => itoa_is hj.1 hj.2 w1 (ht.later hb)
  generalize itoaB i = s1 at z1 HM C1
  generalize itoaB j = s2 at z2 HM C2
  clear ht
  have k1 : (9223372036854775807 < 1 + s1.size) = False := by simp; omega
  have k2 : (9223372036854775807 < 1 + s1.size + 1) = False := by simp; omega
  have k3 : (9223372036854775807 < 1 + s1.size + 1 + s2.size) = False := by simp; omega
  go_enter Tryd.func17, Tryd.ntmps17
  go_wp2_with fail
  refine C1.out.mono ?_
  rintro e w1 ⟨rfl, hb1⟩
  have HB1 := hid hb1
  clear hb1
  go_wp2_with fail
  refine (C2.out w1 HB1.out).mono ?_
  rintro e w2 ⟨rfl, hb2⟩
  have HB2 := hid (Below.on HB1.out hb2)
  clear hb2
  go_wp2_with fail
  go_ret
  exact ⟨by rw [HM.out]; rfl, HB2.out⟩
end Go.Proofs.YtpnbgdbkiokooaaDoor.Fl
