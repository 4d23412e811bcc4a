import Derived.Test.YtchfoipkaookmabDoorBase0
import Derived.Test.YtchfoipkaookmabDoorShelf
import Derived.Lib.ItoaMem
import Derived.Lib.ItoaLen
import Derived.Lib.SmallJoins
import Derived.Laws.IdiomStrings
namespace Go.Proofs.YtchfoipkaookmabDoor
open Go.RowKit Go.Sort
set_option linter.unusedVariables false

abbrev PowTab (w : World) : Prop := Lib.TabIs Tryd.prog w "internal/strconv.uint64pow10" .u64 Lib.pow10Tab
theorem gPow : Tryd.prog.globalNamed "internal/strconv.uint64pow10" = some 0 := by kernel_rfl
theorem PowTab.later {w w' : World} (h : PowTab w) (hb : Below w.heap.size w w') : PowTab w' := Joins.tab_stays gPow h hb (Nat.le_refl _)

theorem itoa_any (i : Nat) (hi : i ≤ 4611686018427387904) (w : World) (ht : PowTab w) :
    Calls Tryd.prog 51 #[.int .i64 (i : Int)] w fun e w' => ∃ s, e = .returned (.string s) ∧ s.size ≤ 20 ∧ Below w.heap.size w w' := by
  refine (Tryd.strconv_Itoa i (by omega) (by omega) w ht).mono ?_
  rintro e w' ⟨rfl, k, os, rfl⟩
  refine ⟨_, rfl, ?_, ?_⟩
  · show (Lib.itoa (i : Int)).length ≤ 20
    unfold Lib.itoa
    rw [if_neg (by omega), Lib.decDigits_length]
    exact Lib.nDigits_le20 _ (by omega)
  · exact ⟨rfl, rfl, rfl, by simp [grow], fun j hj => by simp [grow, Array.getElem?_append, hj]⟩

set_option maxHeartbeats 400000 in
theorem mark_any (i : Nat) (hi : i ≤ 4611686018427387904) (w : World) (ht : PowTab w) :
    Calls Tryd.prog 47 #[.int .i64 0, .int .i64 (i : Int)] w fun e w' => ∃ s, e = .returned (.string s) ∧ Below w.heap.size w w' := by
  have HT := hid ht
  clear ht
  go_enter Tryd.func47, Tryd.ntmps47
  go_wp2_with fail
  refine (itoa_any 0 (by omega) w HT.out).mono ?_
  rintro e w1 ⟨s1, rfl, hs1, hb1⟩
  have HB1 := hid hb1
  have k1 : (9223372036854775807 < 1 + s1.size) = False := by simp; omega
  have k2 : (9223372036854775807 < 1 + s1.size + 1) = False := by simp; omega
  clear hb1
  go_wp2_with fail
  refine (itoa_any i hi w1 (HT.out.later HB1.out)).mono ?_
  rintro e w2 ⟨s2, rfl, hs2, hb2⟩
  have HB2 := hid hb2
  have k3 : (9223372036854775807 < 1 + s1.size + 1 + s2.size) = False := by simp; omega
  clear hb2
  go_wp2_with fail
  go_ret
  exact ⟨_, rfl, Below.on HB1.out HB2.out⟩

end Go.Proofs.YtchfoipkaookmabDoor
