import Derived.Test.YtfkiccdjffhhhaaGreatDoorBase0
import Derived.Test.YtfkiccdjffhhhaaGreatDoorShelf
import Derived.Lib.ItoaMem
import Derived.Lib.ItoaLen
import Derived.Lib.SmallJoins
import Derived.Laws.IdiomStrings
namespace Go.Proofs.YtfkiccdjffhhhaaGreatDoor
open Go.RowKit Go.Sort
set_option linter.unusedVariables false

abbrev PowTab (w : World) : Prop := Lib.TabIs Tryz.prog w "internal/strconv.uint64pow10" .u64 Lib.pow10Tab
theorem gPow : Tryz.prog.globalNamed "internal/strconv.uint64pow10" = some 3 := by kernel_rfl
theorem PowTab.later {w w' : World} (h : PowTab w) (hb : Below w.heap.size w w') : PowTab w' := Joins.tab_stays gPow h hb (Nat.le_refl _)
/-- the digits of a number, minus one among them -/
theorem itoa_any (i : Int) (h0 : -1 ≤ i) (hi : i ≤ 4611686018427387904) (w : World) (ht : PowTab w) :
    Calls Tryz.prog 12 #[.int .i64 i] w fun e w' => ∃ s, e = .returned (.string s) ∧ s.size ≤ 40 ∧ Below w.heap.size w w' := by
  refine (Tryz.strconv_Itoa i (by omega) (by omega) w ht).mono ?_
  rintro e w' ⟨rfl, k, os, rfl⟩
  refine ⟨_, rfl, ?_, ?_⟩
  · show (Lib.itoa i).length ≤ 40
    unfold Lib.itoa
    by_cases h : i < 0
    · rw [if_pos h, List.length_cons, Lib.decDigits_length]
      have := Lib.nDigits_le20 i.natAbs (by omega)
      omega
    · rw [if_neg h, Lib.decDigits_length]
      have := Lib.nDigits_le20 i.toNat (by omega)
      omega
  · exact ⟨rfl, rfl, rfl, by simp [grow], fun j hj => by simp [grow, Array.getElem?_append, hj]⟩

end Go.Proofs.YtfkiccdjffhhhaaGreatDoor
