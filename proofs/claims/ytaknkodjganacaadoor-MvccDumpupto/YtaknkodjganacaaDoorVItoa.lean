import Derived.Test.YtaknkodjganacaaDoorBase0
import Derived.Test.YtaknkodjganacaaDoorShelf
import Derived.Lib.ItoaMem
import Derived.Lib.ItoaLen
import Derived.Lib.SmallJoins
import Derived.Laws.IdiomStrings
namespace Go.Proofs.YtaknkodjganacaaDoor.Vs
open Go.RowKit Go.Sort
set_option linter.unusedVariables false

abbrev PowTab (w : World) : Prop := Lib.TabIs Tryd.prog w "internal/strconv.uint64pow10" .u64 Lib.pow10Tab
theorem gPow : Tryd.prog.globalNamed "internal/strconv.uint64pow10" = some 0 := by kernel_rfl
theorem PowTab.later {w w' : World} (h : PowTab w) (hb : Below w.heap.size w w') : PowTab w' := Joins.tab_stays gPow h hb (Nat.le_refl _)
/-- the digits of a number -/
def itS (i : Nat) : ByteArray := ⟨(Lib.itoa (i : Int)).toArray⟩
theorem itoa_is (i : Nat) (hi : i ≤ 4611686018427387904) (w : World) (ht : PowTab w) :
    Calls Tryd.prog 51 #[.int .i64 (i : Int)] w fun e w' => e = .returned (.string (itS i)) ∧ Below w.heap.size w w' := by
  refine (Tryd.strconv_Itoa i (by omega) (by omega) w ht).mono ?_
  rintro e w' ⟨rfl, k, os, rfl⟩
  exact ⟨rfl, ⟨rfl, rfl, rfl, by simp [grow], fun j hj => by simp [grow, Array.getElem?_append, hj]⟩⟩
end Go.Proofs.YtaknkodjganacaaDoor.Vs
