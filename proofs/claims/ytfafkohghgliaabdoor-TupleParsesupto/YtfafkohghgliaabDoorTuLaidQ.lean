import Derived.Test.YtfafkohghgliaabDoorTuVo
import Derived.Test.YtfafkohghgliaabDoorRows
import Derived.WideLaws
import Derived.Deep.DeepHandedRow
import Derived.Deep.DeepWitnessRowRef
import Derived.Lib.LaidTab
import Derived.LaidLaws
import Derived.LaidHandle
import Derived.Stop.LaidTwo
import Derived.OpenShut
import Derived.ProofKit
/- The listed variables, and a world that has them. -/
namespace Go.Proofs.YtfafkohghgliaabDoor.Tu
open Go.Proofs.YtfafkohghgliaabDoor Go.ChangeShapes Go.WideShapes Go.ChangeAt Go.RowKit Go.Deep
set_option linter.unusedVariables false
set_option maxRecDepth 100000

abbrev theLaid : List (String × DataW Unit) := [("math/bits.deBruijn32tab", Rows.laid_math_bits_deBruijn32tab), ("math/bits.deBruijn64tab", Rows.laid_math_bits_deBruijn64tab), ("internal/strconv.uint64pow10", Rows.laid_internal_strconv_uint64pow10), ("unicode/utf8.acceptRanges", Rows.laid_unicode_utf8_acceptRanges), ("strconv.ErrRange", Rows.laid_strconv_ErrRange), ("strconv.ErrSyntax", Rows.laid_strconv_ErrSyntax), ("unicode/utf8.first", Rows.laid_unicode_utf8_first)]
theorem gRng : Tryd.prog.globalNamed "strconv.ErrRange" = some 5 := by kernel_rfl
theorem tSyn : (Tryd.prog.globals[4]?).map (·.type) = some 82 := by kernel_rfl
theorem tRng : (Tryd.prog.globals[5]?).map (·.type) = some 82 := by kernel_rfl
theorem tPow : (Tryd.prog.globals[0]?).map (·.type) = some 136 := by kernel_rfl
theorem powData : Rows.laid_internal_strconv_uint64pow10 (H := Unit) = Lib.tabData .u64 Lib.pow10Tab := by kernel_rfl
section
set_option linter.unusedSectionVars false
variable [DecidableEq Vl]
theorem vars_of {W : World} (hL : laidMetH Tryd.prog theLaid W) : Vars W := by
  have hL' : laidMet Tryd.prog theLaid W := hL
  refine ⟨?_, ?_, ?_⟩
  · obtain ⟨ps, ⟨g, t, cs, fuel, p, q, hg, ht, hvar, hd, _, _⟩, _⟩ := hL'.tail.tail
    obtain rfl := Option.some.inj (gPow.symm.trans hg)
    obtain rfl := Option.some.inj (tPow.symm.trans ht)
    rw [powData] at hd
    show Lib.TabIs _ _ _ _ _
    unfold Lib.TabIs
    rw [hvar, ← Lib.cells_of_tab Tryd.underlying136 Tryd.underlying87 (by kernel_rfl) (by kernel_rfl) hd]
  · obtain ⟨ps, ⟨g, t, cs, fuel, p, q, hg, ht, hvar, hd, _, _⟩, _⟩ := hL'.tail.tail.tail.tail.tail
    obtain rfl := Option.some.inj (gSyn.symm.trans hg)
    obtain rfl := Option.some.inj (tSyn.symm.trans ht)
    obtain ⟨_, u, v, hcs, _, _⟩ := iface_of_trod Tryd.underlying82 hd
    have hc : cs = #[.iface u v] := by cases cs; simp_all
    exact ⟨u, v, by rw [hvar, hc]⟩
  · obtain ⟨ps, ⟨g, t, cs, fuel, p, q, hg, ht, hvar, hd, _, _⟩, _⟩ := hL'.tail.tail.tail.tail
    obtain rfl := Option.some.inj (gRng.symm.trans hg)
    obtain rfl := Option.some.inj (tRng.symm.trans ht)
    obtain ⟨_, u, v, hcs, _, _⟩ := iface_of_trod Tryd.underlying82 hd
    have := World.var?_cell gRng hvar 0
    have hc : cs = #[.iface u v] := by cases cs; simp_all
    rw [hc] at this
    exact ⟨_, this, .inr ⟨u, v, rfl⟩⟩
end
/-- a table's cells -/
def oneOf (d : DataW Unit) : Value := match d with
  | .lit (.int k n) => .int k n
  | _ => .bool false
def intsOf (d : DataW Unit) : Array Value := match d with
  | .agg ps => (ps.flatMap fun x => match x with | .agg qs => qs.map oneOf | y => [oneOf y]).toArray
  | _ => #[]
def textOf (d : DataW Unit) : ByteArray := match d with
  | .iface _ (.ptr (.agg [.lit (.string s)])) => ⟨s.toArray⟩
  | _ => ⟨#[]⟩
def putG (h : Array Obj) (g : Nat) (cs : Array Value) : Array Obj := h.modify g fun
  | .cells _ t frozen => .cells cs t frozen
  | o => o
def errAt (a : Addr) : Value := .iface 152 (.pointer (some a))

set_option maxRecDepth 1000000 in
theorem laid_met (os : Os) (args : Array Value) : laidMet Tryd.prog theLaid (({ World.holding Tryd.prog os ⟨#[.cells #[.string (textOf Rows.laid_strconv_ErrRange)] 154, .cells #[.string (textOf Rows.laid_strconv_ErrSyntax)] 154], #[], []⟩ with heap := (putG (putG (putG (putG (putG (putG (putG (World.holding Tryd.prog os ⟨#[.cells #[.string (textOf Rows.laid_strconv_ErrRange)] 154, .cells #[.string (textOf Rows.laid_strconv_ErrSyntax)] 154], #[], []⟩).heap 0 (intsOf Rows.laid_internal_strconv_uint64pow10)) 6 (intsOf Rows.laid_math_bits_deBruijn32tab)) 7 (intsOf Rows.laid_math_bits_deBruijn64tab)) 3 (intsOf Rows.laid_unicode_utf8_acceptRanges)) 2 (intsOf Rows.laid_unicode_utf8_first)) 5 #[errAt ⟨(World.settled Tryd.prog os).heap.size, 0, none⟩]) 4 #[errAt ⟨(World.settled Tryd.prog os).heap.size + 1, 0, none⟩]) } : World).forCall (fun _ _ => 0) ⟨#[], args, []⟩).memory :=
  laidMet_of_run' 8 (by kernel_rfl) (by kernel_rfl)

end Go.Proofs.YtfafkohghgliaabDoor.Tu
