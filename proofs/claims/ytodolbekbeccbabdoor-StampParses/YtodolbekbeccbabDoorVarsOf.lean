import Derived.Test.YtodolbekbeccbabDoorField
import Derived.Deep.DeepHandedRow
import Derived.Deep.DeepWitnessRowRef
import Derived.Lib.LaidTab
import Derived.LaidLaws
import Derived.ProofKit
namespace Go.Proofs.YtodolbekbeccbabDoor
open Go.RowKit Go.Sort Go.ChangeShapes Go.WideShapes Go.ChangeAt

abbrev theLaid : List (String × DataW Unit) := [("math/bits.deBruijn32tab", Rows.laid_math_bits_deBruijn32tab), ("math/bits.deBruijn64tab", Rows.laid_math_bits_deBruijn64tab), ("internal/strconv.uint64pow10", Rows.laid_internal_strconv_uint64pow10), ("strconv.ErrRange", Rows.laid_strconv_ErrRange), ("strconv.ErrSyntax", Rows.laid_strconv_ErrSyntax)]

theorem gSyn : Tryd.prog.globalNamed "strconv.ErrSyntax" = some 2 := by kernel_rfl
theorem gRng : Tryd.prog.globalNamed "strconv.ErrRange" = some 3 := by kernel_rfl
theorem tSyn : (Tryd.prog.globals[2]?).map (·.type) = some 41 := by kernel_rfl
theorem tRng : (Tryd.prog.globals[3]?).map (·.type) = some 41 := by kernel_rfl
theorem tPow : (Tryd.prog.globals[1]?).map (·.type) = some 61 := by kernel_rfl
theorem powData : Rows.laid_internal_strconv_uint64pow10 (H := Unit) = Lib.tabData .u64 Lib.pow10Tab := by kernel_rfl

theorem vars_of {W : World} (hL : laidMetH Tryd.prog theLaid W) (hsh : W.ShapedOpen Tryd.prog) : Vars W := by
  have hL' : laidMet Tryd.prog theLaid W := hL
  obtain ⟨ps, ⟨_, _, _, _, _, _, _, _, _, _, ⟨_, _, _, _, _, _, _, _, _, _, ⟨g, t, cs, fuel, p, q, hg, ht, hvar, hd, ⟨g1, t1, cs1, fuel1, p1, q1, hg1, ht1, hvar1, hd1, ⟨g2, t2, cs2, fuel2, p2, q2, hg2, ht2, hvar2, hd2, _, _⟩, _⟩, _⟩, _⟩, _⟩, _⟩ := hL'
  obtain rfl := Option.some.inj (gPow.symm.trans hg)
  obtain rfl := Option.some.inj (tPow.symm.trans ht)
  obtain rfl := Option.some.inj (gRng.symm.trans hg1)
  obtain rfl := Option.some.inj (tRng.symm.trans ht1)
  obtain rfl := Option.some.inj (gSyn.symm.trans hg2)
  obtain rfl := Option.some.inj (tSyn.symm.trans ht2)
  refine ⟨?_, ?_, ?_, ?_⟩
  · rw [powData] at hd
    show Lib.TabIs _ _ _ _ _
    unfold Lib.TabIs
    rw [hvar, ← Lib.cells_of_tab Tryd.underlying61 Tryd.underlying22 (by kernel_rfl) (by kernel_rfl) hd]
  · obtain ⟨_, u, v, hcs, _, _⟩ := iface_of_trod Tryd.underlying41 hd2
    have := World.var?_cell gSyn hvar2 0
    have hc : cs2 = #[.iface u v] := by cases cs2; simp_all
    rw [hc] at this
    exact ⟨_, this, .inr ⟨u, v, rfl⟩⟩
  · obtain ⟨_, u, v, hcs, _, _⟩ := iface_of_trod Tryd.underlying41 hd1
    have := World.var?_cell gRng hvar1 0
    have hc : cs1 = #[.iface u v] := by cases cs1; simp_all
    rw [hc] at this
    exact ⟨_, this, .inr ⟨u, v, rfl⟩⟩
  · exact Go.Proofs.cell_of_shapedOpen_int (zero := #[.int .i64 0]) (t := 3) hsh (of_decide_eq_true (by kernel_rfl)) (by kernel_rfl) rfl (by kernel_rfl) (by kernel_rfl) Tryd.underlying3

/-- a table's cells -/
def intsOf (d : DataW Unit) : Array Value := match d with
  | .agg ps => (ps.map fun x => match x with | .lit (.int k n) => Value.int k n | _ => Value.bool false).toArray
  | _ => #[]
def invalidSyntax : List UInt8 := [105, 110, 118, 97, 108, 105, 100, 32, 115, 121, 110, 116, 97, 120]
def outOfRange : List UInt8 := [118, 97, 108, 117, 101, 32, 111, 117, 116, 32, 111, 102, 32, 114, 97, 110, 103, 101]
def putG (h : Array Obj) (g : Nat) (cs : Array Value) : Array Obj := h.modify g fun
  | .cells _ t frozen => .cells cs t frozen
  | o => o

/-- a world in which the listed variables hold what their initialisers lay -/
noncomputable def laidWorld (os : Os) : World :=
  let N := (World.settled Tryd.prog os).heap.size
  let w0 := World.holding Tryd.prog os ⟨#[.cells #[.string ⟨invalidSyntax.toArray⟩] 75, .cells #[.string ⟨outOfRange.toArray⟩] 75], #[], []⟩
  { w0 with heap := putG (putG (putG (putG (putG w0.heap 2 #[.iface 73 (.pointer (some ⟨N, 0, none⟩))]) 3 #[.iface 73 (.pointer (some ⟨N + 1, 0, none⟩))]) 1 (intsOf Rows.laid_internal_strconv_uint64pow10)) 4 (intsOf Rows.laid_math_bits_deBruijn32tab)) 5 (intsOf Rows.laid_math_bits_deBruijn64tab) }

set_option maxRecDepth 1000000 in
theorem laid_met (os : Os) (args : Array Value) : laidMet Tryd.prog theLaid ((laidWorld os).forCall (fun _ _ => 0) ⟨#[], args, []⟩).memory :=
  laidMet_of_run' 8 (by kernel_rfl) (by kernel_rfl)

end Go.Proofs.YtodolbekbeccbabDoor
