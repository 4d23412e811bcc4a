import Derived.Test.YthenfioddnkjbaaGreatDoorLItoa
import Derived.Test.YthenfioddnkjbaaGreatDoorRdStep
import Derived.Deep.DeepHandedRow
import Derived.Deep.DeepWitnessRowRef
import Derived.Lib.LaidTab
import Derived.LaidLaws
import Derived.LaidHandle
import Derived.Stop.LaidTwo
import Derived.ProofKit
/- The listed variables, and a world that has them. -/
namespace Go.Proofs.YthenfioddnkjbaaGreatDoor
open Go.ChangeShapes Go.WideShapes Go.ChangeAt Go.RowKit Go.Deep
set_option linter.unusedVariables false

abbrev theNine : List (String × DataW Unit) := [("math/bits.deBruijn32tab", Rows.laid_math_bits_deBruijn32tab), ("math/bits.deBruijn64tab", Rows.laid_math_bits_deBruijn64tab), ("internal/strconv.uint64pow10", Rows.laid_internal_strconv_uint64pow10), ("unicode/utf8.acceptRanges", Rows.laid_unicode_utf8_acceptRanges), ("strconv.ErrRange", Rows.laid_strconv_ErrRange), ("strconv.ErrSyntax", Rows.laid_strconv_ErrSyntax), ("tidemark/route.errForm", Rows.laid_tidemark_route_errForm), ("tidemark/route.errLimit", Rows.laid_tidemark_route_errLimit), ("unicode/utf8.first", Rows.laid_unicode_utf8_first)]
abbrev theLaid : List (String × DataW Unit) := [("math/bits.deBruijn32tab", Rows.laid_math_bits_deBruijn32tab), ("math/bits.deBruijn64tab", Rows.laid_math_bits_deBruijn64tab), ("internal/strconv.uint64pow10", Rows.laid_internal_strconv_uint64pow10), ("unicode/utf8.acceptRanges", Rows.laid_unicode_utf8_acceptRanges), ("errors.errorType", Rows.laid_errors_errorType), ("strconv.ErrRange", Rows.laid_strconv_ErrRange), ("strconv.ErrSyntax", Rows.laid_strconv_ErrSyntax), ("tidemark/route.errForm", Rows.laid_tidemark_route_errForm), ("tidemark/route.errLimit", Rows.laid_tidemark_route_errLimit), ("unicode/utf8.first", Rows.laid_unicode_utf8_first)]
theorem nine_of : (theLaid.filter fun x => x.2.handleName?.isNone) = theNine := by rfl
theorem one_of : (theLaid.filter fun x => x.2.handleName?.isSome) = [("errors.errorType", Rows.laid_errors_errorType)] := by rfl
theorem laid_parts {W : World} (hL : laidMetH Tryz.prog theLaid W) : laidMet Tryz.prog theNine W ∧ handlesMet Tryz.prog [("errors.errorType", Rows.laid_errors_errorType)] W := by
  unfold laidMetH at hL
  rw [one_of] at hL
  have h2 : laidMet Tryz.prog (theLaid.filter fun x => x.2.handleName?.isNone) W ∧ handlesMet Tryz.prog [("errors.errorType", Rows.laid_errors_errorType)] W := hL
  rw [nine_of] at h2
  exact h2
theorem tPow : (Tryz.prog.globals[3]?).map (·.type) = some 199 := by kernel_rfl
theorem powData : Rows.laid_internal_strconv_uint64pow10 (H := Unit) = Lib.tabData .u64 Lib.pow10Tab := by kernel_rfl
theorem pow_of {W : World} (hL : laidMetH Tryz.prog theLaid W) : PowTab W := by
  obtain ⟨ps, ⟨g, t, cs, fuel, p, q, hg, ht, hvar, hd, _, _⟩, _⟩ := (laid_parts hL).1.tail.tail
  obtain rfl := Option.some.inj (gPow.symm.trans hg)
  obtain rfl := Option.some.inj (tPow.symm.trans ht)
  rw [powData] at hd
  show Lib.TabIs _ _ _ _ _
  unfold Lib.TabIs
  rw [hvar, ← Lib.cells_of_tab Tryz.underlying199 Tryz.underlying24 (by kernel_rfl) (by kernel_rfl) hd]
theorem gForm : Tryz.prog.globalNamed "tidemark/route.errForm" = some 0 := by kernel_rfl
theorem gLimit : Tryz.prog.globalNamed "tidemark/route.errLimit" = some 1 := by kernel_rfl
theorem gRange : Tryz.prog.globalNamed "strconv.ErrRange" = some 4 := by kernel_rfl
theorem gEType : Tryz.prog.globalNamed "errors.errorType" = some 2 := by kernel_rfl
theorem tForm : (Tryz.prog.globals[0]?).map (·.type) = some 57 := by kernel_rfl
theorem tLimit : (Tryz.prog.globals[1]?).map (·.type) = some 57 := by kernel_rfl
theorem tRange : (Tryz.prog.globals[4]?).map (·.type) = some 57 := by kernel_rfl
theorem cellsE : Tryz.prog.cellsOf 232 = 1 := by kernel_rfl
theorem cellsS : Tryz.prog.cellsOf 9 = 1 := by kernel_rfl
theorem star : "*" ++ "errors.errorString" = "*errors.errorString" := by decide
theorem rowE (u : TypeId) (h : Tryz.prog.typeName? 3 u = some "*errors.errorString") : u = 230 :=
  typeName_ptr_named (nm := "errors.errorString") (by rw [star]; kernel_rfl) (by kernel_rfl) (by decide) u (by rw [star]; exact h)
theorem rtE : (Tryz.prog.cutTypes.find? (·.1 == "internal/reflectlite.rtype")).map (·.2) = some 170 := by kernel_rfl
theorem sizeE : Tryz.prog.types.size = 259 := by kernel_rfl
theorem oneE : ((List.range 259).filter fun t => Tryz.prog.rowNamed t [101, 114, 114, 111, 114]) = [57] := by kernel_rfl
theorem handle_of {W : World} (hL : laidMetH Tryz.prog theLaid W) : W.cell? ⟨2, 0, none⟩ = some (Rt.typV 57) := by
  obtain ⟨name, u, ty, e1, e2, e3, e4, e5⟩ := (laid_parts hL).2 _ (List.mem_singleton.2 rfl)
  have en : name = [101, 114, 114, 111, 114] := (Option.some.inj e1).symm
  subst en
  obtain rfl := Option.some.inj (rtE.symm.trans e2)
  have hm : ty ∈ (List.range 259).filter fun t => Tryz.prog.rowNamed t [101, 114, 114, 111, 114] := List.mem_filter.2 ⟨List.mem_range.2 (by rw [← sizeE]; exact e3), e4⟩
  rw [oneE] at hm
  obtain rfl := List.mem_singleton.1 hm
  have hh : typeHandle Tryz.prog 57 = .pointer (some ⟨11, 57, none⟩) := by kernel_rfl
  rw [hh] at e5
  simpa using World.var?_cell gEType e5 0
theorem gl_of {W : World} (hL : laidMetH Tryz.prog theLaid W) (hsh : W.ShapedOpen Tryz.prog) : ∃ a b, Rt.Gl W a b := by
  have h9 := (laid_parts hL).1
  obtain ⟨a0, a1, s0, s1, c0, c1, t0, t1, hv0, hv1, hc0, hs0, hz0, hc1, hs1, hz1, hne, hb0, hb1⟩ := laid_sentinels2 h9.tail.tail.tail.tail.tail.tail gForm tForm gLimit tLimit Tryz.underlying57 rowE Tryz.underlying230 Tryz.underlying232 rfl rfl Tryz.underlying9 cellsE cellsS
  obtain ⟨a2, s2, hv2, _⟩ := laid_sentinel h9.tail.tail.tail.tail gRange tRange Tryz.underlying57 rowE Tryz.underlying230 Tryz.underlying232 rfl rfl Tryz.underlying9 cellsE cellsS
  refine ⟨a0, a1, ⟨⟨by simpa using World.var?_cell gForm hv0 0, by simpa using World.var?_cell gLimit hv1 0, handle_of hL, hne, ⟨_, _, hb0⟩, ⟨_, _, hb1⟩⟩, ?_, ⟨_, _, by simpa using World.var?_cell gRange hv2 0⟩⟩⟩
  exact Go.Proofs.cell_of_shapedOpen_int (zero := #[.int .i64 0]) (t := 3) hsh (of_decide_eq_true (by kernel_rfl)) (by kernel_rfl) rfl (by kernel_rfl) (by kernel_rfl) Tryz.underlying3

/-- a table's cells -/
def oneOf (d : DataW Unit) : Value := match d with
  | .lit (.int k n) => .int k n
  | _ => .bool false
def intsOf (d : DataW Unit) : Array Value := match d with
  | .agg ps => (ps.flatMap fun x => match x with | .agg qs => qs.map oneOf | y => [oneOf y]).toArray
  | _ => #[]
def textOf (d : DataW Unit) : ByteArray := match d with
  | .iface _ (.ptr (.agg [.lit (.string s)])) => ⟨s.toArray⟩
  | _ => ⟨#[]⟩
def putG (h : Array Obj) (g : Nat) (cs : Array Value) : Array Obj := h.modify g fun
  | .cells _ t frozen => .cells cs t frozen
  | o => o

set_option maxRecDepth 1000000 in
theorem laid_met (os : Os) (args : Array Value) : laidMetH Tryz.prog theLaid (({ World.holding Tryz.prog os ⟨#[.cells #[.string (textOf Rows.laid_strconv_ErrRange)] 232, .cells #[.string (textOf Rows.laid_strconv_ErrSyntax)] 232, .cells #[.string (textOf Rows.laid_tidemark_route_errForm)] 232, .cells #[.string (textOf Rows.laid_tidemark_route_errLimit)] 232], #[], []⟩ with heap := (putG (putG (putG (putG (putG (putG (putG (putG (putG (putG (World.holding Tryz.prog os ⟨#[.cells #[.string (textOf Rows.laid_strconv_ErrRange)] 232, .cells #[.string (textOf Rows.laid_strconv_ErrSyntax)] 232, .cells #[.string (textOf Rows.laid_tidemark_route_errForm)] 232, .cells #[.string (textOf Rows.laid_tidemark_route_errLimit)] 232], #[], []⟩).heap 3 (intsOf Rows.laid_internal_strconv_uint64pow10)) 8 (intsOf Rows.laid_math_bits_deBruijn32tab)) 9 (intsOf Rows.laid_math_bits_deBruijn64tab)) 7 (intsOf Rows.laid_unicode_utf8_acceptRanges)) 6 (intsOf Rows.laid_unicode_utf8_first)) 2 #[Rt.typV 57]) 4 #[Rt.errV ⟨(World.settled Tryz.prog os).heap.size, 0, none⟩]) 10 #[Rt.errV ⟨(World.settled Tryz.prog os).heap.size + 1, 0, none⟩]) 0 #[Rt.errV ⟨(World.settled Tryz.prog os).heap.size + 2, 0, none⟩]) 1 #[Rt.errV ⟨(World.settled Tryz.prog os).heap.size + 3, 0, none⟩]) } : World).forCall (fun _ _ => 0) ⟨#[], args, []⟩).memory :=
  laidMetH_of_parts (by rw [nine_of]; exact laidMet_of_run' 8 (by kernel_rfl) (by kernel_rfl)) (by kernel_rfl)
end Go.Proofs.YthenfioddnkjbaaGreatDoor
