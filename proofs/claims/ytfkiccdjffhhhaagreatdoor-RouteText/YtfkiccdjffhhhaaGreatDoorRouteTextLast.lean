import Derived.Test.YtfkiccdjffhhhaaGreatDoorCards
import Derived.Test.YtfkiccdjffhhhaaGreatDoorTie
import Derived.Test.YtfkiccdjffhhhaaGreatDoorRouteTextOpen
import Derived.ProofKit
import Derived.OpenShut
import Derived.ShutString
import Derived.ChangeOld
import Derived.Below
import Derived.Deep.DeepHandedRow
import Derived.Deep.DeepWitnessRowRef
namespace Go.Proofs.YtfkiccdjffhhhaaGreatDoor.routeTextLast
open Go.ChangeShapes Go.WideShapes Go.ChangeAt Go.RowKit
set_option linter.unusedVariables false

theorem own : ownKnob Tryz.prog.godebug = none := by kernel_rfl
theorem laidOut : laidOutB Tryz.prog = true := by kernel_rfl

set_option maxRecDepth 16000 in
theorem contract (H : Type) (enc : TypeId × Value → H) (W : World) (base : Nat) (args : Array Value) (ds gs : List (DataW H)) (before : List MemPlace)
    (hval : ∀ (j : Nat) t v, Tryz.f3.params[j]? = some t → args[j]? = some v → Value.okWide Tryz.prog W .any base t v)
    (hW : DataW.Whole enc Tryz.prog Tryz.f3.params.toList Rows.routeTextSpec.vars false W args.toList ds gs before) (hsz : (DataW.weightsEach Tryz.prog (Tryz.f3.params.toList ++ Rows.routeTextSpec.plain.varTypes Tryz.prog) (ds ++ gs)).all (· ≤ reachBytes) = true) (hL : laidMetH Tryz.prog theLaid W) (hsh : W.ShapedOpen Tryz.prog) :
    Calls Tryz.prog 3 args W fun e W' => ∃ v, e = .returned v ∧ Rows.routeTextSpec.post enc Tryz.prog Tryz.f3 false true false false W args v W' := by
  have hW' := hW
  obtain ⟨p, q, hA0, hVr, rfl, hfz, hnd⟩ := hW
  have hA : DataW.TrodAll enc Tryz.prog W 0 (fun _ => true) true Tryz.f3.params.toList args.toList ds p := hA0
  rw [Tryz.params3] at hA hval hsz
  obtain ⟨v0, vs0, d0, ds0, p0, q0, hargs, rfl, rfl, h0, r0⟩ := trodAll_cons hA
  obtain ⟨rfl, rfl, rfl⟩ := trodAll_nil r0
  obtain rfl : args = #[v0] := by cases args; simp_all
  obtain ⟨rfl, rfl⟩ := trodVars_none hVr
  have lt0 : ∀ x ∈ p0, x.block < W.heap.size := by obtain ⟨m, hm⟩ := h0; exact DataW.trod_lt m _ _ _ hm
  clear hA0
  refine (opened_routeText (hval 0 27 v0 rfl rfl) h0 (InReach.of_args hsz) hL hsh).mono fun e W' ⟨he, bel⟩ => ?_
  subst he
  exact ⟨_, rfl, _, _, _, [], _, [], hW', trodAll_mk1 (shut_bool Tryz.underlying4 _), (trodAll_cons_mk (Below.trod laidOut (by kernel_rfl) (of_decide_eq_true (by kernel_rfl)) h0 bel lt0) trodAll_mk0), rfl, bel.frame _, fun h => by cases h⟩

theorem reads (os : Os) {H : Type} (enc : TypeId × Value → H) : ∃ places, DataW.whole enc Tryz.prog (({ World.holding Tryz.prog os ⟨#[.cells #[.string (textOf Rows.laid_strconv_ErrRange)] 166, .cells #[.string (textOf Rows.laid_strconv_ErrSyntax)] 166, .cells #[.string (textOf Rows.laid_tidemark_route_errForm)] 166, .cells #[.string (textOf Rows.laid_tidemark_route_errLimit)] 166], #[], []⟩ with heap := (putG (putG (putG (putG (putG (putG (putG (putG (putG (putG (World.holding Tryz.prog os ⟨#[.cells #[.string (textOf Rows.laid_strconv_ErrRange)] 166, .cells #[.string (textOf Rows.laid_strconv_ErrSyntax)] 166, .cells #[.string (textOf Rows.laid_tidemark_route_errForm)] 166, .cells #[.string (textOf Rows.laid_tidemark_route_errLimit)] 166], #[], []⟩).heap 3 (intsOf Rows.laid_internal_strconv_uint64pow10)) 4 (intsOf Rows.laid_math_bits_deBruijn32tab)) 5 (intsOf Rows.laid_math_bits_deBruijn64tab)) 9 (intsOf Rows.laid_unicode_utf8_acceptRanges)) 8 (intsOf Rows.laid_unicode_utf8_first)) 2 #[Rt.typV 44]) 6 #[Rt.errV ⟨(World.settled Tryz.prog os).heap.size, 0, none⟩]) 10 #[Rt.errV ⟨(World.settled Tryz.prog os).heap.size + 1, 0, none⟩]) 0 #[Rt.errV ⟨(World.settled Tryz.prog os).heap.size + 2, 0, none⟩]) 1 #[Rt.errV ⟨(World.settled Tryz.prog os).heap.size + 3, 0, none⟩]) } : World).forCall (fun _ _ => 0) ⟨#[], #[.agg #[.int .i64 0, .int .i64 0, .slice none 0 0, .int .i64 0, .int .i64 0, .int .u64 0, .string ⟨#[]⟩, .int .i64 0]], []⟩).memory Tryz.f3.params.toList Rows.routeTextSpec.vars false #[.agg #[.int .i64 0, .int .i64 0, .slice none 0 0, .int .i64 0, .int .i64 0, .int .u64 0, .string ⟨#[]⟩, .int .i64 0]].toList 8 = some ([.agg [.agg [.lit (.int .i64 0), .lit (.int .i64 0), .nil, .lit (.int .i64 0), .lit (.int .i64 0), .lit (.int .u64 0)], .lit (.string []), .lit (.int .i64 0)]], [], places) :=
  ⟨[], by kernel_rfl⟩

set_option maxRecDepth 1000000 in
theorem lifted (os : Os) (started : os.Started) (H : Type) (enc : TypeId × Value → H) (F : Stop.Interp) :
    ReturnsInHanded {} Tryz.checked os 3 .any ((OpenSpec.ofChange Rows.routeTextSpec).preRow enc Tryz.prog Tryz.f3 Rows.routeTextRow.domain false Rows.routeTextRow.laid) (((OpenSpec.ofChange Rows.routeTextSpec).at F).post enc Tryz.prog Tryz.f3 false true false false) := by
  obtain ⟨places, hx⟩ := reads os enc
  refine returnsInHanded_of_row (C := Tryz.checked) (s := OpenSpec.ofChange Rows.routeTextSpec) own started (by kernel_rfl) Tryz.func3
    (witness_row_atRef (enc := enc) (C := Tryz.checked) false ({ World.holding Tryz.prog os ⟨#[.cells #[.string (textOf Rows.laid_strconv_ErrRange)] 166, .cells #[.string (textOf Rows.laid_strconv_ErrSyntax)] 166, .cells #[.string (textOf Rows.laid_tidemark_route_errForm)] 166, .cells #[.string (textOf Rows.laid_tidemark_route_errLimit)] 166], #[], []⟩ with heap := (putG (putG (putG (putG (putG (putG (putG (putG (putG (putG (World.holding Tryz.prog os ⟨#[.cells #[.string (textOf Rows.laid_strconv_ErrRange)] 166, .cells #[.string (textOf Rows.laid_strconv_ErrSyntax)] 166, .cells #[.string (textOf Rows.laid_tidemark_route_errForm)] 166, .cells #[.string (textOf Rows.laid_tidemark_route_errLimit)] 166], #[], []⟩).heap 3 (intsOf Rows.laid_internal_strconv_uint64pow10)) 4 (intsOf Rows.laid_math_bits_deBruijn32tab)) 5 (intsOf Rows.laid_math_bits_deBruijn64tab)) 9 (intsOf Rows.laid_unicode_utf8_acceptRanges)) 8 (intsOf Rows.laid_unicode_utf8_first)) 2 #[Rt.typV 44]) 6 #[Rt.errV ⟨(World.settled Tryz.prog os).heap.size, 0, none⟩]) 10 #[Rt.errV ⟨(World.settled Tryz.prog os).heap.size + 1, 0, none⟩]) 0 #[Rt.errV ⟨(World.settled Tryz.prog os).heap.size + 2, 0, none⟩]) 1 #[Rt.errV ⟨(World.settled Tryz.prog os).heap.size + 3, 0, none⟩]) } : World) #[.agg #[.int .i64 0, .int .i64 0, .slice none 0 0, .int .i64 0, .int .i64 0, .int .u64 0, .string ⟨#[]⟩, .int .i64 0]] rfl (by kernel_rfl) (by kernel_rfl) (by kernel_rfl)
      (OpenSpec.preRow_of_cond 8 hx (by kernel_rfl) (fun k hk => by cases hk) (by kernel_rfl) (laid_met os _))) ?_
  intro W base args ds gs before hval hW _ _ hsz hL hsh _
  exact contract H enc W base args ds gs before hval hW hsz hL hsh

theorem said : Rows.RouteTextSaid :=
  OpenClaim.holds_of_cond 3 Tryz.f3 rfl rfl rfl rfl rfl rfl rfl ⟨rfl, rfl, rfl, rfl, rfl⟩ rfl rfl rfl rfl rfl (by kernel_rfl) Tryz.func3 (by kernel_rfl)
    (of_decide_eq_true (by kernel_rfl)) (by unfold Func.isWrapper; first | (rw [if_pos (by decide +kernel)]; kernel_rfl) | (rw [if_neg (by decide +kernel)]; exact ⟨rfl, rfl⟩))
    (fun os started H enc _ F => by rw [OpenClaim.pre_eq_preRow]; exact lifted os started H enc F)

theorem plain (f : FuncId) (fn : Func) (hf : Tryz.pinned.checked.prog.funcNamed "tidemark/tidemarklaw12.RouteText" = some f) (hfn : Tryz.pinned.checked.prog.funcs[f]? = some fn) :
    true = Tryz.pinned.checked.prog.looks [] ∧ ∀ (j : Nat) t, fn.params[j]? = some t → Tryz.pinned.checked.prog.wantsStandIn t = false := by
  obtain rfl : f = 3 := Option.some.inj ((show Tryz.prog.funcNamed "tidemark/tidemarklaw12.RouteText" = some 3 by kernel_rfl).symm.trans hf) |>.symm
  obtain rfl : fn = Tryz.f3 := (Option.some.inj (Tryz.func3.symm.trans hfn)).symm
  refine ⟨by kernel_rfl, fun j t ht => ?_⟩
  rw [Tryz.params3] at ht
  obtain rfl : t = 27 := by simpa using Array.mem_of_getElem? ht
  exact (show Tryz.prog.wantsStandIn 27 = false by kernel_rfl)

theorem card : Rows.RouteTextCardSaid :=
  Claim7.holds_tied_plain_at .later [] _ _ _ _ said (fun _ h => by cases h) (by kernel_rfl) (fun _ h => by cases h) routeText_row_tie rfl ⟨rfl, rfl⟩ (by kernel_rfl) rfl plain (by kernel_rfl)
end Go.Proofs.YtfkiccdjffhhhaaGreatDoor.routeTextLast
namespace Go.Proofs.YtfkiccdjffhhhaaGreatDoor
theorem routeText_holds : Rows.RouteTextCardSaid := routeTextLast.card
#print axioms routeText_holds
end Go.Proofs.YtfkiccdjffhhhaaGreatDoor
