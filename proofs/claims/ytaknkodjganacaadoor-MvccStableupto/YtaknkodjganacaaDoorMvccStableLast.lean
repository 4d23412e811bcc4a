import Derived.Test.YtaknkodjganacaaDoorVStabLaw
import Derived.Test.YtaknkodjganacaaDoorVOpen
import Derived.Test.YtaknkodjganacaaDoorCards
import Derived.Test.YtaknkodjganacaaDoorTie
import Derived.ProofKit
import Derived.OpenShut
import Derived.ShutString
import Derived.ChangeOld
import Derived.Below
import Derived.Deep.DeepHandedRow
import Derived.Deep.DeepWitnessRowRef
namespace Go.Proofs.YtaknkodjganacaaDoor.Vs
open Go.ChangeShapes Go.WideShapes Go.ChangeAt Go.RowKit Go.Deep
set_option linter.unusedVariables false

theorem cells_int : Tryd.prog.cellsOf 3 = 1 := by kernel_rfl
theorem cells_vers : Tryd.prog.cellsOf 42 = 1 := by kernel_rfl
theorem cells_Step : Tryd.prog.cellsOf 63 = 9 := by kernel_rfl
theorem cells_steps : Tryd.prog.cellsOf 53 = 1 := by kernel_rfl
theorem cells_Late : Tryd.prog.cellsOf 55 = 7 := by kernel_rfl
theorem list7 {α : Type} {cs : List α} (h : cs.length = 7) : ∃ c0 c1 c2 c3 c4 c5 c6, cs = [c0, c1, c2, c3, c4, c5, c6] := by
  match cs, h with
  | [c0, c1, c2, c3, c4, c5, c6], _ => exact ⟨c0, c1, c2, c3, c4, c5, c6, rfl⟩
theorem list9 {α : Type} {cs : List α} (h : cs.length = 9) : ∃ c0 c1 c2 c3 c4 c5 c6 c7 c8, cs = [c0, c1, c2, c3, c4, c5, c6, c7, c8] := by
  match cs, h with
  | [c0, c1, c2, c3, c4, c5, c6, c7, c8], _ => exact ⟨c0, c1, c2, c3, c4, c5, c6, c7, c8, rfl⟩
set_option maxRecDepth 16000 in
theorem trod_Stp {H : Type} {enc : TypeId × Value → H} {w : World} {base : Nat} {fuel : Nat} {cs : List Value} {y : DataW H × List MemPlace}
    (h : DataW.trod enc Tryd.prog w base (fun _ => true) true fuel 63 cs = some y) :
    ∃ q : Sx, cs = [.int .i64 q.k, .int .i64 q.on, .int .u64 q.t.a, .int .u32 q.t.b, .int .u32 q.t.c, .string q.lo, .string q.hi, .slice q.wa q.ws.length q.wc, .slice q.va q.vn q.vc] ∧ RowW w q.wa q.ws ∧ q.ws.length ≤ Rows.uptoBulk y.1 ∧ q.t.nn := by
  obtain ⟨ys, n, _, rfl, hl, hlen, hf⟩ := DataW.trod_struct Tryd.underlying63 h
  rw [cells_Step] at hl
  obtain ⟨c0, c1, c2, c3, c4, c5, c6, c7, c8, rfl⟩ := list9 hl
  obtain ⟨y0, y1, y2, y3, y4, y5, rfl⟩ := list6 (cs := ys) (by simpa using hlen)
  obtain ⟨a0, e0, _, _⟩ := DataW.trod_int Tryd.underlying3 (hf 0 _ rfl)
  obtain ⟨a1, e1, _, _⟩ := DataW.trod_int Tryd.underlying3 (hf 1 _ rfl)
  obtain ⟨s, e2, hs⟩ := trod_Stm (hf 2 _ rfl)
  obtain ⟨lo, hi, e3⟩ := trod_Spn (hf 3 _ rfl)
  have g4 := hf 4 _ rfl
  have s4 : ([c0, c1, c2, c3, c4, c5, c6, c7, c8].drop 7).take (Tryd.prog.cellsOf 39) = [c7] := by rw [cells_writes]; rfl
  have g4' : DataW.trod enc Tryd.prog w base (fun _ => true) true n 39 [c7] = some y4 := by rw [← s4]; exact g4
  obtain ⟨wa, wc, ws, rfl, hr, _, hwl⟩ := Write_cell g4'
  have g5 := hf 5 _ rfl
  have s5 : ([c0, c1, c2, c3, c4, c5, c6, .slice wa ws.length wc, c8].drop 8).take (Tryd.prog.cellsOf 42) = [c8] := by rw [cells_vers]; rfl
  have g5' : DataW.trod enc Tryd.prog w base (fun _ => true) true n 42 [c8] = some y5 := by rw [← s5]; exact g5
  obtain ⟨va, vn, vc, e5⟩ : ∃ va vn vc, c8 = .slice va vn vc := by
    rcases open_slice Tryd.underlying42 g5' with ⟨e, _⟩ | ⟨a, len, cap, _, _, _, _, e, _⟩
    · injection e with e; exact ⟨_, _, _, e⟩
    · injection e with e; exact ⟨_, _, _, e⟩
  simp [cells_int, cells_stamp, cells_Span] at e0 e1 e2 e3
  obtain ⟨rfl, rfl, rfl⟩ := e2
  obtain ⟨rfl, rfl⟩ := e3
  subst e0 e1 e5
  refine ⟨⟨a0, a1, s, lo, hi, wa, wc, ws, va, vn, vc⟩, rfl, hr, ?_, hs⟩
  show ws.length ≤ _
  rcases hwl with h0 | ⟨el, sp, e, e'⟩
  · omega
  · have h1 := bulkAll_len el
    have h2 : Rows.uptoBulkAll el ≤ Rows.uptoBulk y4.1 := by rw [e]; simp only [Rows.uptoBulk]; omega
    simp only [List.map_cons, List.map_nil, Rows.uptoBulk, Rows.uptoBulkAll]
    omega

theorem steps_cell {H : Type} {enc : TypeId × Value → H} {W : World} {base fuel : Nat} {v : Value} {y : DataW H × List MemPlace}
    (hf : DataW.trod enc Tryd.prog W base (fun _ => true) true fuel 53 [v] = some y) (hk : Rows.uptoBulk y.1 ≤ 1048576) :
    ∃ (a : Option Addr) (cap : Nat) (ps : List Sx), v = .slice a ps.length cap ∧ RowS W a ps ∧ ps.length ≤ 1048576 := by
  rcases open_slice Tryd.underlying53 hf with ⟨e3, _⟩ | ⟨a, len, cap, m, n', D, Pl, e3, hb, hlc, hm, hmm, hxx, hel⟩
  · injection e3 with e3
    subst e3
    exact ⟨none, 0, [], rfl, fun i hi => by simp at hi, by simp⟩
  · injection e3 with e3
    subst e3
    have hlm : len ≤ m := by rw [hmm]; split <;> omega
    have hx1 := congrArg Prod.fst hxx
    have each : ∀ i, i < len → ∃ x : Sx, (RowW W x.wa x.ws ∧ x.ws.length ≤ Rows.uptoBulk (D i) ∧ x.t.nn) ∧ ∃ bb off, a = ⟨bb, off, none⟩ ∧ W.cell? ⟨bb, off + i * 9, none⟩ = some (.int .i64 x.k) ∧ W.cell? ⟨bb, off + i * 9 + 1, none⟩ = some (.int .i64 x.on) ∧ W.cell? ⟨bb, off + i * 9 + 2, none⟩ = some (.int .u64 x.t.a) ∧ W.cell? ⟨bb, off + i * 9 + 3, none⟩ = some (.int .u32 x.t.b)
        ∧ W.cell? ⟨bb, off + i * 9 + 4, none⟩ = some (.int .u32 x.t.c) ∧ W.cell? ⟨bb, off + i * 9 + 5, none⟩ = some (.string x.lo) ∧ W.cell? ⟨bb, off + i * 9 + 6, none⟩ = some (.string x.hi) ∧ W.cell? ⟨bb, off + i * 9 + 7, none⟩ = some (.slice x.wa x.ws.length x.wc) ∧ W.cell? ⟨bb, off + i * 9 + 8, none⟩ = some (.slice x.va x.vn x.vc) := by
      intro i hi
      obtain ⟨cs', hc, ht⟩ := hel i (by omega)
      obtain ⟨x, rfl, hy1, hy2, hy3⟩ := trod_Stp ht
      rw [cells_Step] at hc
      obtain ⟨_, _, hcell⟩ := World.cells?_some hc
      have e0 := hcell 0 (by omega)
      have e1 := hcell 1 (by omega)
      have e2 := hcell 2 (by omega)
      have e3 := hcell 3 (by omega)
      have e4 := hcell 4 (by omega)
      have e5 := hcell 5 (by omega)
      have e6 := hcell 6 (by omega)
      have e7 := hcell 7 (by omega)
      have e8 := hcell 8 (by omega)
      obtain ⟨bb, off, spot⟩ := a
      have hspot : spot = none := by
        obtain ⟨cs0, hc0, ht0⟩ := hel 0 (by omega)
        obtain ⟨y, rfl, -, -, -⟩ := trod_Stp ht0
        simp only [cells_Step] at hc0
        obtain ⟨_, hl0, hcell0⟩ := World.cells?_some hc0
        have hv0 : W.cell? (((⟨bb, off, spot⟩ : Addr).add (0 * 9)).add 0) = some (.int .i64 y.k) := hcell0 0 (by omega)
        have hs := World.cell?_spot hv0
        clear hcell0 hcell e0 e1 e2 e3 e4 e5 e6 e7 e8
        simpa [Addr.add] using hs
      subst hspot
      simp only [Addr.add_lit, Nat.add_zero] at e0 e1 e2 e3 e4 e5 e6 e7 e8
      exact ⟨x, ⟨hy1, hy2, hy3⟩, bb, off, rfl, by simpa using e0, by simpa using e1, by simpa using e2, by simpa using e3, by simpa using e4, by simpa using e5, by simpa using e6, by simpa using e7, by simpa using e8⟩
    obtain ⟨f, hq⟩ := @choose_lt Sx ⟨⟨0, 0, ⟨0, 0, 0⟩, ⟨#[]⟩, ⟨#[]⟩, none, 0, [], none, 0, 0⟩⟩ _ _ each
    obtain ⟨hb1, hb2⟩ := bulkAll_mem D len
    have hd : Rows.uptoBulkAll ((List.range len).map D) ≤ 1048576 := by
      rw [hx1] at hk
      simp only [Rows.uptoBulk] at hk
      omega
    refine ⟨some a, cap, (List.range len).map f, by simp, fun i hi => ?_, by simp; omega⟩
    have hi' : i < len := by simpa using hi
    obtain ⟨⟨h1, h2, h3⟩, bb, off, e, c0, c1, c2, c3, c4, c5, c6, c7, c8⟩ := hq i hi'
    have h4 := hb2 i hi'
    have hn : nthS ((List.range len).map f) i = f i := by simp [nthS, hi']
    rw [hn]
    exact ⟨bb, off, by rw [e], c0, c1, c2, c3, c4, c5, c6, c7, c8, h1, by omega, h3⟩

set_option maxRecDepth 16000 in
theorem open_late {H : Type} {enc : TypeId × Value → H} {W : World} {r : Reach} {b : Nat} {v : Value} {d : DataW H} {p : List MemPlace}
    (hv : Value.okWide Tryd.prog W r b 55 v) (h : DataW.Trod enc Tryd.prog W 0 (fun _ => true) true 55 v d p) (hk : Rows.uptoBulk d ≤ 1048576) :
    ∃ (a : Option Addr) (cap : Nat) (ps : List Pt) (lo hi : ByteArray) (s : Sp) (a2 : Option Addr) (cap2 : Nat) (ss : List Sx), v = .agg #[.slice a ps.length cap, .string lo, .string hi, .int .u64 s.a, .int .u32 s.b, .int .u32 s.c, .slice a2 ss.length cap2] ∧ RowT W a ps ∧ ps.length ≤ 1048576 ∧ s.nn ∧ RowS W a2 ss ∧ ss.length ≤ 1048576 := by
  obtain ⟨cs, rfl, hs⟩ := okWide_struct Tryd.underlying55 hv
  obtain ⟨fuel, hf⟩ := h
  obtain ⟨ys, n, hfu, hd, hl, hlen, hfld⟩ := DataW.trod_struct Tryd.underlying55 hf
  rw [cells_Late] at hl
  obtain ⟨cs⟩ := cs
  simp only [Value.cells] at hl hfld
  obtain ⟨c0, c1, c2, c3, c4, c5, c6, rfl⟩ := list7 hl
  obtain ⟨y0, y1, y2, y3, rfl⟩ := list4 (cs := ys) (by simpa using hlen)
  have g0 := hfld 0 _ rfl
  have s0 : ([c0, c1, c2, c3, c4, c5, c6].drop 0).take (Tryd.prog.cellsOf 22) = [c0] := by rw [cells_puts]; rfl
  have g0' : DataW.trod enc Tryd.prog W 0 (fun _ => true) true n 22 [c0] = some y0 := by rw [← s0]; exact g0
  have g3 := hfld 3 _ rfl
  have s3 : ([c0, c1, c2, c3, c4, c5, c6].drop 6).take (Tryd.prog.cellsOf 53) = [c6] := by rw [cells_steps]; rfl
  have g3' : DataW.trod enc Tryd.prog W 0 (fun _ => true) true n 53 [c6] = some y3 := by rw [← s3]; exact g3
  have hd1 : d = .agg [y0.1, y1.1, y2.1, y3.1] := by injection hd
  have hk0 : Rows.uptoBulk y0.1 ≤ 1048576 ∧ Rows.uptoBulk y3.1 ≤ 1048576 := by rw [hd1] at hk; simp only [Rows.uptoBulk, Rows.uptoBulkAll] at hk; omega
  obtain ⟨a, cap, ps, rfl, hr, hn, _⟩ := puts_cell g0' hk0.1
  obtain ⟨a2, cap2, ss, rfl, hr2, hn2⟩ := steps_cell g3' hk0.2
  obtain ⟨lo, hi, e1⟩ := trod_Spn (hfld 1 _ rfl)
  obtain ⟨s, e2, hsn⟩ := trod_Stm (hfld 2 _ rfl)
  simp [cells_Span, cells_stamp] at e1 e2
  obtain ⟨rfl, rfl⟩ := e1
  obtain ⟨rfl, rfl, rfl⟩ := e2
  exact ⟨a, cap, ps, lo, hi, s, a2, cap2, ss, rfl, hr, hn, hsn, hr2, hn2⟩
end Go.Proofs.YtaknkodjganacaaDoor.Vs
namespace Go.Proofs.YtaknkodjganacaaDoor
open Go.ChangeShapes Go.WideShapes Go.ChangeAt Go.RowKit

set_option maxRecDepth 16000 in
theorem opened_mvccStable {H : Type} {enc : TypeId × Value → H} {W : World} {r : Reach} {b : Nat} {v : Value} {d : DataW H} {p : List MemPlace}
    (hv : Value.okWide Tryd.prog W r b 55 v) (h : DataW.Trod enc Tryd.prog W 0 (fun _ => true) true 55 v d p) (hk : Rows.uptoBulk d ≤ 1048576) (hL : laidMetH Tryd.prog theLaid W) :
    Calls Tryd.prog 4 #[v] W fun e w' => e = .returned (.bool true) ∧ Below W.heap.size W w' := by
  obtain ⟨a, cap, ps, lo, hi, s, a2, cap2, ss, rfl, hr, hn, hs, hr2, hn2⟩ := Vs.open_late hv h hk
  exact Vs.law_stable hr hn hr2 hn2 hs (pow_of hL)
end Go.Proofs.YtaknkodjganacaaDoor
namespace Go.Proofs.YtaknkodjganacaaDoor.mvccStableLast
open Go.ChangeShapes Go.WideShapes Go.ChangeAt Go.RowKit
set_option linter.unusedVariables false

theorem own : ownKnob Tryd.prog.godebug = none := by kernel_rfl
theorem laidOut : laidOutB Tryd.prog = true := by kernel_rfl

set_option maxRecDepth 16000 in
theorem contract (H : Type) (enc : TypeId × Value → H) (W : World) (base : Nat) (args : Array Value) (ds gs : List (DataW H)) (before : List MemPlace)
    (hval : ∀ (j : Nat) t v, Tryd.f4.params[j]? = some t → args[j]? = some v → Value.okWide Tryd.prog W .any base t v)
    (hW : DataW.Whole enc Tryd.prog Tryd.f4.params.toList Rows.mvccStableSpec.vars false W args.toList ds gs before) (hk : Rows.uptoBulkAll (ds ++ gs) ≤ 1048576) (hV : laidMetH Tryd.prog theLaid W) :
    Calls Tryd.prog 4 args W fun e W' => ∃ v, e = .returned v ∧ Rows.mvccStableSpec.post enc Tryd.prog Tryd.f4 false true false false W args v W' := by
  have hW' := hW
  obtain ⟨p, q, hA0, hVr, rfl, hfz, hnd⟩ := hW
  have hA : DataW.TrodAll enc Tryd.prog W 0 (fun _ => true) true Tryd.f4.params.toList args.toList ds p := hA0
  rw [Tryd.params4] at hA hval
  obtain ⟨v0, vs0, d0, ds0, p0, q0, hargs, rfl, rfl, h0, r0⟩ := trodAll_cons hA
  obtain ⟨rfl, rfl, rfl⟩ := trodAll_nil r0
  obtain rfl : args = #[v0] := by cases args; simp_all
  obtain ⟨rfl, rfl⟩ := trodVars_none hVr
  have lt0 : ∀ x ∈ p0, x.block < W.heap.size := by obtain ⟨m, hm⟩ := h0; exact DataW.trod_lt m _ _ _ hm
  clear hA0
  have hk0 : Rows.uptoBulk d0 ≤ 1048576 := by
    simp only [List.cons_append, List.nil_append, Rows.uptoBulkAll] at hk
    omega
  refine (opened_mvccStable (hval 0 55 v0 rfl rfl) h0 hk0 hV).mono fun e W' ⟨he, bel⟩ => ?_
  subst he
  exact ⟨_, rfl, _, _, _, [], _, [], hW', trodAll_mk1 (shut_bool Tryd.underlying4 _), (trodAll_cons_mk (Below.trod laidOut (by kernel_rfl) (of_decide_eq_true (by kernel_rfl)) h0 bel lt0) trodAll_mk0), rfl, bel.frame _, fun h => by cases h⟩

theorem reads (os : Os) {H : Type} (enc : TypeId × Value → H) : ∃ places, DataW.whole enc Tryd.prog (({ World.holding Tryd.prog os ⟨#[], #[], []⟩ with heap := putG (putG (putG (World.holding Tryd.prog os ⟨#[], #[], []⟩).heap 0 (intsOf Rows.laid_internal_strconv_uint64pow10)) 1 (intsOf Rows.laid_math_bits_deBruijn32tab)) 2 (intsOf Rows.laid_math_bits_deBruijn64tab) } : World).forCall (fun _ _ => 0) ⟨#[], #[.agg #[.slice none 0 0, .string ⟨#[]⟩, .string ⟨#[]⟩, .int .u64 0, .int .u32 0, .int .u32 0, .slice none 0 0]], []⟩).memory Tryd.f4.params.toList Rows.mvccStableSpec.vars false #[.agg #[.slice none 0 0, .string ⟨#[]⟩, .string ⟨#[]⟩, .int .u64 0, .int .u32 0, .int .u32 0, .slice none 0 0]].toList 8 = some ([.agg [.nil, .agg [.lit (.string []), .lit (.string [])], .agg [.lit (.int .u64 0), .lit (.int .u32 0), .lit (.int .u32 0)], .nil]], [], places) :=
  ⟨[], by kernel_rfl⟩

set_option maxRecDepth 1000000 in
theorem lifted (os : Os) (started : os.Started) (H : Type) (enc : TypeId × Value → H) (F : Stop.Interp) :
    ReturnsInHanded {} Tryd.checked os 4 .any ((Rows.OpenSpec.upto Rows.mvccStableSpec).preRow enc Tryd.prog Tryd.f4 Rows.mvccStableUptoRow.domain false Rows.mvccStableUptoRow.laid) (((Rows.OpenSpec.upto Rows.mvccStableSpec).at F).post enc Tryd.prog Tryd.f4 false true false false) := by
  obtain ⟨places, hx⟩ := reads os enc
  refine returnsInHanded_of_row (C := Tryd.checked) (s := Rows.OpenSpec.upto Rows.mvccStableSpec) own started (by kernel_rfl) Tryd.func4
    (witness_row_atRef (enc := enc) (C := Tryd.checked) false ({ World.holding Tryd.prog os ⟨#[], #[], []⟩ with heap := putG (putG (putG (World.holding Tryd.prog os ⟨#[], #[], []⟩).heap 0 (intsOf Rows.laid_internal_strconv_uint64pow10)) 1 (intsOf Rows.laid_math_bits_deBruijn32tab)) 2 (intsOf Rows.laid_math_bits_deBruijn64tab) } : World) #[.agg #[.slice none 0 0, .string ⟨#[]⟩, .string ⟨#[]⟩, .int .u64 0, .int .u32 0, .int .u32 0, .slice none 0 0]] rfl (by kernel_rfl) (by kernel_rfl) (by kernel_rfl)
      (OpenSpec.preRow_of_cond 8 hx (by kernel_rfl) (fun k hk => by cases hk; kernel_rfl) (by kernel_rfl) (laid_met os _))) ?_
  intro W base args ds gs before hval hW _ hcond _ hL hsh _
  exact contract H enc W base args ds gs before hval hW (of_decide_eq_true (hcond _ rfl)) hL

theorem said : Rows.MvccStableUptoSaid :=
  OpenClaim.holds_of_cond 4 Tryd.f4 rfl rfl rfl rfl rfl rfl rfl ⟨rfl, rfl, rfl, rfl, rfl⟩ rfl rfl rfl rfl rfl (by kernel_rfl) Tryd.func4 (by kernel_rfl)
    (of_decide_eq_true (by kernel_rfl)) (by unfold Func.isWrapper; first | (rw [if_pos (by decide +kernel)]; kernel_rfl) | (rw [if_neg (by decide +kernel)]; exact ⟨rfl, rfl⟩))
    (fun os started H enc _ F => by rw [OpenClaim.pre_eq_preRow]; exact lifted os started H enc F)

theorem plain (f : FuncId) (fn : Func) (hf : Tryd.pinned.checked.prog.funcNamed "tidemark/tidemarklaw9.MvccStable" = some f) (hfn : Tryd.pinned.checked.prog.funcs[f]? = some fn) :
    false = Tryd.pinned.checked.prog.looks [] ∧ ∀ (j : Nat) t, fn.params[j]? = some t → Tryd.pinned.checked.prog.wantsStandIn t = false := by
  obtain rfl : f = 4 := Option.some.inj ((show Tryd.prog.funcNamed "tidemark/tidemarklaw9.MvccStable" = some 4 by kernel_rfl).symm.trans hf) |>.symm
  obtain rfl : fn = Tryd.f4 := (Option.some.inj (Tryd.func4.symm.trans hfn)).symm
  refine ⟨by kernel_rfl, fun j t ht => ?_⟩
  rw [Tryd.params4] at ht
  obtain rfl : t = 55 := by simpa using Array.mem_of_getElem? ht
  exact (show Tryd.prog.wantsStandIn 55 = false by kernel_rfl)

theorem card : Rows.MvccStableUptoCardSaid :=
  Claim7.holds_tied_plain_at .later [] _ _ _ _ said (fun _ h => by cases h) (by kernel_rfl) (fun _ h => by cases h) mvccStableUpto_row_tie rfl ⟨rfl, rfl⟩ (by kernel_rfl) rfl plain (by kernel_rfl)
end Go.Proofs.YtaknkodjganacaaDoor.mvccStableLast
namespace Go.Proofs.YtaknkodjganacaaDoor
theorem mvccStable_holds : Rows.MvccStableUptoCardSaid := mvccStableLast.card
#print axioms mvccStable_holds
end Go.Proofs.YtaknkodjganacaaDoor
