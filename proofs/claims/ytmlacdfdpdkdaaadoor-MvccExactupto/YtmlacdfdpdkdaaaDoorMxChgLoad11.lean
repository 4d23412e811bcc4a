import Derived.Test.YtmlacdfdpdkdaaaDoorDOnl
import Derived.Shelf.Abstract
import Derived.Deep.AppendLies
import Derived.Deep.RegionLaw
import Derived.Test.YtmlacdfdpdkdaaaDoorMxChgNew
import Derived.Test.YtmlacdfdpdkdaaaDoorRvLoad
import Derived.Test.YtmlacdfdpdkdaaaDoorVAt
import Derived.Test.YtmlacdfdpdkdaaaDoorRvAbove
import Derived.Test.YtmlacdfdpdkdaaaDoorRvUnt
import Derived.Test.YtmlacdfdpdkdaaaDoorMxLoad
import Derived.Deep.RegionHeld3
import Derived.Deep.RegionWith
/- A call of a Go function at a step of a region that draws its order: for go_region_law, beside step_append_lies. -/
namespace Go.Proofs.YtmlacdfdpdkdaaaDoor
open Go.RowKit Go.Shelf
set_option linter.unusedVariables false

theorem step_call {P : Program} {w : World} {ops : Array Oper} {o : Oper} {a : Act} {K : Act → World → Prop} {Q : Exit → Act → World → Prop} {E : Prop} (hgd : o.guard = none) (f : FuncId) (args : Array Operand) (ts : Array TypeId)
    (ho : o.op = .call { callee := .value (.func f), args := args, argTypes := ts }) (hent : Enters P f) (vs : Array Value) (hvs : args.map a.eval = vs) (R : Value → World → Prop)
    (hc : Calls P f vs w fun e w' => ∃ v, e = .returned v ∧ R v w') (h : ∀ v w', R v w' → K (a.put o.dst v) w') :
    if Region.wanted o (yielded ops a.tmps) = true then Oper.wp P o a w K Q else E := by
  have hw : Region.wanted o (yielded ops a.tmps) = true := by simp [Region.wanted, hgd]
  rw [if_pos hw]
  unfold Oper.wp execOp
  have he : (callFunc f vs).run P w = .ok (.enter f vs) w := hent vs w
  simp only [ho, resolve, hvs, Deferred.ofValue, Act.eval, invoke, Sem.run_bind, Sem.run_pure, Result.andThen_ok, Array.append_empty, Array.empty_append, he]
  rw [Oper.upon_enter]
  refine hc.mono ?_
  rintro e w' ⟨v, rfl, hr⟩
  exact h v w' hr
end Go.Proofs.YtmlacdfdpdkdaaaDoor
/- The law's changes: load00. -/
namespace Go.Proofs.YtmlacdfdpdkdaaaDoor.Bg
open Go.RowKit Go.Sort Go.Proofs.YtmlacdfdpdkdaaaDoor Go.Proofs.YtmlacdfdpdkdaaaDoor.Vs
set_option linter.unusedVariables false

set_option maxRecDepth 8000 in
set_option maxHeartbeats 4000000 in
theorem chg_load00 {W w : World} {b m n j : Nat} {x : Sv} (hP : PowTab W) (h : Sx W w b x m) (hx : Eqs x n) (s : Sc) (hn : n + s.ws.length + s.vs.length ≤ 1048576) (hw : RowW W s.wa s.ws) (hv : RowV W s.va s.vs) (ht : s.t.a ≤ 18446744073709551615) (hvs : ∀ e ∈ s.vs, e.2.s.a ≤ 18446744073709551615) (hj : j < 2) (hb : bits BinOp.and IntKind.i64 s.o 1 = (j : Int)) (hk : s.k = 9) (hA : ldE s.vs ≠ 0) (hB : ldE s.vs.reverse ≠ 0) :
    Calls Tryd.prog 9 #[pt b, .agg s.cells] w fun e w' => e = .returned (.bool true) ∧ Hid (Ch W w' b m (n + s.ws.length + s.vs.length)) := by
  obtain ⟨wb, hwb⟩ : ∃ wb, wb = w.alloc (.cells s.cells 58) := ⟨_, rfl⟩
  have hbb : Below w.heap.size w wb := by rw [hwb]; exact Below.al (Below.refl _ _) _
  obtain ⟨q, hq⟩ : ∃ q, q = w.heap.size := ⟨_, rfl⟩
  have HX := hid hx
  obtain ⟨c, s0, z0, h, hcq⟩ : ∃ c s0 z0, St W wb c b { x with s := s0, z := z0 } m ∧ c q = 22 := by
    obtain ⟨c0, s0, z0, h0⟩ := h
    obtain ⟨c, h1, _, h2⟩ := h0.later hbb (fun _ => 22)
    refine ⟨c, s0, z0, h1, h2 q (by omega) ?_⟩
    have hbx : wb.heap[w.heap.size]? = some (.cells s.cells 58 (0, 0)) := by rw [hwb]; exact World.alloc_heap_new _ _
    rw [hq]
    exact not_ixB hbx (fun h => by rcases h with h | h | h <;> exact absurd h (by decide))
  have HS := hid h
  have HCQ := hid hcq
  obtain ⟨x0, x1, x2, x3, x4, x5, x6, x7, x8⟩ := Bx.of s hwb
  rw [← hq] at x0 x1 x2 x3 x4 x5 x6 x7 x8
  have y0 := h.cp j hj
  have y1 := h.cq j hj
  have hcj := hx.c j hj
  have hst := h.st j hj
  have hrs := h.rs j hj
  have hgd := hst.good
  simp only [hx.m, hx.k] at hst hrs hgd y0 y1
  have RM := hid (roomyV_is (c := s.vc) (w := wb) (hv.later h.bl) (by omega) (hP.later h.bl))
  have HWB := hid hwb
  have HQ := hid hq
  have HPT := hid hP
  have HW := hid hw
  have HV := hid hv
  have HT := hid ht
  have HVS := hid hvs
  have HNN := hid hn
  clear h hx hbb hq hwb hst hrs hgd hcq hP hw hv ht hvs
  rw [hk] at x0
  go_enter Tryd.func9, Tryd.ntmps9
  go_upto_region 1 with fail
  rw [← HWB.out, ← HQ.out]
  have hJ : (j : Int) < 2 := by omega
  go_wp2_with fail
  refine RM.out.mono ?_
  rintro e w1 ⟨g, rfl, hry⟩
  have HRY := hid hry
  have LD1 := hid (stoload_is (c := s.vs.length + 3) s.t hry.row (by omega))
  replace x2 := cell_later hry.bl x2
  replace x3 := cell_later hry.bl x3
  replace x4 := cell_later hry.bl x4
  replace x8 := cell_later hry.bl x8
  have HX0 := hid x1
  clear RM x0 x1 x5 x6 x7 hry
  go_wp2_with fail
  refine LD1.out.mono ?_
  rintro e w2 ⟨hp2, hb2⟩
  obtain rfl : e = .returned (.tuple #[.pointer none, .int .i64 (ldE s.vs)]) := by
    rcases hp2 with ⟨h0, _⟩ | ⟨_, h⟩
    · exact absurd h0 hA
    · exact h
  clear hp2
  replace x2 := cell_later hb2 x2
  replace x3 := cell_later hb2 x3
  replace x4 := cell_later hb2 x4
  replace x8 := cell_later hb2 x8
  have HB2 := hid hb2
  have LD2 := hid (rload_is (c := s.vc) ((HV.out.later HS.out.bl).later (Below.on HRY.out.bl hb2)) (by omega) s.t HVS.out)
  clear LD1 hb2
  go_wp2_with fail
  refine LD2.out.mono ?_
  rintro e w3 ⟨hb3, hp3⟩
  obtain rfl : e = .returned (.tuple #[.pointer none, .int .i64 (ldE s.vs)]) := by
    rcases hp3 with ⟨h0, _⟩ | ⟨_, h⟩
    · exact absurd h0 hA
    · exact h
  clear hp3
  replace x2 := cell_later hb3 x2
  replace x3 := cell_later hb3 x3
  replace x4 := cell_later hb3 x4
  replace x8 := cell_later hb3 x8
  have HB3 := hid hb3
  have HB13 : Hid (Below w1.heap.size w1 w3) := Below.on HB2.out hb3
  have UN := hid (untouchedV_is (c := s.vc) (w := w3) (g := g) (StandV.later (show StandV w1 g s.vs from HRY.out.cells) HB13.out) ((HV.out.later HS.out.bl).later (Below.on HRY.out.bl HB13.out)) (by omega) (HPT.out.later (HS.out.bl.trans ((Below.on HRY.out.bl HB13.out).mono HS.out.bl.size))))
  clear LD2 hb3
  go_wp2_with fail
  refine UN.out.mono ?_
  rintro e w4 ⟨rfl, hb4⟩
  replace x2 := cell_later hb4 x2
  replace x3 := cell_later hb4 x3
  replace x4 := cell_later hb4 x4
  have HB14 : Hid (Below w1.heap.size w1 w4) := Below.on HB13.out hb4
  have HB34 := hid hb4
  clear UN hb4 x8
  have hN := HNN.out
  obtain ⟨N, hNN⟩ : ∃ N, N = s.vs.length := ⟨_, rfl⟩
  have HN := hid hNN
  have HL0 : Hid (Lp w4 w4 g s.vs 0) := by
    obtain ⟨f, f1, f2, _⟩ := HRY.out.cells
    exact Lp.start (f1.later HB14.out) f2 (HRY.out.ty.later HB14.out)
  have hNle : N ≤ 1048576 := by omega
  rw [← hNN]
  clear hNN hN
  go_wp2_with fail
  go_loopg [12] (N / 2) (fun gg s12 wr => ∃ k : Nat, k ≤ N / 2 ∧ gg = N / 2 - k ∧ s12 = .int .i64 k ∧ Hid (Lp w4 wr g s.vs k))
  case atStart => exact ⟨0, by omega, by omega, rfl, HL0.out⟩
  case round =>
    obtain ⟨k, hk9, rfl, rfl, HLP⟩ := hrel
    by_cases hlt : k < N / 2
    · have hlt' : k < s.vs.length / 2 := by rw [← HN.out]; exact hlt
      obtain ⟨d0, d1, d2, d3, d4, d5⟩ := HLP.out.cells k (by omega)
      obtain ⟨e0, e1, e2, e3, e4, e5⟩ := HLP.out.cells (s.vs.length - 1 - k) (by omega)
      rw [sw_lo _ hlt'] at d0 d1 d2 d3 d4 d5
      rw [sw_hi _ hlt', ← HN.out] at e0 e1 e2 e3 e4 e5
      have fz : ∀ o, wr.frozen? ⟨g, o, none⟩ = false := Typ.free HLP.out.ty
      have hgl : g ≠ wr.heap.size := by have := HLP.out.ty.lt; omega
      have HSW : Hid (∀ wa, Below wr.heap.size wr wa → Lp w4 (setV (setV wa g k (nthK s.vs (N - 1 - k))) g (N - 1 - k) (nthK s.vs k)) g s.vs (k + 1)) := fun wa hb => by
        have := HLP.out.swap hlt' hb
        rw [← HN.out] at this
        exact this
      generalize nthK s.vs k = y1 at d0 d1 d2 d3 d4 d5 HSW
      generalize nthK s.vs (N - 1 - k) = y2 at e0 e1 e2 e3 e4 e5 HSW
      obtain ⟨wa, hwa⟩ : ∃ wa, wa = wr.alloc (.cells #[.string y1.1, .int .u64 y1.2.s.a, .int .u32 y1.2.s.b, .int .u32 y1.2.s.c, .bool y1.2.del, .string y1.2.val] 76) := ⟨_, rfl⟩
      have hba : Below wr.heap.size wr wa := by rw [hwa]; exact Below.al (Below.refl _ _) _
      have hka : wa.heap[wr.heap.size]? = some (.cells #[.string y1.1, .int .u64 y1.2.s.a, .int .u32 y1.2.s.b, .int .u32 y1.2.s.c, .bool y1.2.del, .string y1.2.val] 76 (0, 0)) := by rw [hwa]; exact World.alloc_heap_new _ _
      have HWA := hid hwa
      have fy : ∀ o, wa.frozen? ⟨g, o, none⟩ = false := fun o => (hba.frozen (p := ⟨g, o, none⟩) HLP.out.ty.lt).trans (fz o)
      have a0 := cell_later hba d0
      have a1 := cell_later hba d1
      have a2 := cell_later hba d2
      have a3 := cell_later hba d3
      have a4 := cell_later hba d4
      have a5 := cell_later hba d5
      replace e0 := cell_later hba e0
      replace e1 := cell_later hba e1
      replace e2 := cell_later hba e2
      replace e3 := cell_later hba e3
      replace e4 := cell_later hba e4
      replace e5 := cell_later hba e5
      obtain ⟨bx, hbx⟩ : ∃ bx, bx = wr.heap.size := ⟨_, rfl⟩
      have HBX := hid hbx
      rw [← hbx] at hka hgl
      have b0 : wa.cell? ⟨bx, 0, none⟩ = some (.string y1.1) := cell_obj hka rfl
      have b1 : wa.cell? ⟨bx, 1, none⟩ = some (.int .u64 y1.2.s.a) := cell_obj hka rfl
      have b2 : wa.cell? ⟨bx, 2, none⟩ = some (.int .u32 y1.2.s.b) := cell_obj hka rfl
      have b3 : wa.cell? ⟨bx, 3, none⟩ = some (.int .u32 y1.2.s.c) := cell_obj hka rfl
      have b4 : wa.cell? ⟨bx, 4, none⟩ = some (.bool y1.2.del) := cell_obj hka rfl
      have b5 : wa.cell? ⟨bx, 5, none⟩ = some (.string y1.2.val) := cell_obj hka rfl
      have HSA := hid (HSW.out wa hba)
      have hNk : N - 1 - k ≠ k := by omega
      clear hwa hba hka hbx HSW
      go_upto_region 24 with fail
      rw [← HWA.out, ← HBX.out]
      clear d0 d1 d2 d3 d4 d5 fz
      go_wp2_with fail
      go_roundg (N / 2 - (k + 1))
      case measure => omega
      case rel => exact ⟨k + 1, by omega, rfl, by go_num, HSA.out⟩
    · obtain rfl : k = N / 2 := by omega
      have hqg : ¬ (fun b => b = g) q := fun e => by
        have h1 := World.block_lt_of_cell? _ _ HX0.out
        have h2 := HRY.out.low
        have e : q = g := e
        simp only at h1
        omega
      replace x2 := HLP.out.onl.cell hqg x2
      replace x3 := HLP.out.onl.cell hqg x3
      replace x4 := HLP.out.onl.cell hqg x4
      have hLR : s.vs.reverse.length = N := by rw [List.length_reverse, ← HN.out]
      have HLR := hid hLR
      have HROW : Hid (RowV wr (some ⟨g, 0, none⟩) s.vs.reverse) := by
        have := HLP.out
        rw [HN.out] at this
        exact this.row
      have LD3 := hid (stoload_is (c := N + 3) s.t HROW.out (by omega))
      rw [hLR] at LD3
      clear hlt hk9 hLR
      go_wp2_with fail
      refine LD3.out.mono ?_
      rintro e w5 ⟨hp5, hb5⟩
      obtain rfl : e = .returned (.tuple #[.pointer none, .int .i64 (ldE s.vs.reverse)]) := by
        rcases hp5 with ⟨h0, _⟩ | ⟨_, h⟩
        · exact absurd h0 hB
        · exact h
      clear hp5
      replace x2 := cell_later hb5 x2
      replace x3 := cell_later hb5 x3
      replace x4 := cell_later hb5 x4
      have HB5 := hid hb5
      clear LD3 hb5
      have hrd5 : Rd elV w5.drew (.slice (some ⟨g, 0, none⟩) N (N + 3)) s.vs.reverse := by
        have := rd_of_rowV (c := N + 3) ((HROW.out.later HB5.out).later (w' := w5.drew) (Below.drew (Below.refl _ _)))
        rw [HLR.out] at this
        exact this
      obtain ⟨v6, w6, hr6, hrow6, hg6, _⟩ := run_append_F okV (w := w5.drew) (B := w5.heap.size) (RowF.nil _ _) hrd5 56 (by have := HLR.out; simp only [List.length_nil, Nat.zero_add]; omega) (Nat.le_refl _)
      obtain ⟨a6, k6, rfl, _, _⟩ := hrow6.slice
      rw [List.nil_append] at hrow6 hr6
      rw [HLR.out] at hrow6 hr6
      have hb56 : Below w5.heap.size w5 w6 := ⟨hg6.os, hg6.tape, hg6.output, hg6.size, fun k hk => hg6.block k hk (fun e => by cases e)⟩
      have R6 := hid hr6
      have HROW6 : Hid (RowV w6 a6 s.vs.reverse) := rowV_of hrow6.rd
      have HB56 := hid hb56
      have c2 := cell_later hb56 x2
      have c3 := cell_later hb56 x3
      have c4 := cell_later hb56 x4
      have ENT : Enters Tryd.prog 40 := enters_of Tryd.func40 (by kernel_rfl) rfl
      have CR : Hid (Calls Tryd.prog 40 #[.slice a6 N k6, sv s.t] w6 fun e w' => ∃ v, e = .returned v ∧ v = .tuple #[.pointer none, .int .i64 (ldE s.vs.reverse)] ∧ Hid (Below w6.heap.size w6 w')) := by
        have h7 := rload_is (c := k6) HROW6.out (by rw [HLR.out]; omega) s.t (fun e he => HVS.out e (List.mem_reverse.1 he))
        rw [HLR.out] at h7
        refine h7.mono ?_
        rintro e w' ⟨hb, h8⟩
        rcases h8 with ⟨h0, _⟩ | ⟨_, h9⟩
        · exact absurd h0 hB
        · exact ⟨_, h9, rfl, hb⟩
      clear hrd5 hr6 hrow6 hg6 hb56
      go_wp2_with fail
      go_region_law (first | (refine step_append_runB rfl (.const (.slice none 0 0)) (.tmp 175) 56 56 rfl (.slice none 0 0) (.slice (some ⟨g, 0, none⟩) N (N + 3)) (by simp [Act.eval]) (by simp [Act.eval, Act.put]) R6.out ?_) | (refine step_call rfl 40 #[.tmp 176, .tmp 178] #[56, 33] rfl ENT #[.slice a6 N k6, sv s.t] ?hv _ CR.out ?_; (case hv => (simp [Act.eval]; done)); rintro xv w7 ⟨rfl, HB7⟩))
      all_goals (try go_wp2_with fail)
      all_goals
        have HBR7 : Hid (Below wr.heap.size wr w7) := Below.on (Below.on HB5.out HB56.out) HB7.out
        obtain ⟨w10, hw10⟩ : ∃ w10, w10 = w7 := ⟨_, rfl⟩
        have HB10 : Hid (Below wr.heap.size wr w10) := by rw [hw10]; exact HBR7.out
        rw [← hw10]
        clear x2 x3 x4 c2 c3 c4 hw10
        have HNG : Hid (W.heap.size ≤ g) := Nat.le_trans HS.out.bl.size HRY.out.low
        have SP : Hid (Calls Tryd.prog 42 #[.slice (some ⟨g, 0, none⟩) N (N + 3)] w10 fun e w' => e = .returned (.tuple #[]) ∧ Onl (fun b => b = g) w10 w') := by
          have ht := HLP.out.ty.later HB10.out
          have hcl := HLP.out.cells.later HB10.out
          rw [← HN.out] at hcl
          refine (spoil_is (c := N + 3) hcl (fun o => Typ.free ht o) ht.lt (by omega) (fun w' ho => HPT.out.later (HS.out.bl.trans ((load_below HRY.out.low HRY.out.bl HB14.out HLP.out HB10.out ho).mono HS.out.bl.size)))).mono ?_
          rintro e w' ⟨h1, h2, _⟩
          exact ⟨h1, h2⟩
        refine SP.out.mono ?_
        rintro e w11 ⟨rfl, ho11⟩
        have HBW : Hid (Below wb.heap.size wb w11) := load_below HRY.out.low HRY.out.bl HB14.out HLP.out HB10.out ho11
        have HFI : Hid (Ch W w11 b m (n + s.ws.length + s.vs.length)) := ⟨x, (show Sx W wb b x m from ⟨c, s0, z0, HS.out⟩).later HBW.out, HX.out.mono (by omega)⟩
        clear SP ho11 y0 y1
        go_wp2_with fail
        go_ret
        exact ⟨rfl, HFI⟩
end Go.Proofs.YtmlacdfdpdkdaaaDoor.Bg
/- The law's changes: load01. -/
namespace Go.Proofs.YtmlacdfdpdkdaaaDoor.Bg
open Go.RowKit Go.Sort Go.Proofs.YtmlacdfdpdkdaaaDoor Go.Proofs.YtmlacdfdpdkdaaaDoor.Vs
set_option linter.unusedVariables false

set_option maxRecDepth 8000 in
set_option maxHeartbeats 4000000 in
theorem chg_load01 {W w : World} {b m n j : Nat} {x : Sv} (hP : PowTab W) (h : Sx W w b x m) (hx : Eqs x n) (s : Sc) (hn : n + s.ws.length + s.vs.length ≤ 1048576) (hw : RowW W s.wa s.ws) (hv : RowV W s.va s.vs) (ht : s.t.a ≤ 18446744073709551615) (hvs : ∀ e ∈ s.vs, e.2.s.a ≤ 18446744073709551615) (hj : j < 2) (hb : bits BinOp.and IntKind.i64 s.o 1 = (j : Int)) (hk : s.k = 9) (hA : ldE s.vs ≠ 0) (hB : ldE s.vs.reverse = 0) :
    Calls Tryd.prog 9 #[pt b, .agg s.cells] w fun e w' => e = .returned (.bool true) ∧ Hid (Ch W w' b m (n + s.ws.length + s.vs.length)) := by
  obtain ⟨wb, hwb⟩ : ∃ wb, wb = w.alloc (.cells s.cells 58) := ⟨_, rfl⟩
  have hbb : Below w.heap.size w wb := by rw [hwb]; exact Below.al (Below.refl _ _) _
  obtain ⟨q, hq⟩ : ∃ q, q = w.heap.size := ⟨_, rfl⟩
  have HX := hid hx
  obtain ⟨c, s0, z0, h, hcq⟩ : ∃ c s0 z0, St W wb c b { x with s := s0, z := z0 } m ∧ c q = 22 := by
    obtain ⟨c0, s0, z0, h0⟩ := h
    obtain ⟨c, h1, _, h2⟩ := h0.later hbb (fun _ => 22)
    refine ⟨c, s0, z0, h1, h2 q (by omega) ?_⟩
    have hbx : wb.heap[w.heap.size]? = some (.cells s.cells 58 (0, 0)) := by rw [hwb]; exact World.alloc_heap_new _ _
    rw [hq]
    exact not_ixB hbx (fun h => by rcases h with h | h | h <;> exact absurd h (by decide))
  have HS := hid h
  have HCQ := hid hcq
  obtain ⟨x0, x1, x2, x3, x4, x5, x6, x7, x8⟩ := Bx.of s hwb
  rw [← hq] at x0 x1 x2 x3 x4 x5 x6 x7 x8
  have y0 := h.cp j hj
  have y1 := h.cq j hj
  have hcj := hx.c j hj
  have hst := h.st j hj
  have hrs := h.rs j hj
  have hgd := hst.good
  simp only [hx.m, hx.k] at hst hrs hgd y0 y1
  have RM := hid (roomyV_is (c := s.vc) (w := wb) (hv.later h.bl) (by omega) (hP.later h.bl))
  have HWB := hid hwb
  have HQ := hid hq
  have HPT := hid hP
  have HW := hid hw
  have HV := hid hv
  have HT := hid ht
  have HVS := hid hvs
  have HNN := hid hn
  clear h hx hbb hq hwb hst hrs hgd hcq hP hw hv ht hvs
  rw [hk] at x0
  go_enter Tryd.func9, Tryd.ntmps9
  go_upto_region 1 with fail
  rw [← HWB.out, ← HQ.out]
  have hJ : (j : Int) < 2 := by omega
  go_wp2_with fail
  refine RM.out.mono ?_
  rintro e w1 ⟨g, rfl, hry⟩
  have HRY := hid hry
  have LD1 := hid (stoload_is (c := s.vs.length + 3) s.t hry.row (by omega))
  replace x2 := cell_later hry.bl x2
  replace x3 := cell_later hry.bl x3
  replace x4 := cell_later hry.bl x4
  replace x8 := cell_later hry.bl x8
  have HX0 := hid x1
  clear RM x0 x1 x5 x6 x7 hry
  go_wp2_with fail
  refine LD1.out.mono ?_
  rintro e w2 ⟨hp2, hb2⟩
  obtain rfl : e = .returned (.tuple #[.pointer none, .int .i64 (ldE s.vs)]) := by
    rcases hp2 with ⟨h0, _⟩ | ⟨_, h⟩
    · exact absurd h0 hA
    · exact h
  clear hp2
  replace x2 := cell_later hb2 x2
  replace x3 := cell_later hb2 x3
  replace x4 := cell_later hb2 x4
  replace x8 := cell_later hb2 x8
  have HB2 := hid hb2
  have LD2 := hid (rload_is (c := s.vc) ((HV.out.later HS.out.bl).later (Below.on HRY.out.bl hb2)) (by omega) s.t HVS.out)
  clear LD1 hb2
  go_wp2_with fail
  refine LD2.out.mono ?_
  rintro e w3 ⟨hb3, hp3⟩
  obtain rfl : e = .returned (.tuple #[.pointer none, .int .i64 (ldE s.vs)]) := by
    rcases hp3 with ⟨h0, _⟩ | ⟨_, h⟩
    · exact absurd h0 hA
    · exact h
  clear hp3
  replace x2 := cell_later hb3 x2
  replace x3 := cell_later hb3 x3
  replace x4 := cell_later hb3 x4
  replace x8 := cell_later hb3 x8
  have HB3 := hid hb3
  have HB13 : Hid (Below w1.heap.size w1 w3) := Below.on HB2.out hb3
  have UN := hid (untouchedV_is (c := s.vc) (w := w3) (g := g) (StandV.later (show StandV w1 g s.vs from HRY.out.cells) HB13.out) ((HV.out.later HS.out.bl).later (Below.on HRY.out.bl HB13.out)) (by omega) (HPT.out.later (HS.out.bl.trans ((Below.on HRY.out.bl HB13.out).mono HS.out.bl.size))))
  clear LD2 hb3
  go_wp2_with fail
  refine UN.out.mono ?_
  rintro e w4 ⟨rfl, hb4⟩
  replace x2 := cell_later hb4 x2
  replace x3 := cell_later hb4 x3
  replace x4 := cell_later hb4 x4
  have HB14 : Hid (Below w1.heap.size w1 w4) := Below.on HB13.out hb4
  have HB34 := hid hb4
  clear UN hb4 x8
  have hN := HNN.out
  obtain ⟨N, hNN⟩ : ∃ N, N = s.vs.length := ⟨_, rfl⟩
  have HN := hid hNN
  have HL0 : Hid (Lp w4 w4 g s.vs 0) := by
    obtain ⟨f, f1, f2, _⟩ := HRY.out.cells
    exact Lp.start (f1.later HB14.out) f2 (HRY.out.ty.later HB14.out)
  have hNle : N ≤ 1048576 := by omega
  rw [← hNN]
  clear hNN hN
  go_wp2_with fail
  go_loopg [12] (N / 2) (fun gg s12 wr => ∃ k : Nat, k ≤ N / 2 ∧ gg = N / 2 - k ∧ s12 = .int .i64 k ∧ Hid (Lp w4 wr g s.vs k))
  case atStart => exact ⟨0, by omega, by omega, rfl, HL0.out⟩
  case round =>
    obtain ⟨k, hk9, rfl, rfl, HLP⟩ := hrel
    by_cases hlt : k < N / 2
    · have hlt' : k < s.vs.length / 2 := by rw [← HN.out]; exact hlt
      obtain ⟨d0, d1, d2, d3, d4, d5⟩ := HLP.out.cells k (by omega)
      obtain ⟨e0, e1, e2, e3, e4, e5⟩ := HLP.out.cells (s.vs.length - 1 - k) (by omega)
      rw [sw_lo _ hlt'] at d0 d1 d2 d3 d4 d5
      rw [sw_hi _ hlt', ← HN.out] at e0 e1 e2 e3 e4 e5
      have fz : ∀ o, wr.frozen? ⟨g, o, none⟩ = false := Typ.free HLP.out.ty
      have hgl : g ≠ wr.heap.size := by have := HLP.out.ty.lt; omega
      have HSW : Hid (∀ wa, Below wr.heap.size wr wa → Lp w4 (setV (setV wa g k (nthK s.vs (N - 1 - k))) g (N - 1 - k) (nthK s.vs k)) g s.vs (k + 1)) := fun wa hb => by
        have := HLP.out.swap hlt' hb
        rw [← HN.out] at this
        exact this
      generalize nthK s.vs k = y1 at d0 d1 d2 d3 d4 d5 HSW
      generalize nthK s.vs (N - 1 - k) = y2 at e0 e1 e2 e3 e4 e5 HSW
      obtain ⟨wa, hwa⟩ : ∃ wa, wa = wr.alloc (.cells #[.string y1.1, .int .u64 y1.2.s.a, .int .u32 y1.2.s.b, .int .u32 y1.2.s.c, .bool y1.2.del, .string y1.2.val] 76) := ⟨_, rfl⟩
      have hba : Below wr.heap.size wr wa := by rw [hwa]; exact Below.al (Below.refl _ _) _
      have hka : wa.heap[wr.heap.size]? = some (.cells #[.string y1.1, .int .u64 y1.2.s.a, .int .u32 y1.2.s.b, .int .u32 y1.2.s.c, .bool y1.2.del, .string y1.2.val] 76 (0, 0)) := by rw [hwa]; exact World.alloc_heap_new _ _
      have HWA := hid hwa
      have fy : ∀ o, wa.frozen? ⟨g, o, none⟩ = false := fun o => (hba.frozen (p := ⟨g, o, none⟩) HLP.out.ty.lt).trans (fz o)
      have a0 := cell_later hba d0
      have a1 := cell_later hba d1
      have a2 := cell_later hba d2
      have a3 := cell_later hba d3
      have a4 := cell_later hba d4
      have a5 := cell_later hba d5
      replace e0 := cell_later hba e0
      replace e1 := cell_later hba e1
      replace e2 := cell_later hba e2
      replace e3 := cell_later hba e3
      replace e4 := cell_later hba e4
      replace e5 := cell_later hba e5
      obtain ⟨bx, hbx⟩ : ∃ bx, bx = wr.heap.size := ⟨_, rfl⟩
      have HBX := hid hbx
      rw [← hbx] at hka hgl
      have b0 : wa.cell? ⟨bx, 0, none⟩ = some (.string y1.1) := cell_obj hka rfl
      have b1 : wa.cell? ⟨bx, 1, none⟩ = some (.int .u64 y1.2.s.a) := cell_obj hka rfl
      have b2 : wa.cell? ⟨bx, 2, none⟩ = some (.int .u32 y1.2.s.b) := cell_obj hka rfl
      have b3 : wa.cell? ⟨bx, 3, none⟩ = some (.int .u32 y1.2.s.c) := cell_obj hka rfl
      have b4 : wa.cell? ⟨bx, 4, none⟩ = some (.bool y1.2.del) := cell_obj hka rfl
      have b5 : wa.cell? ⟨bx, 5, none⟩ = some (.string y1.2.val) := cell_obj hka rfl
      have HSA := hid (HSW.out wa hba)
      have hNk : N - 1 - k ≠ k := by omega
      clear hwa hba hka hbx HSW
      go_upto_region 24 with fail
      rw [← HWA.out, ← HBX.out]
      clear d0 d1 d2 d3 d4 d5 fz
      go_wp2_with fail
      go_roundg (N / 2 - (k + 1))
      case measure => omega
      case rel => exact ⟨k + 1, by omega, rfl, by go_num, HSA.out⟩
    · obtain rfl : k = N / 2 := by omega
      have hqg : ¬ (fun b => b = g) q := fun e => by
        have h1 := World.block_lt_of_cell? _ _ HX0.out
        have h2 := HRY.out.low
        have e : q = g := e
        simp only at h1
        omega
      replace x2 := HLP.out.onl.cell hqg x2
      replace x3 := HLP.out.onl.cell hqg x3
      replace x4 := HLP.out.onl.cell hqg x4
      have hLR : s.vs.reverse.length = N := by rw [List.length_reverse, ← HN.out]
      have HLR := hid hLR
      have HROW : Hid (RowV wr (some ⟨g, 0, none⟩) s.vs.reverse) := by
        have := HLP.out
        rw [HN.out] at this
        exact this.row
      have LD3 := hid (stoload_is (c := N + 3) s.t HROW.out (by omega))
      rw [hLR] at LD3
      clear hlt hk9 hLR
      go_wp2_with fail
      refine LD3.out.mono ?_
      rintro e w5 ⟨hp5, hb5⟩
      obtain ⟨q5, F5, rfl, hs5⟩ : ∃ q5 F5, e = .returned (.tuple #[pt q5, .int .i64 0]) ∧ Sto F5 w5 q5 (loadM s.vs.reverse) s.t := by
        rcases hp5 with ⟨_, p5, F5, h5, h6, _⟩ | ⟨hne, _⟩
        · exact ⟨p5, F5, h5, h6⟩
        · exact absurd hB hne
      have HS5 := hid hs5
      clear hs5 hp5
      replace x2 := cell_later hb5 x2
      replace x3 := cell_later hb5 x3
      replace x4 := cell_later hb5 x4
      have HB5 := hid hb5
      clear LD3 hb5
      have hrd5 : Rd elV w5.drew (.slice (some ⟨g, 0, none⟩) N (N + 3)) s.vs.reverse := by
        have := rd_of_rowV (c := N + 3) ((HROW.out.later HB5.out).later (w' := w5.drew) (Below.drew (Below.refl _ _)))
        rw [HLR.out] at this
        exact this
      obtain ⟨v6, w6, hr6, hrow6, hg6, _⟩ := run_append_F okV (w := w5.drew) (B := w5.heap.size) (RowF.nil _ _) hrd5 56 (by have := HLR.out; simp only [List.length_nil, Nat.zero_add]; omega) (Nat.le_refl _)
      obtain ⟨a6, k6, rfl, _, _⟩ := hrow6.slice
      rw [List.nil_append] at hrow6 hr6
      rw [HLR.out] at hrow6 hr6
      have hb56 : Below w5.heap.size w5 w6 := ⟨hg6.os, hg6.tape, hg6.output, hg6.size, fun k hk => hg6.block k hk (fun e => by cases e)⟩
      have R6 := hid hr6
      have HROW6 : Hid (RowV w6 a6 s.vs.reverse) := rowV_of hrow6.rd
      have HB56 := hid hb56
      have c2 := cell_later hb56 x2
      have c3 := cell_later hb56 x3
      have c4 := cell_later hb56 x4
      have ENT : Enters Tryd.prog 40 := enters_of Tryd.func40 (by kernel_rfl) rfl
      have CR : Hid (Calls Tryd.prog 40 #[.slice a6 N k6, sv s.t] w6 fun e w' => ∃ v, e = .returned v ∧ ∃ t7, v = .tuple #[pt t7, .int .i64 0] ∧ Hid (Below w6.heap.size w6 w') ∧ Hid (∃ v7, Rs w' w6.heap.size t7 v7 s.vs.reverse s.t)) := by
        have h7 := rload_is (c := k6) HROW6.out (by rw [HLR.out]; omega) s.t (fun e he => HVS.out e (List.mem_reverse.1 he))
        rw [HLR.out] at h7
        refine h7.mono ?_
        rintro e w' ⟨hb, h8⟩
        rcases h8 with ⟨_, r8, v8, h9, _, h10⟩ | ⟨hne, _⟩
        · exact ⟨_, h9, r8, rfl, hb, v8, h10⟩
        · exact absurd hB hne
      clear hrd5 hr6 hrow6 hg6 hb56
      go_wp2_with fail
      go_region_law (first | (refine step_append_runB rfl (.const (.slice none 0 0)) (.tmp 175) 56 56 rfl (.slice none 0 0) (.slice (some ⟨g, 0, none⟩) N (N + 3)) (by simp [Act.eval]) (by simp [Act.eval, Act.put]) R6.out ?_) | (refine step_call rfl 40 #[.tmp 176, .tmp 178] #[56, 33] rfl ENT #[.slice a6 N k6, sv s.t] ?hv _ CR.out ?_; (case hv => (simp [Act.eval]; done)); rintro xv w7 ⟨t7, rfl, HB7, HT7⟩))
      all_goals (try go_wp2_with fail)
      all_goals
        have HBR7 : Hid (Below wr.heap.size wr w7) := Below.on (Below.on HB5.out HB56.out) HB7.out
        have HQ7 : Hid (Sto F5 w7 q5 (loadM s.vs.reverse) s.t) := (HS5.out.later HB56.out).later HB7.out
        have DQ : Hid (Calls Tryd.prog 29 #[pt q5] w7 fun e w' => ∃ a k, e = .returned (.slice a N k) ∧ Hid (RowF elV w' w7.heap.size (.slice a N k) s.vs.reverse) ∧ Below w7.heap.size w7 w') := by
          refine (dump_is HQ7.out (by rw [ld_cnt hB, HLR.out]; exact hNle)).mono ?_
          rintro e w' ⟨v8, rfl, ho8, hb8⟩
          rw [ld_dump hB] at ho8
          obtain ⟨a, k, rfl⟩ := owns_slice ho8
          have h9 := OwnV.rowF ho8
          rw [HLR.out] at h9 ⊢
          exact ⟨a, k, rfl, h9, hb8⟩
        clear x2 x3 x4 c2 c3 c4
        refine DQ.out.mono ?_
        rintro e w8 ⟨a8, k8, rfl, HR8, hb8⟩
        have DT : Hid (Calls Tryd.prog 31 #[pt t7] w8 fun e w' => ∃ a k, e = .returned (.slice a N k) ∧ Hid (RowF elV w' w8.heap.size (.slice a N k) s.vs.reverse) ∧ Below w8.heap.size w8 w') := by
          obtain ⟨v7, h7⟩ := HT7.out
          refine (rdump_is (h7.later hb8) (by rw [HLR.out]; omega)).mono ?_
          rintro e w' ⟨v8, rfl, ho8, hb8⟩
          obtain ⟨a, k, rfl⟩ := owns_slice ho8
          have h9 := OwnV.rowF ho8
          rw [HLR.out] at h9 ⊢
          exact ⟨a, k, rfl, h9, hb8⟩
        have HB78 := hid hb8
        clear DQ hb8
        go_wp2_with fail
        refine DT.out.mono ?_
        rintro e w9 ⟨a9, k9, rfl, HR9, hb9⟩
        have SM : Hid (Calls Tryd.prog 30 #[.slice a8 N k8, .slice a9 N k9] w9 fun e w' => e = .returned (.bool true) ∧ Below w9.heap.size w9 w') := by
          have h9 := sameV_at (HR8.out.later hb9).rd HR9.out.rd (by rw [HLR.out]; omega)
          rw [HLR.out] at h9
          exact h9
        have HB79 : Hid (Below w7.heap.size w7 w9) := Below.on HB78.out hb9
        clear DT hb9
        go_wp2_with fail
        refine SM.out.mono ?_
        rintro e w10 ⟨rfl, hb10⟩
        have HB10 : Hid (Below wr.heap.size wr w10) := Below.on (Below.on HBR7.out HB79.out) hb10
        clear SM hb10
        go_wp2_with fail
        have HNG : Hid (W.heap.size ≤ g) := Nat.le_trans HS.out.bl.size HRY.out.low
        have SP : Hid (Calls Tryd.prog 42 #[.slice (some ⟨g, 0, none⟩) N (N + 3)] w10 fun e w' => e = .returned (.tuple #[]) ∧ Onl (fun b => b = g) w10 w') := by
          have ht := HLP.out.ty.later HB10.out
          have hcl := HLP.out.cells.later HB10.out
          rw [← HN.out] at hcl
          refine (spoil_is (c := N + 3) hcl (fun o => Typ.free ht o) ht.lt (by omega) (fun w' ho => HPT.out.later (HS.out.bl.trans ((load_below HRY.out.low HRY.out.bl HB14.out HLP.out HB10.out ho).mono HS.out.bl.size)))).mono ?_
          rintro e w' ⟨h1, h2, _⟩
          exact ⟨h1, h2⟩
        refine SP.out.mono ?_
        rintro e w11 ⟨rfl, ho11⟩
        have HBW : Hid (Below wb.heap.size wb w11) := load_below HRY.out.low HRY.out.bl HB14.out HLP.out HB10.out ho11
        have HFI : Hid (Ch W w11 b m (n + s.ws.length + s.vs.length)) := ⟨x, (show Sx W wb b x m from ⟨c, s0, z0, HS.out⟩).later HBW.out, HX.out.mono (by omega)⟩
        clear SP ho11 y0 y1
        go_wp2_with fail
        go_ret
        exact ⟨rfl, HFI⟩
end Go.Proofs.YtmlacdfdpdkdaaaDoor.Bg
/- The law's changes: load10. -/
namespace Go.Proofs.YtmlacdfdpdkdaaaDoor.Bg
open Go.RowKit Go.Sort Go.Proofs.YtmlacdfdpdkdaaaDoor Go.Proofs.YtmlacdfdpdkdaaaDoor.Vs
set_option linter.unusedVariables false

set_option maxRecDepth 8000 in
set_option maxHeartbeats 4000000 in
theorem chg_load10 {W w : World} {b m n j : Nat} {x : Sv} (hP : PowTab W) (h : Sx W w b x m) (hx : Eqs x n) (s : Sc) (hn : n + s.ws.length + s.vs.length ≤ 1048576) (hw : RowW W s.wa s.ws) (hv : RowV W s.va s.vs) (ht : s.t.a ≤ 18446744073709551615) (hvs : ∀ e ∈ s.vs, e.2.s.a ≤ 18446744073709551615) (hj : j < 2) (hb : bits BinOp.and IntKind.i64 s.o 1 = (j : Int)) (hk : s.k = 9) (hA : ldE s.vs = 0) (hB : ldE s.vs.reverse ≠ 0) :
    Calls Tryd.prog 9 #[pt b, .agg s.cells] w fun e w' => e = .returned (.bool true) ∧ Hid (Ch W w' b m (n + s.ws.length + s.vs.length)) := by
  obtain ⟨wb, hwb⟩ : ∃ wb, wb = w.alloc (.cells s.cells 58) := ⟨_, rfl⟩
  have hbb : Below w.heap.size w wb := by rw [hwb]; exact Below.al (Below.refl _ _) _
  obtain ⟨q, hq⟩ : ∃ q, q = w.heap.size := ⟨_, rfl⟩
  have HX := hid hx
  obtain ⟨c, s0, z0, h, hcq⟩ : ∃ c s0 z0, St W wb c b { x with s := s0, z := z0 } m ∧ c q = 22 := by
    obtain ⟨c0, s0, z0, h0⟩ := h
    obtain ⟨c, h1, _, h2⟩ := h0.later hbb (fun _ => 22)
    refine ⟨c, s0, z0, h1, h2 q (by omega) ?_⟩
    have hbx : wb.heap[w.heap.size]? = some (.cells s.cells 58 (0, 0)) := by rw [hwb]; exact World.alloc_heap_new _ _
    rw [hq]
    exact not_ixB hbx (fun h => by rcases h with h | h | h <;> exact absurd h (by decide))
  have HS := hid h
  have HCQ := hid hcq
  obtain ⟨x0, x1, x2, x3, x4, x5, x6, x7, x8⟩ := Bx.of s hwb
  rw [← hq] at x0 x1 x2 x3 x4 x5 x6 x7 x8
  have y0 := h.cp j hj
  have y1 := h.cq j hj
  have hcj := hx.c j hj
  have hst := h.st j hj
  have hrs := h.rs j hj
  have hgd := hst.good
  simp only [hx.m, hx.k] at hst hrs hgd y0 y1
  have RM := hid (roomyV_is (c := s.vc) (w := wb) (hv.later h.bl) (by omega) (hP.later h.bl))
  have HWB := hid hwb
  have HQ := hid hq
  have HPT := hid hP
  have HW := hid hw
  have HV := hid hv
  have HT := hid ht
  have HVS := hid hvs
  have HNN := hid hn
  clear h hx hbb hq hwb hst hrs hgd hcq hP hw hv ht hvs
  rw [hk] at x0
  go_enter Tryd.func9, Tryd.ntmps9
  go_upto_region 1 with fail
  rw [← HWB.out, ← HQ.out]
  have hJ : (j : Int) < 2 := by omega
  go_wp2_with fail
  refine RM.out.mono ?_
  rintro e w1 ⟨g, rfl, hry⟩
  have HRY := hid hry
  have LD1 := hid (stoload_is (c := s.vs.length + 3) s.t hry.row (by omega))
  replace x2 := cell_later hry.bl x2
  replace x3 := cell_later hry.bl x3
  replace x4 := cell_later hry.bl x4
  replace x8 := cell_later hry.bl x8
  have HX0 := hid x1
  clear RM x0 x1 x5 x6 x7 hry
  go_wp2_with fail
  refine LD1.out.mono ?_
  rintro e w2 ⟨hp2, hb2⟩
  obtain ⟨p', F', rfl, hs2, hF2⟩ : ∃ p' F', e = .returned (.tuple #[pt p', .int .i64 0]) ∧ Sto F' w2 p' (loadM s.vs) s.t ∧ ∀ k, F' k → w1.heap.size ≤ k := by
    rcases hp2 with ⟨_, h⟩ | ⟨hne, _⟩
    · exact h
    · exact absurd hA hne
  have HS2 := hid hs2
  have HF2 := hid hF2
  clear hs2 hF2
  replace x2 := cell_later hb2 x2
  replace x3 := cell_later hb2 x3
  replace x4 := cell_later hb2 x4
  replace x8 := cell_later hb2 x8
  have HB2 := hid hb2
  have LD2 := hid (rload_is (c := s.vc) ((HV.out.later HS.out.bl).later (Below.on HRY.out.bl hb2)) (by omega) s.t HVS.out)
  clear LD1 hb2
  go_wp2_with fail
  refine LD2.out.mono ?_
  rintro e w3 ⟨hb3, hp3⟩
  obtain ⟨r', v', rfl, hr3, hs3⟩ : ∃ r' v', e = .returned (.tuple #[pt r', .int .i64 0]) ∧ w2.heap.size ≤ r' ∧ Rs w3 w2.heap.size r' v' s.vs s.t := by
    rcases hp3 with ⟨_, h⟩ | ⟨hne, _⟩
    · exact h
    · exact absurd hA hne
  have HR3 := hid hr3
  have HS3 := hid hs3
  clear hr3 hs3
  replace x2 := cell_later hb3 x2
  replace x3 := cell_later hb3 x3
  replace x4 := cell_later hb3 x4
  replace x8 := cell_later hb3 x8
  have HB3 := hid hb3
  have HB13 : Hid (Below w1.heap.size w1 w3) := Below.on HB2.out hb3
  have UN := hid (untouchedV_is (c := s.vc) (w := w3) (g := g) (StandV.later (show StandV w1 g s.vs from HRY.out.cells) HB13.out) ((HV.out.later HS.out.bl).later (Below.on HRY.out.bl HB13.out)) (by omega) (HPT.out.later (HS.out.bl.trans ((Below.on HRY.out.bl HB13.out).mono HS.out.bl.size))))
  clear LD2 hb3
  go_wp2_with fail
  refine UN.out.mono ?_
  rintro e w4 ⟨rfl, hb4⟩
  replace x2 := cell_later hb4 x2
  replace x3 := cell_later hb4 x3
  replace x4 := cell_later hb4 x4
  have HB14 : Hid (Below w1.heap.size w1 w4) := Below.on HB13.out hb4
  have HB34 := hid hb4
  clear UN hb4 x8
  have hN := HNN.out
  obtain ⟨N, hNN⟩ : ∃ N, N = s.vs.length := ⟨_, rfl⟩
  have HN := hid hNN
  have HL0 : Hid (Lp w4 w4 g s.vs 0) := by
    obtain ⟨f, f1, f2, _⟩ := HRY.out.cells
    exact Lp.start (f1.later HB14.out) f2 (HRY.out.ty.later HB14.out)
  have hNle : N ≤ 1048576 := by omega
  rw [← hNN]
  clear hNN hN
  go_wp2_with fail
  go_loopg [12] (N / 2) (fun gg s12 wr => ∃ k : Nat, k ≤ N / 2 ∧ gg = N / 2 - k ∧ s12 = .int .i64 k ∧ Hid (Lp w4 wr g s.vs k))
  case atStart => exact ⟨0, by omega, by omega, rfl, HL0.out⟩
  case round =>
    obtain ⟨k, hk9, rfl, rfl, HLP⟩ := hrel
    by_cases hlt : k < N / 2
    · have hlt' : k < s.vs.length / 2 := by rw [← HN.out]; exact hlt
      obtain ⟨d0, d1, d2, d3, d4, d5⟩ := HLP.out.cells k (by omega)
      obtain ⟨e0, e1, e2, e3, e4, e5⟩ := HLP.out.cells (s.vs.length - 1 - k) (by omega)
      rw [sw_lo _ hlt'] at d0 d1 d2 d3 d4 d5
      rw [sw_hi _ hlt', ← HN.out] at e0 e1 e2 e3 e4 e5
      have fz : ∀ o, wr.frozen? ⟨g, o, none⟩ = false := Typ.free HLP.out.ty
      have hgl : g ≠ wr.heap.size := by have := HLP.out.ty.lt; omega
      have HSW : Hid (∀ wa, Below wr.heap.size wr wa → Lp w4 (setV (setV wa g k (nthK s.vs (N - 1 - k))) g (N - 1 - k) (nthK s.vs k)) g s.vs (k + 1)) := fun wa hb => by
        have := HLP.out.swap hlt' hb
        rw [← HN.out] at this
        exact this
      generalize nthK s.vs k = y1 at d0 d1 d2 d3 d4 d5 HSW
      generalize nthK s.vs (N - 1 - k) = y2 at e0 e1 e2 e3 e4 e5 HSW
      obtain ⟨wa, hwa⟩ : ∃ wa, wa = wr.alloc (.cells #[.string y1.1, .int .u64 y1.2.s.a, .int .u32 y1.2.s.b, .int .u32 y1.2.s.c, .bool y1.2.del, .string y1.2.val] 76) := ⟨_, rfl⟩
      have hba : Below wr.heap.size wr wa := by rw [hwa]; exact Below.al (Below.refl _ _) _
      have hka : wa.heap[wr.heap.size]? = some (.cells #[.string y1.1, .int .u64 y1.2.s.a, .int .u32 y1.2.s.b, .int .u32 y1.2.s.c, .bool y1.2.del, .string y1.2.val] 76 (0, 0)) := by rw [hwa]; exact World.alloc_heap_new _ _
      have HWA := hid hwa
      have fy : ∀ o, wa.frozen? ⟨g, o, none⟩ = false := fun o => (hba.frozen (p := ⟨g, o, none⟩) HLP.out.ty.lt).trans (fz o)
      have a0 := cell_later hba d0
      have a1 := cell_later hba d1
      have a2 := cell_later hba d2
      have a3 := cell_later hba d3
      have a4 := cell_later hba d4
      have a5 := cell_later hba d5
      replace e0 := cell_later hba e0
      replace e1 := cell_later hba e1
      replace e2 := cell_later hba e2
      replace e3 := cell_later hba e3
      replace e4 := cell_later hba e4
      replace e5 := cell_later hba e5
      obtain ⟨bx, hbx⟩ : ∃ bx, bx = wr.heap.size := ⟨_, rfl⟩
      have HBX := hid hbx
      rw [← hbx] at hka hgl
      have b0 : wa.cell? ⟨bx, 0, none⟩ = some (.string y1.1) := cell_obj hka rfl
      have b1 : wa.cell? ⟨bx, 1, none⟩ = some (.int .u64 y1.2.s.a) := cell_obj hka rfl
      have b2 : wa.cell? ⟨bx, 2, none⟩ = some (.int .u32 y1.2.s.b) := cell_obj hka rfl
      have b3 : wa.cell? ⟨bx, 3, none⟩ = some (.int .u32 y1.2.s.c) := cell_obj hka rfl
      have b4 : wa.cell? ⟨bx, 4, none⟩ = some (.bool y1.2.del) := cell_obj hka rfl
      have b5 : wa.cell? ⟨bx, 5, none⟩ = some (.string y1.2.val) := cell_obj hka rfl
      have HSA := hid (HSW.out wa hba)
      have hNk : N - 1 - k ≠ k := by omega
      clear hwa hba hka hbx HSW
      go_upto_region 24 with fail
      rw [← HWA.out, ← HBX.out]
      clear d0 d1 d2 d3 d4 d5 fz
      go_wp2_with fail
      go_roundg (N / 2 - (k + 1))
      case measure => omega
      case rel => exact ⟨k + 1, by omega, rfl, by go_num, HSA.out⟩
    · obtain rfl : k = N / 2 := by omega
      have hqg : ¬ (fun b => b = g) q := fun e => by
        have h1 := World.block_lt_of_cell? _ _ HX0.out
        have h2 := HRY.out.low
        have e : q = g := e
        simp only at h1
        omega
      replace x2 := HLP.out.onl.cell hqg x2
      replace x3 := HLP.out.onl.cell hqg x3
      replace x4 := HLP.out.onl.cell hqg x4
      have hLR : s.vs.reverse.length = N := by rw [List.length_reverse, ← HN.out]
      have HLR := hid hLR
      have HROW : Hid (RowV wr (some ⟨g, 0, none⟩) s.vs.reverse) := by
        have := HLP.out
        rw [HN.out] at this
        exact this.row
      have LD3 := hid (stoload_is (c := N + 3) s.t HROW.out (by omega))
      rw [hLR] at LD3
      clear hlt hk9 hLR
      go_wp2_with fail
      refine LD3.out.mono ?_
      rintro e w5 ⟨hp5, hb5⟩
      obtain rfl : e = .returned (.tuple #[.pointer none, .int .i64 (ldE s.vs.reverse)]) := by
        rcases hp5 with ⟨h0, _⟩ | ⟨_, h⟩
        · exact absurd h0 hB
        · exact h
      clear hp5
      replace x2 := cell_later hb5 x2
      replace x3 := cell_later hb5 x3
      replace x4 := cell_later hb5 x4
      have HB5 := hid hb5
      clear LD3 hb5
      have hrd5 : Rd elV w5.drew (.slice (some ⟨g, 0, none⟩) N (N + 3)) s.vs.reverse := by
        have := rd_of_rowV (c := N + 3) ((HROW.out.later HB5.out).later (w' := w5.drew) (Below.drew (Below.refl _ _)))
        rw [HLR.out] at this
        exact this
      obtain ⟨v6, w6, hr6, hrow6, hg6, _⟩ := run_append_F okV (w := w5.drew) (B := w5.heap.size) (RowF.nil _ _) hrd5 56 (by have := HLR.out; simp only [List.length_nil, Nat.zero_add]; omega) (Nat.le_refl _)
      obtain ⟨a6, k6, rfl, _, _⟩ := hrow6.slice
      rw [List.nil_append] at hrow6 hr6
      rw [HLR.out] at hrow6 hr6
      have hb56 : Below w5.heap.size w5 w6 := ⟨hg6.os, hg6.tape, hg6.output, hg6.size, fun k hk => hg6.block k hk (fun e => by cases e)⟩
      have R6 := hid hr6
      have HROW6 : Hid (RowV w6 a6 s.vs.reverse) := rowV_of hrow6.rd
      have HB56 := hid hb56
      have c2 := cell_later hb56 x2
      have c3 := cell_later hb56 x3
      have c4 := cell_later hb56 x4
      have ENT : Enters Tryd.prog 40 := enters_of Tryd.func40 (by kernel_rfl) rfl
      have CR : Hid (Calls Tryd.prog 40 #[.slice a6 N k6, sv s.t] w6 fun e w' => ∃ v, e = .returned v ∧ v = .tuple #[.pointer none, .int .i64 (ldE s.vs.reverse)] ∧ Hid (Below w6.heap.size w6 w')) := by
        have h7 := rload_is (c := k6) HROW6.out (by rw [HLR.out]; omega) s.t (fun e he => HVS.out e (List.mem_reverse.1 he))
        rw [HLR.out] at h7
        refine h7.mono ?_
        rintro e w' ⟨hb, h8⟩
        rcases h8 with ⟨h0, _⟩ | ⟨_, h9⟩
        · exact absurd h0 hB
        · exact ⟨_, h9, rfl, hb⟩
      clear hrd5 hr6 hrow6 hg6 hb56
      go_wp2_with fail
      go_region_law (first | (refine step_append_runB rfl (.const (.slice none 0 0)) (.tmp 175) 56 56 rfl (.slice none 0 0) (.slice (some ⟨g, 0, none⟩) N (N + 3)) (by simp [Act.eval]) (by simp [Act.eval, Act.put]) R6.out ?_) | (refine step_call rfl 40 #[.tmp 176, .tmp 178] #[56, 33] rfl ENT #[.slice a6 N k6, sv s.t] ?hv _ CR.out ?_; (case hv => (simp [Act.eval]; done)); rintro xv w7 ⟨rfl, HB7⟩))
      all_goals (try go_wp2_with fail)
      all_goals
        have HBR7 : Hid (Below wr.heap.size wr w7) := Below.on (Below.on HB5.out HB56.out) HB7.out
        obtain ⟨w10, hw10⟩ : ∃ w10, w10 = w7 := ⟨_, rfl⟩
        have HB10 : Hid (Below wr.heap.size wr w10) := by rw [hw10]; exact HBR7.out
        rw [← hw10]
        clear x2 x3 x4 c2 c3 c4 hw10
        have HNG : Hid (W.heap.size ≤ g) := Nat.le_trans HS.out.bl.size HRY.out.low
        have SP : Hid (Calls Tryd.prog 42 #[.slice (some ⟨g, 0, none⟩) N (N + 3)] w10 fun e w' => e = .returned (.tuple #[]) ∧ Onl (fun b => b = g) w10 w') := by
          have ht := HLP.out.ty.later HB10.out
          have hcl := HLP.out.cells.later HB10.out
          rw [← HN.out] at hcl
          refine (spoil_is (c := N + 3) hcl (fun o => Typ.free ht o) ht.lt (by omega) (fun w' ho => HPT.out.later (HS.out.bl.trans ((load_below HRY.out.low HRY.out.bl HB14.out HLP.out HB10.out ho).mono HS.out.bl.size)))).mono ?_
          rintro e w' ⟨h1, h2, _⟩
          exact ⟨h1, h2⟩
        refine SP.out.mono ?_
        rintro e w11 ⟨rfl, ho11⟩
        have HBW : Hid (Below wb.heap.size wb w11) := load_below HRY.out.low HRY.out.bl HB14.out HLP.out HB10.out ho11
        have HFI : Hid (Ch W ((w11.setCell ⟨b, j, none⟩ (pt p')).setCell ⟨b, 2 + j, none⟩ (pt r')) b m (n + s.ws.length + s.vs.length)) := by
          have hx := HX.out
          have hx' : Eqs { x with s := s0, z := z0 } n := ⟨hx.m, hx.k, hx.c, hx.ok⟩
          exact load_end HS.out hx' hj hA HRY.out.low HRY.out.bl HRY.out.lt HB2.out HS2.out HF2.out HB3.out HS3.out HR3.out HB34.out (HRY.out.ty.later HB14.out) HLP.out HB10.out ho11 (by omega) (by omega)
        have z0 := cell_later HBW.out y0
        have z1 := cell_later HBW.out y1
        have fw : ∀ o, w11.frozen? ⟨b, o, none⟩ = false := fun o => (HBW.out.frozen (p := ⟨b, o, none⟩) HS.out.lt).trans (HS.out.obj.loose o)
        clear SP ho11 y0 y1
        go_wp2_with fail
        go_ret
        exact ⟨rfl, HFI⟩
end Go.Proofs.YtmlacdfdpdkdaaaDoor.Bg
/- The law's changes: load11. -/
namespace Go.Proofs.YtmlacdfdpdkdaaaDoor.Bg
open Go.RowKit Go.Sort Go.Proofs.YtmlacdfdpdkdaaaDoor Go.Proofs.YtmlacdfdpdkdaaaDoor.Vs
set_option linter.unusedVariables false

set_option maxRecDepth 8000 in
set_option maxHeartbeats 4000000 in
theorem chg_load11 {W w : World} {b m n j : Nat} {x : Sv} (hP : PowTab W) (h : Sx W w b x m) (hx : Eqs x n) (s : Sc) (hn : n + s.ws.length + s.vs.length ≤ 1048576) (hw : RowW W s.wa s.ws) (hv : RowV W s.va s.vs) (ht : s.t.a ≤ 18446744073709551615) (hvs : ∀ e ∈ s.vs, e.2.s.a ≤ 18446744073709551615) (hj : j < 2) (hb : bits BinOp.and IntKind.i64 s.o 1 = (j : Int)) (hk : s.k = 9) (hA : ldE s.vs = 0) (hB : ldE s.vs.reverse = 0) :
    Calls Tryd.prog 9 #[pt b, .agg s.cells] w fun e w' => e = .returned (.bool true) ∧ Hid (Ch W w' b m (n + s.ws.length + s.vs.length)) := by
  obtain ⟨wb, hwb⟩ : ∃ wb, wb = w.alloc (.cells s.cells 58) := ⟨_, rfl⟩
  have hbb : Below w.heap.size w wb := by rw [hwb]; exact Below.al (Below.refl _ _) _
  obtain ⟨q, hq⟩ : ∃ q, q = w.heap.size := ⟨_, rfl⟩
  have HX := hid hx
  obtain ⟨c, s0, z0, h, hcq⟩ : ∃ c s0 z0, St W wb c b { x with s := s0, z := z0 } m ∧ c q = 22 := by
    obtain ⟨c0, s0, z0, h0⟩ := h
    obtain ⟨c, h1, _, h2⟩ := h0.later hbb (fun _ => 22)
    refine ⟨c, s0, z0, h1, h2 q (by omega) ?_⟩
    have hbx : wb.heap[w.heap.size]? = some (.cells s.cells 58 (0, 0)) := by rw [hwb]; exact World.alloc_heap_new _ _
    rw [hq]
    exact not_ixB hbx (fun h => by rcases h with h | h | h <;> exact absurd h (by decide))
  have HS := hid h
  have HCQ := hid hcq
  obtain ⟨x0, x1, x2, x3, x4, x5, x6, x7, x8⟩ := Bx.of s hwb
  rw [← hq] at x0 x1 x2 x3 x4 x5 x6 x7 x8
  have y0 := h.cp j hj
  have y1 := h.cq j hj
  have hcj := hx.c j hj
  have hst := h.st j hj
  have hrs := h.rs j hj
  have hgd := hst.good
  simp only [hx.m, hx.k] at hst hrs hgd y0 y1
  have RM := hid (roomyV_is (c := s.vc) (w := wb) (hv.later h.bl) (by omega) (hP.later h.bl))
  have HWB := hid hwb
  have HQ := hid hq
  have HPT := hid hP
  have HW := hid hw
  have HV := hid hv
  have HT := hid ht
  have HVS := hid hvs
  have HNN := hid hn
  clear h hx hbb hq hwb hst hrs hgd hcq hP hw hv ht hvs
  rw [hk] at x0
  go_enter Tryd.func9, Tryd.ntmps9
  go_upto_region 1 with fail
  rw [← HWB.out, ← HQ.out]
  have hJ : (j : Int) < 2 := by omega
  go_wp2_with fail
  refine RM.out.mono ?_
  rintro e w1 ⟨g, rfl, hry⟩
  have HRY := hid hry
  have LD1 := hid (stoload_is (c := s.vs.length + 3) s.t hry.row (by omega))
  replace x2 := cell_later hry.bl x2
  replace x3 := cell_later hry.bl x3
  replace x4 := cell_later hry.bl x4
  replace x8 := cell_later hry.bl x8
  have HX0 := hid x1
  clear RM x0 x1 x5 x6 x7 hry
  go_wp2_with fail
  refine LD1.out.mono ?_
  rintro e w2 ⟨hp2, hb2⟩
  obtain ⟨p', F', rfl, hs2, hF2⟩ : ∃ p' F', e = .returned (.tuple #[pt p', .int .i64 0]) ∧ Sto F' w2 p' (loadM s.vs) s.t ∧ ∀ k, F' k → w1.heap.size ≤ k := by
    rcases hp2 with ⟨_, h⟩ | ⟨hne, _⟩
    · exact h
    · exact absurd hA hne
  have HS2 := hid hs2
  have HF2 := hid hF2
  clear hs2 hF2
  replace x2 := cell_later hb2 x2
  replace x3 := cell_later hb2 x3
  replace x4 := cell_later hb2 x4
  replace x8 := cell_later hb2 x8
  have HB2 := hid hb2
  have LD2 := hid (rload_is (c := s.vc) ((HV.out.later HS.out.bl).later (Below.on HRY.out.bl hb2)) (by omega) s.t HVS.out)
  clear LD1 hb2
  go_wp2_with fail
  refine LD2.out.mono ?_
  rintro e w3 ⟨hb3, hp3⟩
  obtain ⟨r', v', rfl, hr3, hs3⟩ : ∃ r' v', e = .returned (.tuple #[pt r', .int .i64 0]) ∧ w2.heap.size ≤ r' ∧ Rs w3 w2.heap.size r' v' s.vs s.t := by
    rcases hp3 with ⟨_, h⟩ | ⟨hne, _⟩
    · exact h
    · exact absurd hA hne
  have HR3 := hid hr3
  have HS3 := hid hs3
  clear hr3 hs3
  replace x2 := cell_later hb3 x2
  replace x3 := cell_later hb3 x3
  replace x4 := cell_later hb3 x4
  replace x8 := cell_later hb3 x8
  have HB3 := hid hb3
  have HB13 : Hid (Below w1.heap.size w1 w3) := Below.on HB2.out hb3
  have UN := hid (untouchedV_is (c := s.vc) (w := w3) (g := g) (StandV.later (show StandV w1 g s.vs from HRY.out.cells) HB13.out) ((HV.out.later HS.out.bl).later (Below.on HRY.out.bl HB13.out)) (by omega) (HPT.out.later (HS.out.bl.trans ((Below.on HRY.out.bl HB13.out).mono HS.out.bl.size))))
  clear LD2 hb3
  go_wp2_with fail
  refine UN.out.mono ?_
  rintro e w4 ⟨rfl, hb4⟩
  replace x2 := cell_later hb4 x2
  replace x3 := cell_later hb4 x3
  replace x4 := cell_later hb4 x4
  have HB14 : Hid (Below w1.heap.size w1 w4) := Below.on HB13.out hb4
  have HB34 := hid hb4
  clear UN hb4 x8
  have hN := HNN.out
  obtain ⟨N, hNN⟩ : ∃ N, N = s.vs.length := ⟨_, rfl⟩
  have HN := hid hNN
  have HL0 : Hid (Lp w4 w4 g s.vs 0) := by
    obtain ⟨f, f1, f2, _⟩ := HRY.out.cells
    exact Lp.start (f1.later HB14.out) f2 (HRY.out.ty.later HB14.out)
  have hNle : N ≤ 1048576 := by omega
  rw [← hNN]
  clear hNN hN
  go_wp2_with fail
  go_loopg [12] (N / 2) (fun gg s12 wr => ∃ k : Nat, k ≤ N / 2 ∧ gg = N / 2 - k ∧ s12 = .int .i64 k ∧ Hid (Lp w4 wr g s.vs k))
  case atStart => exact ⟨0, by omega, by omega, rfl, HL0.out⟩
  case round =>
    obtain ⟨k, hk9, rfl, rfl, HLP⟩ := hrel
    by_cases hlt : k < N / 2
    · have hlt' : k < s.vs.length / 2 := by rw [← HN.out]; exact hlt
      obtain ⟨d0, d1, d2, d3, d4, d5⟩ := HLP.out.cells k (by omega)
      obtain ⟨e0, e1, e2, e3, e4, e5⟩ := HLP.out.cells (s.vs.length - 1 - k) (by omega)
      rw [sw_lo _ hlt'] at d0 d1 d2 d3 d4 d5
      rw [sw_hi _ hlt', ← HN.out] at e0 e1 e2 e3 e4 e5
      have fz : ∀ o, wr.frozen? ⟨g, o, none⟩ = false := Typ.free HLP.out.ty
      have hgl : g ≠ wr.heap.size := by have := HLP.out.ty.lt; omega
      have HSW : Hid (∀ wa, Below wr.heap.size wr wa → Lp w4 (setV (setV wa g k (nthK s.vs (N - 1 - k))) g (N - 1 - k) (nthK s.vs k)) g s.vs (k + 1)) := fun wa hb => by
        have := HLP.out.swap hlt' hb
        rw [← HN.out] at this
        exact this
      generalize nthK s.vs k = y1 at d0 d1 d2 d3 d4 d5 HSW
      generalize nthK s.vs (N - 1 - k) = y2 at e0 e1 e2 e3 e4 e5 HSW
      obtain ⟨wa, hwa⟩ : ∃ wa, wa = wr.alloc (.cells #[.string y1.1, .int .u64 y1.2.s.a, .int .u32 y1.2.s.b, .int .u32 y1.2.s.c, .bool y1.2.del, .string y1.2.val] 76) := ⟨_, rfl⟩
      have hba : Below wr.heap.size wr wa := by rw [hwa]; exact Below.al (Below.refl _ _) _
      have hka : wa.heap[wr.heap.size]? = some (.cells #[.string y1.1, .int .u64 y1.2.s.a, .int .u32 y1.2.s.b, .int .u32 y1.2.s.c, .bool y1.2.del, .string y1.2.val] 76 (0, 0)) := by rw [hwa]; exact World.alloc_heap_new _ _
      have HWA := hid hwa
      have fy : ∀ o, wa.frozen? ⟨g, o, none⟩ = false := fun o => (hba.frozen (p := ⟨g, o, none⟩) HLP.out.ty.lt).trans (fz o)
      have a0 := cell_later hba d0
      have a1 := cell_later hba d1
      have a2 := cell_later hba d2
      have a3 := cell_later hba d3
      have a4 := cell_later hba d4
      have a5 := cell_later hba d5
      replace e0 := cell_later hba e0
      replace e1 := cell_later hba e1
      replace e2 := cell_later hba e2
      replace e3 := cell_later hba e3
      replace e4 := cell_later hba e4
      replace e5 := cell_later hba e5
      obtain ⟨bx, hbx⟩ : ∃ bx, bx = wr.heap.size := ⟨_, rfl⟩
      have HBX := hid hbx
      rw [← hbx] at hka hgl
      have b0 : wa.cell? ⟨bx, 0, none⟩ = some (.string y1.1) := cell_obj hka rfl
      have b1 : wa.cell? ⟨bx, 1, none⟩ = some (.int .u64 y1.2.s.a) := cell_obj hka rfl
      have b2 : wa.cell? ⟨bx, 2, none⟩ = some (.int .u32 y1.2.s.b) := cell_obj hka rfl
      have b3 : wa.cell? ⟨bx, 3, none⟩ = some (.int .u32 y1.2.s.c) := cell_obj hka rfl
      have b4 : wa.cell? ⟨bx, 4, none⟩ = some (.bool y1.2.del) := cell_obj hka rfl
      have b5 : wa.cell? ⟨bx, 5, none⟩ = some (.string y1.2.val) := cell_obj hka rfl
      have HSA := hid (HSW.out wa hba)
      have hNk : N - 1 - k ≠ k := by omega
      clear hwa hba hka hbx HSW
      go_upto_region 24 with fail
      rw [← HWA.out, ← HBX.out]
      clear d0 d1 d2 d3 d4 d5 fz
      go_wp2_with fail
      go_roundg (N / 2 - (k + 1))
      case measure => omega
      case rel => exact ⟨k + 1, by omega, rfl, by go_num, HSA.out⟩
    · obtain rfl : k = N / 2 := by omega
      have hqg : ¬ (fun b => b = g) q := fun e => by
        have h1 := World.block_lt_of_cell? _ _ HX0.out
        have h2 := HRY.out.low
        have e : q = g := e
        simp only at h1
        omega
      replace x2 := HLP.out.onl.cell hqg x2
      replace x3 := HLP.out.onl.cell hqg x3
      replace x4 := HLP.out.onl.cell hqg x4
      have hLR : s.vs.reverse.length = N := by rw [List.length_reverse, ← HN.out]
      have HLR := hid hLR
      have HROW : Hid (RowV wr (some ⟨g, 0, none⟩) s.vs.reverse) := by
        have := HLP.out
        rw [HN.out] at this
        exact this.row
      have LD3 := hid (stoload_is (c := N + 3) s.t HROW.out (by omega))
      rw [hLR] at LD3
      clear hlt hk9 hLR
      go_wp2_with fail
      refine LD3.out.mono ?_
      rintro e w5 ⟨hp5, hb5⟩
      obtain ⟨q5, F5, rfl, hs5⟩ : ∃ q5 F5, e = .returned (.tuple #[pt q5, .int .i64 0]) ∧ Sto F5 w5 q5 (loadM s.vs.reverse) s.t := by
        rcases hp5 with ⟨_, p5, F5, h5, h6, _⟩ | ⟨hne, _⟩
        · exact ⟨p5, F5, h5, h6⟩
        · exact absurd hB hne
      have HS5 := hid hs5
      clear hs5 hp5
      replace x2 := cell_later hb5 x2
      replace x3 := cell_later hb5 x3
      replace x4 := cell_later hb5 x4
      have HB5 := hid hb5
      clear LD3 hb5
      have hrd5 : Rd elV w5.drew (.slice (some ⟨g, 0, none⟩) N (N + 3)) s.vs.reverse := by
        have := rd_of_rowV (c := N + 3) ((HROW.out.later HB5.out).later (w' := w5.drew) (Below.drew (Below.refl _ _)))
        rw [HLR.out] at this
        exact this
      obtain ⟨v6, w6, hr6, hrow6, hg6, _⟩ := run_append_F okV (w := w5.drew) (B := w5.heap.size) (RowF.nil _ _) hrd5 56 (by have := HLR.out; simp only [List.length_nil, Nat.zero_add]; omega) (Nat.le_refl _)
      obtain ⟨a6, k6, rfl, _, _⟩ := hrow6.slice
      rw [List.nil_append] at hrow6 hr6
      rw [HLR.out] at hrow6 hr6
      have hb56 : Below w5.heap.size w5 w6 := ⟨hg6.os, hg6.tape, hg6.output, hg6.size, fun k hk => hg6.block k hk (fun e => by cases e)⟩
      have R6 := hid hr6
      have HROW6 : Hid (RowV w6 a6 s.vs.reverse) := rowV_of hrow6.rd
      have HB56 := hid hb56
      have c2 := cell_later hb56 x2
      have c3 := cell_later hb56 x3
      have c4 := cell_later hb56 x4
      have ENT : Enters Tryd.prog 40 := enters_of Tryd.func40 (by kernel_rfl) rfl
      have CR : Hid (Calls Tryd.prog 40 #[.slice a6 N k6, sv s.t] w6 fun e w' => ∃ v, e = .returned v ∧ ∃ t7, v = .tuple #[pt t7, .int .i64 0] ∧ Hid (Below w6.heap.size w6 w') ∧ Hid (∃ v7, Rs w' w6.heap.size t7 v7 s.vs.reverse s.t)) := by
        have h7 := rload_is (c := k6) HROW6.out (by rw [HLR.out]; omega) s.t (fun e he => HVS.out e (List.mem_reverse.1 he))
        rw [HLR.out] at h7
        refine h7.mono ?_
        rintro e w' ⟨hb, h8⟩
        rcases h8 with ⟨_, r8, v8, h9, _, h10⟩ | ⟨hne, _⟩
        · exact ⟨_, h9, r8, rfl, hb, v8, h10⟩
        · exact absurd hB hne
      clear hrd5 hr6 hrow6 hg6 hb56
      go_wp2_with fail
      go_region_law (first | (refine step_append_runB rfl (.const (.slice none 0 0)) (.tmp 175) 56 56 rfl (.slice none 0 0) (.slice (some ⟨g, 0, none⟩) N (N + 3)) (by simp [Act.eval]) (by simp [Act.eval, Act.put]) R6.out ?_) | (refine step_call rfl 40 #[.tmp 176, .tmp 178] #[56, 33] rfl ENT #[.slice a6 N k6, sv s.t] ?hv _ CR.out ?_; (case hv => (simp [Act.eval]; done)); rintro xv w7 ⟨t7, rfl, HB7, HT7⟩))
      all_goals (try go_wp2_with fail)
      all_goals
        have HBR7 : Hid (Below wr.heap.size wr w7) := Below.on (Below.on HB5.out HB56.out) HB7.out
        have HQ7 : Hid (Sto F5 w7 q5 (loadM s.vs.reverse) s.t) := (HS5.out.later HB56.out).later HB7.out
        have DQ : Hid (Calls Tryd.prog 29 #[pt q5] w7 fun e w' => ∃ a k, e = .returned (.slice a N k) ∧ Hid (RowF elV w' w7.heap.size (.slice a N k) s.vs.reverse) ∧ Below w7.heap.size w7 w') := by
          refine (dump_is HQ7.out (by rw [ld_cnt hB, HLR.out]; exact hNle)).mono ?_
          rintro e w' ⟨v8, rfl, ho8, hb8⟩
          rw [ld_dump hB] at ho8
          obtain ⟨a, k, rfl⟩ := owns_slice ho8
          have h9 := OwnV.rowF ho8
          rw [HLR.out] at h9 ⊢
          exact ⟨a, k, rfl, h9, hb8⟩
        clear x2 x3 x4 c2 c3 c4
        refine DQ.out.mono ?_
        rintro e w8 ⟨a8, k8, rfl, HR8, hb8⟩
        have DT : Hid (Calls Tryd.prog 31 #[pt t7] w8 fun e w' => ∃ a k, e = .returned (.slice a N k) ∧ Hid (RowF elV w' w8.heap.size (.slice a N k) s.vs.reverse) ∧ Below w8.heap.size w8 w') := by
          obtain ⟨v7, h7⟩ := HT7.out
          refine (rdump_is (h7.later hb8) (by rw [HLR.out]; omega)).mono ?_
          rintro e w' ⟨v8, rfl, ho8, hb8⟩
          obtain ⟨a, k, rfl⟩ := owns_slice ho8
          have h9 := OwnV.rowF ho8
          rw [HLR.out] at h9 ⊢
          exact ⟨a, k, rfl, h9, hb8⟩
        have HB78 := hid hb8
        clear DQ hb8
        go_wp2_with fail
        refine DT.out.mono ?_
        rintro e w9 ⟨a9, k9, rfl, HR9, hb9⟩
        have SM : Hid (Calls Tryd.prog 30 #[.slice a8 N k8, .slice a9 N k9] w9 fun e w' => e = .returned (.bool true) ∧ Below w9.heap.size w9 w') := by
          have h9 := sameV_at (HR8.out.later hb9).rd HR9.out.rd (by rw [HLR.out]; omega)
          rw [HLR.out] at h9
          exact h9
        have HB79 : Hid (Below w7.heap.size w7 w9) := Below.on HB78.out hb9
        clear DT hb9
        go_wp2_with fail
        refine SM.out.mono ?_
        rintro e w10 ⟨rfl, hb10⟩
        have HB10 : Hid (Below wr.heap.size wr w10) := Below.on (Below.on HBR7.out HB79.out) hb10
        clear SM hb10
        go_wp2_with fail
        have HNG : Hid (W.heap.size ≤ g) := Nat.le_trans HS.out.bl.size HRY.out.low
        have SP : Hid (Calls Tryd.prog 42 #[.slice (some ⟨g, 0, none⟩) N (N + 3)] w10 fun e w' => e = .returned (.tuple #[]) ∧ Onl (fun b => b = g) w10 w') := by
          have ht := HLP.out.ty.later HB10.out
          have hcl := HLP.out.cells.later HB10.out
          rw [← HN.out] at hcl
          refine (spoil_is (c := N + 3) hcl (fun o => Typ.free ht o) ht.lt (by omega) (fun w' ho => HPT.out.later (HS.out.bl.trans ((load_below HRY.out.low HRY.out.bl HB14.out HLP.out HB10.out ho).mono HS.out.bl.size)))).mono ?_
          rintro e w' ⟨h1, h2, _⟩
          exact ⟨h1, h2⟩
        refine SP.out.mono ?_
        rintro e w11 ⟨rfl, ho11⟩
        have HBW : Hid (Below wb.heap.size wb w11) := load_below HRY.out.low HRY.out.bl HB14.out HLP.out HB10.out ho11
        have HFI : Hid (Ch W ((w11.setCell ⟨b, j, none⟩ (pt p')).setCell ⟨b, 2 + j, none⟩ (pt r')) b m (n + s.ws.length + s.vs.length)) := by
          have hx := HX.out
          have hx' : Eqs { x with s := s0, z := z0 } n := ⟨hx.m, hx.k, hx.c, hx.ok⟩
          exact load_end HS.out hx' hj hA HRY.out.low HRY.out.bl HRY.out.lt HB2.out HS2.out HF2.out HB3.out HS3.out HR3.out HB34.out (HRY.out.ty.later HB14.out) HLP.out HB10.out ho11 (by omega) (by omega)
        have z0 := cell_later HBW.out y0
        have z1 := cell_later HBW.out y1
        have fw : ∀ o, w11.frozen? ⟨b, o, none⟩ = false := fun o => (HBW.out.frozen (p := ⟨b, o, none⟩) HS.out.lt).trans (HS.out.obj.loose o)
        clear SP ho11 y0 y1
        go_wp2_with fail
        go_ret
        exact ⟨rfl, HFI⟩
end Go.Proofs.YtmlacdfdpdkdaaaDoor.Bg
