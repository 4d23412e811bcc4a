import Derived.Test.YtofpaldolcnmiaaGreatB44
import Derived.Test.YtofpaldolcnmiaaGreatB27
import Derived.Test.YtofpaldolcnmiaaGreatRows
import Derived.Test.YtofpaldolcnmiaaGreatChecked
import Derived.OpenShut
import Derived.Deep.Slices
import Derived.Deep.DeepHandedRow
import Derived.ProofKit
import Derived.SizedLaws
/- StateTwin. -/
namespace Go.Proofs.YtofpaldolcnmiaaGreat.Ig
open Go.RowKit Go.Sort Ys
set_option linter.unusedVariables false

set_option maxRecDepth 100000 in
set_option maxHeartbeats 8000000 in
theorem twin_law {w : World} {x : Lx} (hL : RowL w x.la x.ls) (hl : x.ls.length ≤ 93000) (hn : okU 4294967295 x.node) (hct : -9223372036854775808 ≤ x.cut ∧ x.cut ≤ 9223372036854775807) :
    Calls Tryz.prog 3 #[x.val] w fun e w' => e = .returned (.bool true) ∧ Below w.heap.size w w' := by
  obtain ⟨wx, hwx⟩ : ∃ wx, wx = w.alloc (.cells x.cells 25) := ⟨_, rfl⟩
  have hbx : Below w.heap.size w wx := by rw [hwx]; exact Below.al (Below.refl _ _) _
  have kx : wx.heap[w.heap.size]? = some (.cells x.cells 25 (0, 0)) := by rw [hwx]; exact World.alloc_heap_new _ _
  have x0 : wx.cell? ⟨w.heap.size, 0, none⟩ = some (.int .u32 x.node) := Vs.cell_of_obj kx rfl
  have X1 : Hid (wx.cell? ⟨w.heap.size, 1, none⟩ = some (.slice x.la x.ls.length x.lc)) := hid (Vs.cell_of_obj kx rfl)
  have X2 : Hid (wx.cell? ⟨w.heap.size, 2, none⟩ = some (.int .i64 x.cut)) := hid (Vs.cell_of_obj kx rfl)
  have X0 := hid x0
  have HL := hid (hL.later hbx)
  have BG := hid (begun_is wx x.node)
  have HBX := hid hbx
  have HNN := hid hn
  obtain ⟨N, hN⟩ : ∃ N, x.ls.length = N := ⟨_, rfl⟩
  rw [hN] at X1 hl
  have HN := hid hN
  have hqx : w.heap.size < wx.heap.size := by rw [hwx]; simp
  clear hL hbx kx hn
  go_enter Tryz.func3, Tryz.ntmps3
  go_wp2_with fail
  rw [← hwx]
  clear hwx hN
  refine BG.out.mono ?_
  rintro e w1 ⟨p, rfl, HT1, hb1⟩
  have HM0 : Hid (M1 wx w1 p x.node 0 (hdS x.node 3)) := hid ⟨HT1.out, run_hd HNN.out, hb1⟩
  have x2 := cell_later hb1 X2.out
  have x1 := cell_later hb1 X1.out
  clear BG hb1 x0 HT1
  go_upto_region 5 with fail
  go_cut [28] (fun s28 wz => s28 = .bool (decide (x.cut < 0 ∨ (N : Int) < x.cut)) ∧ wz = w1)
  case first =>
    by_cases h1 : x.cut < 0
    · have d1 : decide (x.cut < 0) = true := decide_eq_true h1
      go_wp2_with fail
      go_meet
      exact ⟨congrArg Value.bool (decide_eq_true (.inl h1)).symm, rfl⟩
    · have d1 : decide (x.cut < 0) = false := decide_eq_false h1
      go_wp2_with fail
      go_meet
      refine ⟨congrArg Value.bool ?_, rfl⟩
      by_cases h2 : (N : Int) < x.cut
      · rw [decide_eq_true (show x.cut < 0 ∨ (N : Int) < x.cut from .inr h2)]; simp [h2]
      · rw [decide_eq_false (show ¬ (x.cut < 0 ∨ (N : Int) < x.cut) by omega)]; simp [h2]
  case rest =>
    obtain ⟨rfl, hw⟩ := hcut
    subst hw
    go_upto_if 28 with fail
    go_cut [4] (fun s4 wz => ∃ C : Nat, C ≤ N ∧ s4 = .int .i64 (C : Int) ∧ wz = wc)
    case first =>
      by_cases h1 : x.cut < 0 ∨ (N : Int) < x.cut
      · have d1 := decide_eq_true h1
        go_wp2_with fail
        go_meet
        exact ⟨N, Nat.le_refl _, rfl, rfl⟩
      · have d1 := decide_eq_false h1
        go_wp2_with fail
        go_meet
        exact ⟨x.cut.toNat, by omega, by congr 1; omega, rfl⟩
    case rest =>
      obtain ⟨C, hC, rfl, hw⟩ := hcut
      subst hw
      clear x1 x2 X2 hct
      go_wp2_with fail
      go_loopg [5] C (fun gg s5 wr => ∃ (k : Nat) (s : Ps), k ≤ C ∧ gg = C - k ∧ s5 = .int .i64 k ∧ Hid (M1 wx wr p x.node k s))
      case atStart => exact ⟨0, _, by omega, by omega, rfl, HM0⟩
      case round =>
        obtain ⟨k, s, hk, rfl, rfl, HM⟩ := hrel
        clear HM0
        by_cases hlt : k < C
        · have hkN : k < N := by omega
          have hk9 : k ≤ 93000 := by omega
          have x1 := cell_later HM.out.bl X1.out
          obtain ⟨r, hr⟩ : ∃ r, x.ls[k]? = some r := ⟨x.ls[k]'(by rw [HN.out]; exact hkN), by simp⟩
          obtain ⟨⟨rb, ro, hla, BX⟩, RA⟩ := HL.out k r hr
          rw [hla] at x1
          have bx := BX.later HM.out.bl
          have b0 := bx.c0; have b1 := bx.c1; have b2 := bx.c2; have b3 := bx.c3; have b4 := bx.c4; have b5 := bx.c5; have b6 := bx.c6; have b7 := bx.c7; have b8 := bx.c8; have b9 := bx.c9; have b10 := bx.c10; have b11 := bx.c11
          have HRA := hid (RA.later HM.out.bl)
          clear BX RA hla hr bx
          go_wp2_with fail
          refine (copied_is HRA.out.ok HRA.out.rl HRA.out.wl).mono ?_
          rintro e w4 ⟨g1, g2, rfl, hr1, hr2, hne⟩
          have AP := hid ((HM.out.later hr1.bl).apply hk9 (own_ok (HRA.out.ok.later hr1.bl) hr1 hr2) HRA.out.rg HRA.out.rx)
          clear hr1 hr2 hne b0 b1 b2 b3 b4 b5 b6 b7 b8 b9 b10 b11 x1
          go_wp2_with fail
          refine AP.out.mono ?_
          rintro e w5 ⟨E, s', rfl, HM5⟩
          clear AP
          go_wp2_with fail
          go_roundg (C - (k + 1))
          case measure => omega
          case rel => exact ⟨k + 1, s', by omega, rfl, by go_num, HM5⟩
        · obtain rfl : k = C := by omega
          have hk9 : k ≤ 93000 := by omega
          obtain ⟨S, hS⟩ : ∃ S, ofNats (imgB s) = S := ⟨_, rfl⟩
          have sb := beq_self S
          have IM : Hid (∀ W, Below wr.heap.size wr W → Calls Tryz.prog 10 #[sp p] W fun e w' => e = .returned (.string S) ∧ Below wr.heap.size wr w') := hid fun W hb => by
            rw [← hS]
            refine ((HM.out.later hb).image hk9).mono ?_
            rintro e w' ⟨h1, h2⟩
            exact ⟨h1, Below.on hb h2⟩
          have LD : Hid (∀ W, Below wr.heap.size wr W → Calls Tryz.prog 9 #[.int .u32 x.node, .string S] W fun e w' => ∃ q t, e = .returned (.tuple #[sp q, .int .i64 0]) ∧ Hid (M2 wx w' p q x.node k s t) ∧ Below wr.heap.size wr w') := hid fun W hb => by
            rw [← hS]
            refine ((HM.out.later hb).load hk9).mono ?_
            rintro e w' ⟨q, t, h1, h2, h3⟩
            exact ⟨q, t, h1, h2, Below.on hb h3⟩
          have HS := hid hS
          have x0 := cell_later HM.out.bl X0.out
          clear hS
          go_upto_region 11 with fail
          go_cut [6, 7] (fun s6 s7 wz => ∃ (q : Nat) (t : Ps), s6 = sp q ∧ s7 = .int .i64 0 ∧ Hid (M2 wx wz p q x.node k s t))
          case first =>
            go_region_held3 (fun w' => w'.cell? ⟨w.heap.size, 0, none⟩ = some (.int .u32 x.node) ∧ Below wr.heap.size wr w')
              ((refine (fun (hB : Below wr.heap.size wr _) => ⟨cell_later hB x0, hB⟩) ?_; (repeat (first | with_reducible exact Below.refl _ _ | with_reducible assumption | with_reducible refine Below.drew ?_ | with_reducible refine Below.al ?_ _ | with_reducible refine Below.setCell ?_ (by first | exact Nat.le_refl _ | (simp; omega) | (simp; done)) _ | with_reducible refine Below.on ?_ (by assumption)))))
              (first
                | (go_at_call 10; refine (IM.out _ (by (repeat (first | with_reducible exact Below.refl _ _ | with_reducible assumption | with_reducible refine Below.drew ?_ | with_reducible refine Below.al ?_ _ | with_reducible refine Below.setCell ?_ (by first | exact Nat.le_refl _ | (simp; omega) | (simp; done)) _ | with_reducible refine Below.on ?_ (by assumption))))).mono ?_; rintro e w2 ⟨rfl, hb2⟩)
                | (go_at_call 9; refine (LD.out _ (by (repeat (first | with_reducible exact Below.refl _ _ | with_reducible assumption | with_reducible refine Below.drew ?_ | with_reducible refine Below.al ?_ _ | with_reducible refine Below.setCell ?_ (by first | exact Nat.le_refl _ | (simp; omega) | (simp; done)) _ | with_reducible refine Below.on ?_ (by assumption))))).mono ?_; rintro e w3 ⟨q, t, rfl, HM3, hb3⟩))
            all_goals (try go_wp2_with fail)
            all_goals go_meet
            all_goals exact ⟨q, t, rfl, rfl, hid (HM3.out.later (by (repeat (first | with_reducible exact Below.refl _ _ | with_reducible assumption | with_reducible refine Below.drew ?_ | with_reducible refine Below.al ?_ _ | with_reducible refine Below.setCell ?_ (by first | exact Nat.le_refl _ | (simp; omega) | (simp; done)) _ | with_reducible refine Below.on ?_ (by assumption)))))⟩
          case rest =>
            obtain ⟨q, t, rfl, rfl, HM2⟩ := hcut
            clear IM LD x0 HM
            go_wp2_with fail
            refine (HM2.out.image2 hk9).mono ?_
            rintro e w6 ⟨rfl, hb6⟩
            have HM6 := hid (HM2.out.later hb6)
            rw [HS.out]
            clear hb6 HM2
            go_wp2_with fail
            refine (HM6.out.image1 hk9).mono ?_
            rintro e w7 ⟨rfl, hb7⟩
            have HM7 := hid (HM6.out.later hb7)
            rw [HS.out]
            clear hb7 HM6 HS wr
            go_wp2_with fail
            clear sb
            go_loopg [8] (N - k) (fun gg s8 wr => ∃ (j : Nat) (s t : Ps), k ≤ j ∧ j ≤ N ∧ gg = N - j ∧ s8 = .int .i64 j ∧ Hid (M2 wx wr p q x.node j s t))
            case atStart => exact ⟨k, s, t, by omega, by omega, by omega, rfl, HM7⟩
            case round =>
              obtain ⟨j, s', t', hj, hjN, rfl, rfl, HM⟩ := hrel
              clear HM7
              have x1 := cell_later HM.out.bl X1.out
              have hj9 : j ≤ 93000 := by omega
              by_cases hlt' : j < N
              · obtain ⟨r, hr⟩ : ∃ r, x.ls[j]? = some r := ⟨x.ls[j]'(by rw [HN.out]; exact hlt'), by simp⟩
                obtain ⟨⟨rb, ro, hla, BX⟩, RA⟩ := HL.out j r hr
                rw [hla] at x1 X1
                have HBX2 := hid BX
                have bx := BX.later HM.out.bl
                have b0 := bx.c0; have b1 := bx.c1; have b2 := bx.c2; have b3 := bx.c3; have b4 := bx.c4; have b5 := bx.c5; have b6 := bx.c6; have b7 := bx.c7; have b8 := bx.c8; have b9 := bx.c9; have b10 := bx.c10; have b11 := bx.c11
                have HRW := hid RA
                have HRA := hid (RA.later HM.out.bl)
                clear BX RA hr bx
                go_wp2_with fail
                refine (copied_is HRA.out.ok HRA.out.rl HRA.out.wl).mono ?_
                rintro e w4 ⟨g1, g2, rfl, hr1, hr2, hne⟩
                have AP := hid ((HM.out.later hr1.bl).apply1 hj9 (own_ok (HRA.out.ok.later hr1.bl) hr1 hr2) HRA.out.rg HRA.out.rx)
                clear hr1 hr2 hne b0 b1 b2 b3 b4 b5 b6 b7 b8 b9 b10 b11 x1 HRA
                go_wp2_with fail
                refine AP.out.mono ?_
                rintro e w5 ⟨rfl, HM5⟩
                have x1 := cell_later HM5.out.bl X1.out
                have bx := HBX2.out.later HM5.out.bl
                have b0 := bx.c0; have b1 := bx.c1; have b2 := bx.c2; have b3 := bx.c3; have b4 := bx.c4; have b5 := bx.c5; have b6 := bx.c6; have b7 := bx.c7; have b8 := bx.c8; have b9 := bx.c9; have b10 := bx.c10; have b11 := bx.c11
                have HRA := hid (HRW.out.later HM5.out.bl)
                clear AP bx HM
                obtain ⟨E, hE⟩ : ∃ E, axE s' r = E := ⟨_, rfl⟩
                have HE := hid hE
                rw [hE]
                clear hE
                go_wp2_with fail
                refine (copied_is HRA.out.ok HRA.out.rl HRA.out.wl).mono ?_
                rintro e w8 ⟨g3, g4, rfl, hr1, hr2, hne⟩
                have AP := hid ((HM5.out.later hr1.bl).apply2 hj9 (own_ok (HRA.out.ok.later hr1.bl) hr1 hr2) HRA.out.rg)
                clear hr1 hr2 hne b0 b1 b2 b3 b4 b5 b6 b7 b8 b9 b10 b11 x1 HRA
                go_wp2_with fail
                refine AP.out.mono ?_
                rintro e w9 ⟨rfl, HM9⟩
                rw [HE.out]
                clear AP HE HM5 HBX2 HRW
                go_wp2_with fail
                refine HM9.out.ceil1.mono ?_
                rintro e w10 ⟨rfl, hb10⟩
                have HM10 := hid (HM9.out.later hb10)
                clear hb10
                go_wp2_with fail
                refine HM10.out.ceil2.mono ?_
                rintro e w11 ⟨rfl, hb11⟩
                have HM11 := hid (HM10.out.later hb11)
                clear hb11 HM10 HM9
                obtain ⟨s9, hs9⟩ : ∃ s9, axS s' r = s9 := ⟨_, rfl⟩
                obtain ⟨t9, ht9⟩ : ∃ t9, axS t' r = t9 := ⟨_, rfl⟩
                rw [hs9, ht9] at HM11
                rw [hs9]
                clear hs9 ht9
                obtain ⟨wm, hwm⟩ : ∃ wm, s9.wm = wm := ⟨_, rfl⟩
                have HW := hid hwm
                clear hwm
                go_wp2_with fail
                refine HM11.out.wm1.mono ?_
                rintro e w12 ⟨rfl, hb12⟩
                have HM12 := hid (HM11.out.later hb12)
                clear hb12
                rw [HW.out]
                go_wp2_with fail
                refine HM12.out.wm2.mono ?_
                rintro e w13 ⟨rfl, hb13⟩
                have HM13 := hid (HM12.out.later hb13)
                clear hb13 HM12 HM11
                rw [HW.out]
                clear HW
                obtain ⟨wa, wb, wd⟩ := wm
                go_wp2_with fail
                go_roundg (N - (j + 1))
                case measure => omega
                case rel => exact ⟨j + 1, s9, t9, by omega, by omega, rfl, by go_num, HM13⟩
              · obtain rfl : j = N := by omega
                obtain ⟨S', hS'⟩ : ∃ S', ofNats (imgB s') = S' := ⟨_, rfl⟩
                have sb := beq_self S'
                have IM : Hid (∀ W, Below wr.heap.size wr W → Calls Tryz.prog 10 #[sp p] W fun e w' => e = .returned (.string S') ∧ Below wr.heap.size wr w') := hid fun W hb => by
                  rw [← hS']
                  refine ((HM.out.later hb).image1 hj9).mono ?_
                  rintro e w' ⟨h1, h2⟩
                  exact ⟨h1, Below.on hb h2⟩
                have LN : Hid (∀ W n', Below wr.heap.size wr W → n' ≠ x.node → Calls Tryz.prog 9 #[.int .u32 n', .string S'] W fun e w' => e = .returned (.tuple #[.pointer none, .int .i64 131]) ∧ Below wr.heap.size wr w') := hid fun W n' hb hne => by
                  rw [← hS']
                  refine ((HM.out.later hb).load_no hj9 hne).mono ?_
                  rintro e w' ⟨h1, h2⟩
                  exact ⟨h1, Below.on hb h2⟩
                have HNE : Hid (IntKind.u32.wrap (x.node + 1) ≠ x.node) := hid (by
                  have h0 := HNN.out.1
                  have h1 : x.node ≤ 4294967295 := HNN.out.2
                  rw [IntKind.wrap_u32]
                  omega)
                have HS := hid hS'
                have x0 := cell_later HM.out.bl X0.out
                clear hS'
                go_upto_region 21 with fail
                clear x1
                go_cut [11, 12] (fun s11 s12 wz => s11 = .pointer none ∧ s12 = .int .i64 131 ∧ Hid (Below wr.heap.size wr wz))
                case first =>
                  go_region_held3 (fun w' => w'.cell? ⟨w.heap.size, 0, none⟩ = some (.int .u32 x.node) ∧ Below wr.heap.size wr w')
                    ((refine (fun (hB : Below wr.heap.size wr _) => ⟨cell_later hB x0, hB⟩) ?_; (repeat (first | with_reducible exact Below.refl _ _ | with_reducible assumption | with_reducible refine Below.drew ?_ | with_reducible refine Below.al ?_ _ | with_reducible refine Below.setCell ?_ (by first | exact Nat.le_refl _ | (simp; omega) | (simp; done)) _ | with_reducible refine Below.on ?_ (by assumption)))))
                    (first
                      | (go_at_call 10; refine (IM.out _ (by (repeat (first | with_reducible exact Below.refl _ _ | with_reducible assumption | with_reducible refine Below.drew ?_ | with_reducible refine Below.al ?_ _ | with_reducible refine Below.setCell ?_ (by first | exact Nat.le_refl _ | (simp; omega) | (simp; done)) _ | with_reducible refine Below.on ?_ (by assumption))))).mono ?_; rintro e w2 ⟨rfl, hb2⟩)
                      | (go_at_call 9; refine (LN.out _ _ (by (repeat (first | with_reducible exact Below.refl _ _ | with_reducible assumption | with_reducible refine Below.drew ?_ | with_reducible refine Below.al ?_ _ | with_reducible refine Below.setCell ?_ (by first | exact Nat.le_refl _ | (simp; omega) | (simp; done)) _ | with_reducible refine Below.on ?_ (by assumption)))) HNE.out).mono ?_; rintro e w3 ⟨rfl, hb3⟩))
                  all_goals (try go_wp2_with fail)
                  all_goals go_meet
                  all_goals exact ⟨rfl, rfl, hid (by (repeat (first | with_reducible exact Below.refl _ _ | with_reducible assumption | with_reducible refine Below.drew ?_ | with_reducible refine Below.al ?_ _ | with_reducible refine Below.setCell ?_ (by first | exact Nat.le_refl _ | (simp; omega) | (simp; done)) _ | with_reducible refine Below.on ?_ (by assumption))))⟩
                case rest =>
                  obtain ⟨rfl, rfl, HB⟩ := hcut
                  have HMz := hid (HM.out.later HB.out)
                  clear IM LN x0 HM HB
                  go_wp2_with fail
                  refine (HMz.out.image2 hj9).mono ?_
                  rintro e w6 ⟨rfl, hb6⟩
                  have HMy := hid (HMz.out.later hb6)
                  clear hb6 HMz
                  rw [HS.out]
                  go_wp2_with fail
                  refine (HMy.out.image1 hj9).mono ?_
                  rintro e w7 ⟨rfl, hb7⟩
                  have HB7 := hid (HBX.out.trans ((Below.on HMy.out.bl hb7).mono (by omega)))
                  clear hb7 HMy
                  rw [HS.out]
                  go_wp2_with fail
                  go_ret
                  exact ⟨rfl, HB7.out⟩
end Go.Proofs.YtofpaldolcnmiaaGreat.Ig
/- A list of structs, opened: any struct, with what its elements are read as. -/
namespace Go.Proofs.YtofpaldolcnmiaaGreat
open Go.ChangeShapes Go.WideShapes Go.ChangeAt Go.RowKit Go.Deep
set_option linter.unusedVariables false

/-- a row of elements of n cells each -/
def RowC {α : Type} (z : α) (cells : α → List Value) (n : Nat) (W : World) (a : Option Addr) (xs : List α) : Prop :=
  ∀ i, i < xs.length → ∃ b off, a = some ⟨b, off, none⟩ ∧ ∀ o u, (cells (xs[i]?.getD z))[o]? = some u → W.cell? ⟨b, off + i * n + o, none⟩ = some u

theorem weightsAll_mem {H : Type} {P : Program} {e : TypeId} {k : Nat} : ∀ {l : List (DataW H)} {d : DataW H}, d ∈ l → k ∈ d.weights P e → k ∈ DataW.weightsAll P e l
  | x :: l, d, hd, hk => by
    rw [DataW.weightsAll, List.mem_append]
    rcases List.mem_cons.1 hd with rfl | hd
    · exact .inl hk
    · exact .inr (weightsAll_mem hd hk)

/-- what a small bulk says -/
theorem bulk_pos {H : Type} (d : DataW H) : 1 ≤ Rows.uptoBulk d := by
  cases d with
  | lit l => cases l <;> simp [Rows.uptoBulk]
  | _ => simp [Rows.uptoBulk]
theorem bulkAll_len {H : Type} : ∀ l : List (DataW H), l.length ≤ Rows.uptoBulkAll l
  | [] => by simp
  | x :: l => by have := bulkAll_len l; have := bulk_pos x; simp only [List.length_cons, Rows.uptoBulkAll]; omega
theorem bulkAll_mem {H : Type} : ∀ {l : List (DataW H)} {d : DataW H}, d ∈ l → Rows.uptoBulk d ≤ Rows.uptoBulkAll l
  | x :: l, d, hd => by
    rcases List.mem_cons.1 hd with rfl | hd
    · simp only [Rows.uptoBulkAll]; omega
    · have := bulkAll_mem hd; simp only [Rows.uptoBulkAll]; omega
theorem bulkAll_sum {H α : Type} (z : α) (f : α → Nat) : ∀ {el : List (DataW H)} {xs : List α}, el.length = xs.length → (∀ i, i < xs.length → ∃ d, el[i]? = some d ∧ f (xs[i]?.getD z) ≤ Rows.uptoBulk d) → (xs.map f).sum ≤ Rows.uptoBulkAll el
  | [], [], _, _ => by simp
  | e :: el, x :: xs, hl, h => by
    obtain ⟨d, hd, h0⟩ := h 0 (by simp)
    simp at hd h0
    subst hd
    have := bulkAll_sum z f (el := el) (xs := xs) (by simpa using hl) (fun i hi => by
      obtain ⟨d, hd, h1⟩ := h (i + 1) (by simpa using hi)
      exact ⟨d, by simpa using hd, by simpa using h1⟩)
    simp only [List.map_cons, List.sum_cons, Rows.uptoBulkAll]
    omega
/-- all of its weights are within the reach, or its bulk is small -/
def InReach {H : Type} (t : TypeId) (d : DataW H) : Prop := (∀ k ∈ d.weights Tryz.prog t, k ≤ reachBytes) ∨ Rows.uptoBulk d ≤ 1048576
theorem InReach.part {H : Type} {t : TypeId} {fs : Array Field} {ps : List (DataW H)} (h : InReach t (.agg ps)) (ht : Tryz.prog.underlying t = some (.struct fs)) {j : Nat} {f : Field} {d : DataW H} (hf : fs[j]? = some f) (hd : ps[j]? = some d) : InReach f.type d := by
  rcases h with h | h
  · refine .inl fun k hk => h k ?_
    simp only [DataW.weights, ht]
    exact DataW.weights_mem_each (j := j) (by simp [hf]) hd k hk
  · have := bulkAll_mem (List.mem_of_getElem? hd)
    simp only [Rows.uptoBulk] at h
    exact .inr (by omega)
theorem InReach.elem {H : Type} {t e : TypeId} {el sp : List (DataW H)} (h : InReach t (.slice el sp)) (ht : Tryz.prog.underlying t = some (.slice e)) {d : DataW H} (hd : d ∈ el) : InReach e d := by
  rcases h with h | h
  · refine .inl fun k hk => h k ?_
    simp only [DataW.weights, ht, List.mem_cons, List.mem_append]
    exact .inr (.inl (weightsAll_mem hd hk))
  · have := bulkAll_mem hd
    simp only [Rows.uptoBulk] at h
    exact .inr (by omega)
theorem InReach.len {H : Type} {t e : TypeId} {el sp : List (DataW H)} (h : InReach t (.slice el sp)) (ht : Tryz.prog.underlying t = some (.slice e)) {n : Nat} (hb : Tryz.prog.bytesOf e = n) (hn : n ≤ 65536) : el.length * n ≤ reachBytes := by
  rcases h with h | h
  · have := h ((el.length + sp.length) * Tryz.prog.bytesOf e) (by simp [DataW.weights, ht])
    rw [hb] at this
    exact Nat.le_trans (Nat.mul_le_mul_right _ (Nat.le_add_right _ _)) this
  · have := bulkAll_len el
    simp only [Rows.uptoBulk] at h
    have h1 : el.length * n ≤ 1048576 * 65536 := Nat.mul_le_mul (by omega) hn
    exact Nat.le_trans h1 (by decide)
theorem open_rows {H : Type} {enc : TypeId × Value → H} {W : World} {base fuel : Nat} {v : Value} {y : DataW H × List MemPlace} {t e : TypeId} {n : Nat} (ht : Tryz.prog.underlying t = some (.slice e)) (hn : Tryz.prog.cellsOf e = n) (hn0 : 0 < n)
    {α : Type} (z : α) (cells : α → List Value) (good : α → DataW H → Prop)
    (hrd : ∀ fuel cs y, DataW.trod enc Tryz.prog W base (fun _ => true) true fuel e cs = some y → InReach e y.1 → ∃ x, cs = cells x ∧ good x y.1)
    (hf : DataW.trod enc Tryz.prog W base (fun _ => true) true fuel t [v] = some y) (hr : InReach t y.1) :
    ∃ (a : Option Addr) (cap : Nat) (xs : List α), v = .slice a xs.length cap ∧ xs.length ≤ cap ∧ xs.length ≤ 9223372036854775807 ∧ RowC z cells n W a xs ∧
      (xs = [] ∨ ∃ el sp, y.1 = .slice el sp ∧ el.length = xs.length ∧ ∀ i, i < xs.length → ∃ d, el[i]? = some d ∧ good (xs[i]?.getD z) d) := by
  rcases open_slice ht hf with ⟨e3, _⟩ | ⟨a, len, cap, m, n', D, Pl, e3, hb, hlc, hm, hmm, hxx, hel⟩
  · injection e3 with e3
    subst e3
    exact ⟨none, 0, [], rfl, by simp, by simp, fun i hi => by simp at hi, .inl rfl⟩
  · injection e3 with e3
    subst e3
    have hlm : len ≤ m := by rw [hmm]; split <;> omega
    have each : ∀ i, i < len → ∃ x : α, good x (D i) ∧ ∃ bb off, a = ⟨bb, off, none⟩ ∧ ∀ o u, (cells x)[o]? = some u → W.cell? ⟨bb, off + i * n + o, none⟩ = some u := by
      intro i hi
      obtain ⟨cs', hc, ht'⟩ := hel i (by omega)
      have hrD : InReach e (D i) := by
        rw [hxx] at hr
        exact hr.elem ht (List.mem_map.2 ⟨i, List.mem_range.2 hi, rfl⟩)
      obtain ⟨x, rfl, hg⟩ := hrd _ _ _ ht' hrD
      rw [hn] at hc
      obtain ⟨_, hl, hcell⟩ := World.cells?_some hc
      obtain ⟨bb, off, spot⟩ := a
      have hspot : spot = none := by
        obtain ⟨cs0, hc0, ht0⟩ := hel 0 (by omega)
        rw [hn] at hc0
        obtain ⟨_, hl0, hcell0⟩ := World.cells?_some hc0
        have h0 := hcell0 0 hn0
        cases hv0 : cs0[0]? with
        | none => rw [List.getElem?_eq_none_iff] at hv0; omega
        | some u =>
          rw [hv0] at h0
          have hs := World.cell?_spot h0
          clear hcell hcell0
          simpa [Addr.add] using hs
      subst hspot
      refine ⟨x, hg, bb, off, rfl, fun o u ho => ?_⟩
      have hol : o < n := by have := (List.getElem?_eq_some_iff.1 ho).1; omega
      have := hcell o hol
      rw [ho] at this
      simpa [Addr.add_lit, Nat.add_assoc] using this
    obtain ⟨f, hq⟩ := @choose_lt α ⟨z⟩ _ _ each
    have hnn : ∀ i, i < len → (((List.range len).map f)[i]?).getD z = f i := fun i hi => by simp [hi]
    refine ⟨some a, cap, (List.range len).map f, by simp, by simpa using hlc, by simp [maxLen] at hm ⊢; omega, fun i hi => ?_, .inr ⟨(List.range len).map D, (List.range (m - len)).map fun j => D (len + j), by rw [hxx], by simp, fun i hi => ?_⟩⟩
    · have hi' : i < len := by simpa using hi
      obtain ⟨hx, bb, off, e, c⟩ := hq i hi'
      rw [hnn i hi']
      exact ⟨bb, off, by rw [e], c⟩
    · have hi' : i < len := by simpa using hi
      rw [hnn i hi']
      exact ⟨D i, by simp [hi'], (hq i hi').1⟩

end Go.Proofs.YtofpaldolcnmiaaGreat
/- The opening: records, the law's argument. -/
namespace Go.Proofs.YtofpaldolcnmiaaGreat.Ig
open Ys Go.ChangeShapes Go.WideShapes Go.ChangeAt Go.RowKit Go.Deep
set_option linter.unusedVariables false

abbrev rcs (m : Rg) : List Value := [.int .i64 m.k, .int .u64 m.x, .int .u32 m.c, .int .u32 m.s, .int .u32 m.h, .int .i64 m.oc, .int .u64 m.w, .int .u32 m.l, .int .u32 m.n, .slice m.ra m.rs.length m.rc, .slice m.wa m.ws.length m.wc, .string m.im]
theorem cells_str : Tryz.prog.cellsOf 9 = 1 := by kernel_rfl
theorem cells_bool : Tryz.prog.cellsOf 4 = 1 := by kernel_rfl
theorem cells_u64 : Tryz.prog.cellsOf 31 = 1 := by kernel_rfl
theorem cells_u32 : Tryz.prog.cellsOf 22 = 1 := by kernel_rfl
theorem cells_kind : Tryz.prog.cellsOf 30 = 1 := by kernel_rfl
theorem cells_outc : Tryz.prog.cellsOf 34 = 1 := by kernel_rfl
theorem cells_txn : Tryz.prog.cellsOf 33 = 2 := by kernel_rfl
theorem cells_stamp : Tryz.prog.cellsOf 36 = 3 := by kernel_rfl
theorem cells_spans : Tryz.prog.cellsOf 37 = 1 := by kernel_rfl
theorem cells_writes : Tryz.prog.cellsOf 38 = 1 := by kernel_rfl
theorem cells_recs : Tryz.prog.cellsOf 23 = 1 := by kernel_rfl
theorem cells_Span : Tryz.prog.cellsOf 126 = 2 := by kernel_rfl
theorem cells_Write : Tryz.prog.cellsOf 117 = 3 := by kernel_rfl
theorem cells_rec : Tryz.prog.cellsOf 40 = 12 := by kernel_rfl
theorem cells_log : Tryz.prog.cellsOf 25 = 3 := by kernel_rfl
theorem cells_int : Tryz.prog.cellsOf 3 = 1 := by kernel_rfl
theorem bytes_Span : Tryz.prog.bytesOf 126 = 32 := by kernel_rfl
theorem bytes_Write : Tryz.prog.bytesOf 117 = 40 := by kernel_rfl
theorem list2 {α : Type} {cs : List α} (h : cs.length = 2) : ∃ c0 c1, cs = [c0, c1] := by
  match cs, h with
  | [c0, c1], _ => exact ⟨c0, c1, rfl⟩
theorem list3 {α : Type} {cs : List α} (h : cs.length = 3) : ∃ c0 c1 c2, cs = [c0, c1, c2] := by
  match cs, h with
  | [c0, c1, c2], _ => exact ⟨c0, c1, c2, rfl⟩
theorem list9 {α : Type} {cs : List α} (h : cs.length = 9) : ∃ c0 c1 c2 c3 c4 c5 c6 c7 c8, cs = [c0, c1, c2, c3, c4, c5, c6, c7, c8] := by
  match cs, h with
  | [c0, c1, c2, c3, c4, c5, c6, c7, c8], _ => exact ⟨c0, c1, c2, c3, c4, c5, c6, c7, c8, rfl⟩
theorem list12 {α : Type} {cs : List α} (h : cs.length = 12) : ∃ c0 c1 c2 c3 c4 c5 c6 c7 c8 c9 c10 c11, cs = [c0, c1, c2, c3, c4, c5, c6, c7, c8, c9, c10, c11] := by
  match cs, h with
  | [c0, c1, c2, c3, c4, c5, c6, c7, c8, c9, c10, c11], _ => exact ⟨c0, c1, c2, c3, c4, c5, c6, c7, c8, c9, c10, c11, rfl⟩
section
variable {H : Type} {enc : TypeId × Value → H} {w : World} {base : Nat} {fuel : Nat} {cs : List Value} {y : DataW H × List MemPlace}
theorem trod_Span (h : DataW.trod enc Tryz.prog w base (fun _ => true) true fuel 126 cs = some y) : ∃ x : T2, cs = Lk.encS x := by
  obtain ⟨ys, n, _, rfl, hl, hlen, hf⟩ := DataW.trod_struct Tryz.underlying126 h
  rw [cells_Span] at hl
  obtain ⟨c0, c1, rfl⟩ := list2 hl
  obtain ⟨y0, y1, rfl⟩ := list2 (cs := ys) (by simpa using hlen)
  obtain ⟨s0, e0, _, _⟩ := DataW.trod_string Tryz.underlying9 (hf 0 _ rfl)
  obtain ⟨s1, e1, _, _⟩ := DataW.trod_string Tryz.underlying9 (hf 1 _ rfl)
  simp [cells_str] at e0 e1
  subst e0 e1
  exact ⟨(s0, s1), rfl⟩
theorem trod_Write (h : DataW.trod enc Tryz.prog w base (fun _ => true) true fuel 117 cs = some y) : ∃ x : Wr, cs = Lk.encW x := by
  obtain ⟨ys, n, _, rfl, hl, hlen, hf⟩ := DataW.trod_struct Tryz.underlying117 h
  rw [cells_Write] at hl
  obtain ⟨c0, c1, c2, rfl⟩ := list3 hl
  obtain ⟨y0, y1, y2, rfl⟩ := list3 (cs := ys) (by simpa using hlen)
  obtain ⟨s0, e0, _, _⟩ := DataW.trod_string Tryz.underlying9 (hf 0 _ rfl)
  obtain ⟨b1, e1, _⟩ := DataW.trod_bool Tryz.underlying4 (hf 1 _ rfl)
  obtain ⟨s2, e2, _, _⟩ := DataW.trod_string Tryz.underlying9 (hf 2 _ rfl)
  simp [cells_str, cells_bool] at e0 e1 e2
  subst e0 e1 e2
  exact ⟨⟨s0, b1, s2⟩, rfl⟩
theorem trod_txn (h : DataW.trod enc Tryz.prog w base (fun _ => true) true fuel 33 cs = some y) : ∃ a b : Int, cs = [.int .u32 a, .int .u32 b] ∧ okU 4294967295 a ∧ okU 4294967295 b := by
  obtain ⟨ys, n, _, rfl, hl, hlen, hf⟩ := DataW.trod_struct Tryz.underlying33 h
  rw [cells_txn] at hl
  obtain ⟨c0, c1, rfl⟩ := list2 hl
  obtain ⟨y0, y1, rfl⟩ := list2 (cs := ys) (by simpa using hlen)
  obtain ⟨s0, e0, _, w0⟩ := DataW.trod_int Tryz.underlying22 (hf 0 _ rfl)
  obtain ⟨s1, e1, _, w1⟩ := DataW.trod_int Tryz.underlying22 (hf 1 _ rfl)
  simp [cells_u32] at e0 e1
  subst e0 e1
  exact ⟨s0, s1, rfl, bounds_u32 w0, bounds_u32 w1⟩
theorem trod_st (h : DataW.trod enc Tryz.prog w base (fun _ => true) true fuel 36 cs = some y) : ∃ t : Vs.Sp, cs = [.int .u64 t.a, .int .u32 t.b, .int .u32 t.c] ∧ OkS t ∧ 4 ≤ Rows.uptoBulk y.1 := by
  obtain ⟨ys, n, _, rfl, hl, hlen, hf⟩ := DataW.trod_struct Tryz.underlying36 h
  rw [cells_stamp] at hl
  obtain ⟨c0, c1, c2, rfl⟩ := list3 hl
  obtain ⟨y0, y1, y2, rfl⟩ := list3 (cs := ys) (by simpa using hlen)
  obtain ⟨s0, e0, _, w0⟩ := DataW.trod_int Tryz.underlying31 (hf 0 _ rfl)
  obtain ⟨s1, e1, _, w1⟩ := DataW.trod_int Tryz.underlying22 (hf 1 _ rfl)
  obtain ⟨s2, e2, _, w2⟩ := DataW.trod_int Tryz.underlying22 (hf 2 _ rfl)
  simp [cells_u32, cells_u64] at e0 e1 e2
  subst e0 e1 e2
  refine ⟨⟨s0, s1, s2⟩, rfl, ⟨bounds_u64 w0, bounds_u32 w1, bounds_u32 w2⟩, ?_⟩
  have h0 := bulk_pos y0.1
  have h1 := bulk_pos y1.1
  have h2 := bulk_pos y2.1
  simp only [List.map_cons, List.map_nil, Rows.uptoBulk, Rows.uptoBulkAll]
  omega
theorem Span_cell {v : Value} (hf : DataW.trod enc Tryz.prog w base (fun _ => true) true fuel 37 [v] = some y) (hr : InReach 37 y.1) :
    ∃ (a : Option Addr) (cap : Nat) (xs : List T2), v = .slice a xs.length cap ∧ Row2 w a xs ∧ xs.length + 1 ≤ 8796093022208 := by
  obtain ⟨a, cap, xs, rfl, _, _, hrow, hel⟩ := open_rows Tryz.underlying37 cells_Span (by decide) ((⟨#[]⟩, ⟨#[]⟩) : T2) Lk.encS (fun _ _ => True) (fun _ _ _ h _ => by obtain ⟨x, e⟩ := trod_Span h; exact ⟨x, e, trivial⟩) hf hr
  refine ⟨a, cap, xs, rfl, fun i hi => ?_, ?_⟩
  · obtain ⟨b, off, e, hc⟩ := hrow i hi
    exact ⟨b, off, e, hc 0 _ rfl, hc 1 _ rfl⟩
  · rcases hel with rfl | ⟨el, sp, e1, e2, _⟩
    · simp
    · rw [e1] at hr
      have := hr.len Tryz.underlying37 bytes_Span (by decide)
      rw [e2] at this
      simp only [reachBytes] at this
      omega
theorem Write_cell {v : Value} (hf : DataW.trod enc Tryz.prog w base (fun _ => true) true fuel 38 [v] = some y) (hr : InReach 38 y.1) :
    ∃ (a : Option Addr) (cap : Nat) (xs : List Wr), v = .slice a xs.length cap ∧ RowW w a xs ∧ xs.length + 1 ≤ 7036874417766 := by
  obtain ⟨a, cap, xs, rfl, _, _, hrow, hel⟩ := open_rows Tryz.underlying38 cells_Write (by decide) (⟨⟨#[]⟩, false, ⟨#[]⟩⟩ : Wr) Lk.encW (fun _ _ => True) (fun _ _ _ h _ => by obtain ⟨x, e⟩ := trod_Write h; exact ⟨x, e, trivial⟩) hf hr
  refine ⟨a, cap, xs, rfl, fun i hi => ?_, ?_⟩
  · obtain ⟨b, off, e, hc⟩ := hrow i hi
    exact ⟨b, off, e, hc 0 _ rfl, hc 1 _ rfl, hc 2 _ rfl⟩
  · rcases hel with rfl | ⟨el, sp, e1, e2, _⟩
    · simp
    · rw [e1] at hr
      have := hr.len Tryz.underlying38 bytes_Write (by decide)
      rw [e2] at this
      simp only [reachBytes] at this
      omega
set_option maxRecDepth 100000 in
theorem trod_Rec (h : DataW.trod enc Tryz.prog w base (fun _ => true) true fuel 40 cs = some y) (hr : InReach 40 y.1) : ∃ r : Rg, cs = rcs r ∧ RgL w r ∧ 13 ≤ Rows.uptoBulk y.1 := by
  obtain ⟨ys, n, _, rfl, hl, hlen, hfld⟩ := DataW.trod_struct Tryz.underlying40 h
  rw [cells_rec] at hl
  obtain ⟨c0, c1, c2, c3, c4, c5, c6, c7, c8, c9, c10, c11, rfl⟩ := list12 hl
  obtain ⟨y0, y1, y2, y3, y4, y5, y6, y7, y8, rfl⟩ := list9 (cs := ys) (by simpa using hlen)
  obtain ⟨a0, e0, _, _⟩ := DataW.trod_int Tryz.underlying30 (hfld 0 _ rfl)
  obtain ⟨a1, e1, _, w1⟩ := DataW.trod_int Tryz.underlying31 (hfld 1 _ rfl)
  obtain ⟨a2, a3, e2, hc, hs⟩ := trod_txn (hfld 2 _ rfl)
  obtain ⟨a4, e4, _, w4⟩ := DataW.trod_int Tryz.underlying22 (hfld 3 _ rfl)
  obtain ⟨a5, e5, _, _⟩ := DataW.trod_int Tryz.underlying34 (hfld 4 _ rfl)
  obtain ⟨t, e6, hst, hb5⟩ := trod_st (hfld 5 _ rfl)
  obtain ⟨s8, e8, _, _⟩ := DataW.trod_string Tryz.underlying9 (hfld 8 _ rfl)
  have s6 : ([c0, c1, c2, c3, c4, c5, c6, c7, c8, c9, c10, c11].drop 9).take (Tryz.prog.cellsOf 37) = [c9] := by rw [cells_spans]; rfl
  have s7 : ([c0, c1, c2, c3, c4, c5, c6, c7, c8, c9, c10, c11].drop 10).take (Tryz.prog.cellsOf 38) = [c10] := by rw [cells_writes]; rfl
  have g6 : DataW.trod enc Tryz.prog w base (fun _ => true) true n 37 [c9] = some y6 := by rw [← s6]; exact hfld 6 _ rfl
  have g7 : DataW.trod enc Tryz.prog w base (fun _ => true) true n 38 [c10] = some y7 := by rw [← s7]; exact hfld 7 _ rfl
  obtain ⟨ra, rc, rs, rfl, hR, hrl⟩ := Span_cell g6 (InReach.part (ps := [y0.1, y1.1, y2.1, y3.1, y4.1, y5.1, y6.1, y7.1, y8.1]) hr Tryz.underlying40 (j := 6) rfl rfl)
  obtain ⟨wa, wc, ws, rfl, hW, hwl⟩ := Write_cell g7 (InReach.part (ps := [y0.1, y1.1, y2.1, y3.1, y4.1, y5.1, y6.1, y7.1, y8.1]) hr Tryz.underlying40 (j := 7) rfl rfl)
  have HBK : 13 ≤ Rows.uptoBulk (DataW.agg [y0.1, y1.1, y2.1, y3.1, y4.1, y5.1, y6.1, y7.1, y8.1]) := by
    have h0 := bulk_pos y0.1
    have h1 := bulk_pos y1.1
    have h2 := bulk_pos y2.1
    have h3 := bulk_pos y3.1
    have h4 := bulk_pos y4.1
    have h6 := bulk_pos y6.1
    have h7 := bulk_pos y7.1
    have h8 := bulk_pos y8.1
    simp only [Rows.uptoBulk, Rows.uptoBulkAll]
    omega
  simp [cells_kind, cells_u64, cells_u32, cells_outc, cells_txn, cells_stamp, cells_str] at e0 e1 e2 e4 e5 e6 e8
  obtain ⟨e2, e3⟩ := e2
  obtain ⟨e6, e7, e9⟩ := e6
  subst e0 e1 e2 e3 e4 e5 e6 e7 e8 e9
  exact ⟨⟨a0, a1, a2, a3, a4, a5, t.a, t.b, t.c, ra, rs, rc, wa, ws, wc, s8⟩, rfl, ⟨⟨hR, hW, by show rs.length ≤ _; omega, by show ws.length ≤ _; omega, hs.1, hst.a⟩, ⟨bounds_u64 w1, hst⟩, ⟨hc, hs, bounds_u32 w4⟩, hrl, hwl⟩, HBK⟩
theorem sum_const {α : Type} (c : Nat) : ∀ l : List α, (l.map (fun _ => c)).sum = c * l.length
  | [] => by simp
  | x :: l => by
    have := sum_const c l
    rw [List.map_cons, List.sum_cons, List.length_cons, Nat.mul_add, this]
    omega
theorem Rec_cell {v : Value} (hf : DataW.trod enc Tryz.prog w base (fun _ => true) true fuel 23 [v] = some y) (hr : InReach 23 y.1) (hk : Rows.uptoBulk y.1 ≤ 1048576) :
    ∃ (a : Option Addr) (cap : Nat) (xs : List Rg), v = .slice a xs.length cap ∧ RowL w a xs ∧ xs.length ≤ 93000 := by
  obtain ⟨a, cap, xs, rfl, _, _, hrow, hel⟩ := open_rows Tryz.underlying23 cells_rec (by decide) Rg.zero rcs (fun r d => RgL w r ∧ 13 ≤ Rows.uptoBulk d) (fun _ _ _ h k => trod_Rec h k) hf hr
  refine ⟨a, cap, xs, rfl, fun i r hr' => ?_, ?_⟩
  · have hi : i < xs.length := (List.getElem?_eq_some_iff.1 hr').1
    obtain ⟨b, off, e, hc⟩ := hrow i hi
    rw [hr'] at hc
    refine ⟨⟨b, off, e, hc 0 _ rfl, hc 1 _ rfl, hc 2 _ rfl, hc 3 _ rfl, hc 4 _ rfl, hc 5 _ rfl, hc 6 _ rfl, hc 7 _ rfl, hc 8 _ rfl, hc 9 _ rfl, hc 10 _ rfl, hc 11 _ rfl⟩, ?_⟩
    rcases hel with rfl | ⟨el, sp, _, _, e3⟩
    · simp at hi
    · obtain ⟨d, _, hg⟩ := e3 i hi
      rw [hr'] at hg
      exact hg.1
  · rcases hel with rfl | ⟨el, sp, e1, e2, e3⟩
    · simp
    · rw [e1] at hk
      have h1 := bulkAll_sum Rg.zero (fun _ => 13) (el := el) (xs := xs) e2 (fun i hi => by
        obtain ⟨d, hd, hg⟩ := e3 i hi
        exact ⟨d, hd, hg.2⟩)
      rw [sum_const] at h1
      simp only [Rows.uptoBulk] at hk
      omega
end
set_option maxRecDepth 100000 in
theorem open_log {H : Type} {enc : TypeId × Value → H} {W : World} {r : Reach} {b : Nat} {v : Value} {d : DataW H} {p : List MemPlace}
    (hv : Value.okWide Tryz.prog W r b 25 v) (h : DataW.Trod enc Tryz.prog W 0 (fun _ => true) true 25 v d p) (hk : Rows.uptoBulk d ≤ 1048576) :
    ∃ x : Lx, v = x.val ∧ RowL W x.la x.ls ∧ x.ls.length ≤ 93000 ∧ okU 4294967295 x.node ∧ (-9223372036854775808 ≤ x.cut ∧ x.cut ≤ 9223372036854775807) := by
  obtain ⟨cs, rfl, hs⟩ := okWide_struct Tryz.underlying25 hv
  obtain ⟨fuel, hf⟩ := h
  obtain ⟨ys, n, hfu, hd, hl, hlen, hfld⟩ := DataW.trod_struct Tryz.underlying25 hf
  rw [cells_log] at hl
  obtain ⟨cs⟩ := cs
  simp only [Value.cells] at hl hfld
  obtain ⟨c0, c1, c2, rfl⟩ := list3 hl
  obtain ⟨y0, y1, y2, rfl⟩ := list3 (cs := ys) (by simpa using hlen)
  have hd1 : d = .agg [y0.1, y1.1, y2.1] := by injection hd
  rw [hd1] at hk
  simp only [Rows.uptoBulk, Rows.uptoBulkAll] at hk
  obtain ⟨a0, e0, _, w0⟩ := DataW.trod_int Tryz.underlying22 (hfld 0 _ rfl)
  obtain ⟨a2, e2, _, w2⟩ := DataW.trod_int Tryz.underlying3 (hfld 2 _ rfl)
  have s1 : ([c0, c1, c2].drop 1).take (Tryz.prog.cellsOf 23) = [c1] := by rw [cells_recs]; rfl
  have g1 : DataW.trod enc Tryz.prog W 0 (fun _ => true) true n 23 [c1] = some y1 := by rw [← s1]; exact hfld 1 _ rfl
  have k1 : Rows.uptoBulk y1.1 ≤ 1048576 := by omega
  obtain ⟨la, lc, ls, rfl, hL, hll⟩ := Rec_cell g1 (.inr k1) k1
  simp [cells_u32, cells_int] at e0 e2
  subst e0 e2
  exact ⟨⟨a0, la, ls, lc, a2⟩, rfl, hL, hll, bounds_u32 w0, bounds_i64 w2⟩
end Go.Proofs.YtofpaldolcnmiaaGreat.Ig
namespace Go.Proofs.YtofpaldolcnmiaaGreat
open Go.ChangeShapes Go.WideShapes Go.ChangeAt Go.RowKit Go.Deep Ig
set_option maxRecDepth 100000 in
theorem opened_stateTwin {H : Type} {enc : TypeId × Value → H} {W : World} {r : Reach} {b : Nat} {v : Value} {d : DataW H} {p : List MemPlace}
    (hv : Value.okWide Tryz.prog W r b 25 v) (h : DataW.Trod enc Tryz.prog W 0 (fun _ => true) true 25 v d p) (hk : Rows.uptoBulk d ≤ 1048576) :
    Calls Tryz.prog 3 #[v] W fun e w' => e = .returned (.bool true) ∧ Below W.heap.size W w' := by
  obtain ⟨x, rfl, h1, h2, h3, h4⟩ := open_log hv h hk
  exact twin_law h1 h2 h3 h4
end Go.Proofs.YtofpaldolcnmiaaGreat
