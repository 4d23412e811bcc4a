import Derived.Test.YtcghbjdmncggaaaDoorROwned
import Derived.Test.YtcghbjdmncggaaaDoorRRowP
import Derived.Test.YtcghbjdmncggaaaDoorRFitN
/- RouteCut: the walk. -/
namespace Go.Proofs.YtcghbjdmncggaaaDoor.Rt
open Go.RowKit Go.Sort
set_option linter.unusedVariables false

set_option maxHeartbeats 4000000 in
set_option maxRecDepth 100000 in
theorem law_cut {x : Ak} {w : World} (h : x.Ok w) (ht : PowTab w) :
    Calls Tryd.prog 3 #[x.val] w fun e w' => e = .returned (.bool true) ∧ Below w.heap.size w w' := by
  obtain ⟨⟨sh, cl, a, cp, ss, ca, pk, wi⟩, ra, rc, rs, wa, wc, ws, ka, kc, ks⟩ := x
  obtain ⟨W, hW⟩ : ∃ W, W = w.alloc (.cells (Ak.mk (Cf.mk sh cl a cp ss ca pk wi) ra rc rs wa wc ws ka kc ks).cells 29) := ⟨_, rfl⟩
  have hbW : Below w.heap.size w W := by rw [hW]; exact Below.al (Below.refl _ _) _
  obtain ⟨p, hp⟩ : ∃ p, p = w.heap.size := ⟨_, rfl⟩
  have HA : Hid (At W W p (Ak.mk (Cf.mk sh cl a cp ss ca pk wi) ra rc rs wa wc ws ka kc ks)) := hid ⟨by rw [hW, hp]; exact BoxA.new w (Ak.mk (Cf.mk sh cl a cp ss ca pk wi) ra rc rs wa wc ws ka kc ks) _, h.later hbW, ht.later hbW, Below.refl _ _⟩
  have HBW := hid hbW
  have hkl := h.kl
  have hrl := h.rl
  simp only at hkl hrl
  obtain ⟨c0, c1, c2, c3, c4, c5, c6, c7, c8⟩ := HA.out.box
  clear h ht hbW
  cases hv : Cf.okB (Cf.mk sh cl a cp ss ca pk wi)
  · go_enter Tryd.func3, Tryd.ntmps3
    go_wp2_with fail
    rw [← hp, ← hW]
    clear hp hW
    refine (fit_is HA.out.ok.c hv).mono ?_
    rintro e w1 ⟨rfl, hb1⟩
    have H1 := hid hb1
    clear hb1
    obtain ⟨c0, c1, c2, c3, c4, c5, c6, c7, c8⟩ := HA.out.box.later H1.out
    go_wp2_with fail
    refine (HA.out.on H1.out).twin.mono ?_
    rintro e w2 ⟨a1, cp1, rfl, hok1, hb2⟩
    have HOK := hid hok1
    have H2 := hid (Below.on H1.out hb2)
    clear hok1 hb2
    go_wp2_with fail
    refine (Owner_is HOK.out _).mono ?_
    rintro e w3 ⟨rfl, hb3⟩
    have H3 := hid (Below.on H2.out hb3)
    clear hb3
    obtain ⟨c0, c1, c2, c3, c4, c5, c6, c7, c8⟩ := HA.out.box.later H3.out
    have ho : (Cf.at (Cf.mk sh cl a cp ss ca pk wi) a1 cp1).own ⟨#[97]⟩ = 0 := by rw [Cf.own]; exact if_neg (by rw [show (Cf.at (Cf.mk sh cl a cp ss ca pk wi) a1 cp1).okB = false from hv]; decide)
    rw [ho]
    go_wp2_with fail
    refine (HA.out.on H3.out).twin.mono ?_
    rintro e w4 ⟨a2, cp2, rfl, hok2, hb4⟩
    have HOK2 := hid hok2
    have H4 := hid (Below.on H3.out hb4)
    clear hok2 hb4
    go_wp2_with fail
    refine (Cutn_is HOK2.out hv (mt, mt)).mono ?_
    rintro e w5 ⟨a3, cp3, rfl, hb5⟩
    have H5 := hid (Below.on H4.out hb5)
    clear hb5
    go_wp2_with fail
    go_ret
    exact ⟨rfl, Below.on HBW.out H5.out⟩
  · obtain ⟨hl5, hsh, hri⟩ := ok_len hv
    simp only at hl5
    have HV := hid hv; have HS := hid hsh; have HR := hid hri
    clear hsh hri
    have HO : Hid (∀ a1 cp1 W', (Cf.at (Cf.mk sh cl a cp ss ca pk wi) a1 cp1).Ok W' → ∀ y, Calls Tryd.prog 6 #[(Cf.at (Cf.mk sh cl a cp ss ca pk wi) a1 cp1).val, .string y] W' fun e w' => e = .returned (.int .u32 (ownN ss y : Int)) ∧ Below W'.heap.size W' w') := hid (fun a1 cp1 W' ho y => by
      have := Owner_is ho y
      rw [show (Cf.at (Cf.mk sh cl a cp ss ca pk wi) a1 cp1).own y = ownN ss y by rw [Cf.own]; exact if_pos HV.out] at this
      exact this)
    have HC : Hid (∀ a1 cp1 W', (Cf.at (Cf.mk sh cl a cp ss ca pk wi) a1 cp1).Ok W' → ∀ s, Calls Tryd.prog 8 #[(Cf.at (Cf.mk sh cl a cp ss ca pk wi) a1 cp1).val, spv s] W' fun e w' => ∃ a2 cp2, e = .returned (.slice a2 (cutL ss s).length cp2) ∧ RowP w' a2 (cutL ss s) ∧ Below W'.heap.size W' w') := hid (fun a1 cp1 W' ho s => Cutr_is ho HV.out s)
    have HCA : Hid (∀ a1 cp1 W', (Cf.at (Cf.mk sh cl a cp ss ca pk wi) a1 cp1).Ok W' → Calls Tryd.prog 8 #[(Cf.at (Cf.mk sh cl a cp ss ca pk wi) a1 cp1).val, .agg #[.string ⟨#[]⟩, .string ⟨#[]⟩]] W' fun e w' => ∃ a2 cp2, e = .returned (.slice a2 (ss.length + 1) cp2) ∧ Below W'.heap.size W' w') := hid (fun a1 cp1 W' ho => (HC.out a1 cp1 W' ho (mt, mt)).mono fun e w' ⟨a2, cp2, he, _, hb⟩ => ⟨a2, cp2, by rw [he, cutL, cut_all HR.out _ (Nat.le_refl _)], hb⟩)
    go_enter Tryd.func3, Tryd.ntmps3
    go_wp2_with fail
    rw [← hp, ← hW]
    clear hp hW
    refine (fit_is HA.out.ok.c hv).mono ?_
    rintro e w1 ⟨rfl, hb1⟩
    have H1 := hid hb1
    clear hb1 hv
    obtain ⟨c0, c1, c2, c3, c4, c5, c6, c7, c8⟩ := HA.out.box.later H1.out
    go_wp2_with fail
    have hneq : (((ss.length : Int) + 1) != sh) = false := by rw [HS.out]; simp
    go_cut [41] (fun s wx => s = .bool false ∧ Below w1.heap.size w1 wx)
    case first =>
      go_region_held3 (fun w' => w'.cell? ⟨p, 0, none⟩ = some (.int .i64 sh) ∧ w'.cell? ⟨p, 1, none⟩ = some (.int .i64 cl) ∧ w'.cell? ⟨p, 2, none⟩ = some (.slice a ss.length cp) ∧ w'.cell? ⟨p, 3, none⟩ = some (.int .i64 ca) ∧ w'.cell? ⟨p, 4, none⟩ = some (.int .i64 pk) ∧ w'.cell? ⟨p, 5, none⟩ = some (.int .u64 wi) ∧ w'.cell? ⟨p, 6, none⟩ = some (.slice ra rs.length rc) ∧ w'.cell? ⟨p, 7, none⟩ = some (.slice wa ws.length wc) ∧ w'.cell? ⟨p, 8, none⟩ = some (.slice ka ks.length kc) ∧ Below w1.heap.size w1 w')
        ((refine (fun (hB : Below w1.heap.size w1 _) => ⟨cell_later hB c0, cell_later hB c1, cell_later hB c2, cell_later hB c3, cell_later hB c4, cell_later hB c5, cell_later hB c6, cell_later hB c7, cell_later hB c8, hB⟩) ?_; (repeat (first | with_reducible exact Below.refl _ _ | with_reducible assumption | with_reducible refine Below.drew ?_ | with_reducible refine Below.al ?_ _ | with_reducible refine Below.setCell ?_ (by first | exact Nat.le_refl _ | (simp; omega) | (simp; done)) _ | with_reducible refine Below.on ?_ (by assumption)))))
        (first | (go_at_call 9; refine (owned_is (HA.out.ok.later (Below.on H1.out (by (repeat (first | with_reducible exact Below.refl _ _ | with_reducible assumption | with_reducible refine Below.drew ?_ | with_reducible refine Below.al ?_ _ | with_reducible refine Below.setCell ?_ (by first | exact Nat.le_refl _ | (simp; omega) | (simp; done)) _ | with_reducible refine Below.on ?_ (by assumption)))))) HV.out (HA.out.tab.later (Below.on H1.out (by (repeat (first | with_reducible exact Below.refl _ _ | with_reducible assumption | with_reducible refine Below.drew ?_ | with_reducible refine Below.al ?_ _ | with_reducible refine Below.setCell ?_ (by first | exact Nat.le_refl _ | (simp; omega) | (simp; done)) _ | with_reducible refine Below.on ?_ (by assumption))))))).mono ?_; rintro e w2 ⟨rfl, hb2⟩) | (go_at_call 7; refine (((HA.out.on H1.out).on (by (repeat (first | with_reducible exact Below.refl _ _ | with_reducible assumption | with_reducible refine Below.drew ?_ | with_reducible refine Below.al ?_ _ | with_reducible refine Below.setCell ?_ (by first | exact Nat.le_refl _ | (simp; omega) | (simp; done)) _ | with_reducible refine Below.on ?_ (by assumption))))).twin).mono ?_; rintro e w3 ⟨a1, cp1, rfl, hok1, hb3⟩; have HOK := hid hok1; clear hok1) | (go_at_call 8; refine (HCA.out _ _ _ (HOK.out.later (by (repeat (first | with_reducible exact Below.refl _ _ | with_reducible assumption | with_reducible refine Below.drew ?_ | with_reducible refine Below.al ?_ _ | with_reducible refine Below.setCell ?_ (by first | exact Nat.le_refl _ | (simp; omega) | (simp; done)) _ | with_reducible refine Below.on ?_ (by assumption)))))).mono ?_; rintro e w4 ⟨a2, cp2, rfl, hb4⟩))
      all_goals (try go_wp2_with fail)
      all_goals go_meet
      all_goals (refine ⟨?_, by (repeat (first | with_reducible exact Below.refl _ _ | with_reducible assumption | with_reducible refine Below.drew ?_ | with_reducible refine Below.al ?_ _ | with_reducible refine Below.setCell ?_ (by first | exact Nat.le_refl _ | (simp; omega) | (simp; done)) _ | with_reducible refine Below.on ?_ (by assumption)))⟩)
      all_goals (first | rfl | (simp; done) | (rw [hneq]))
    case rest =>
      obtain ⟨rfl, hbx⟩ := hcut
      have HX := hid (Below.on H1.out hbx)
      clear hbx c0 c1 c2 c3 c4 c5 c6 c7 c8 hneq HCA H1
      go_wp2_with fail
      go_loopg [3] rs.length (fun g s3 wr => ∃ i : Nat, i ≤ rs.length ∧ g = rs.length - i ∧ s3 = .int .i64 i ∧ Hid (Below W.heap.size W wr))
      case atStart => exact ⟨0, by omega, by omega, rfl, HX⟩
      case round =>
        rename World => wI
        obtain ⟨i, hi, rfl, rfl, HI⟩ := hrel
        clear HX
        obtain ⟨c0, c1, c2, c3, c4, c5, c6, c7, c8⟩ := HA.out.box.later HI.out
        by_cases hli : i < rs.length
        · obtain ⟨b, off, rfl, d0, d1⟩ := (HA.out.ok.r.later HI.out) i hli
          obtain ⟨r, hr⟩ : ∃ r, r = nth2 rs i := ⟨_, rfl⟩
          simp only at d0 d1
          rw [← hr] at d0 d1
          obtain ⟨rl, rh⟩ := r
          have HRD := hid hr
          obtain ⟨L, hL⟩ : ∃ L, L = cutL ss (rl, rh) := ⟨_, rfl⟩
          obtain ⟨N, hN⟩ : ∃ N, N = L.length := ⟨_, rfl⟩
          have hN6 : N ≤ 6 := by rw [hN, hL]; have := cutL_len ss (rl, rh); omega
          have HL : Hid (L = cutL ss (rl, rh) ∧ L.length = N) := hid ⟨hL, hN.symm⟩
          have HC2 : Hid (∀ a1 cp1 W', (Cf.at (Cf.mk sh cl a cp ss ca pk wi) a1 cp1).Ok W' → Calls Tryd.prog 8 #[(Cf.at (Cf.mk sh cl a cp ss ca pk wi) a1 cp1).val, spv (rl, rh)] W' fun e w' => ∃ a2 cp2, e = .returned (.slice a2 N cp2) ∧ RowP w' a2 L ∧ Below W'.heap.size W' w') := hid (fun a1 cp1 W' ho => by
            have := HC.out a1 cp1 W' ho (rl, rh)
            rw [← HL.out.1, HL.out.2] at this
            exact this)
          clear hr hL hN
          go_wp2_with fail
          go_cut [4] (fun s wx => ∃ a4 c4, s = .slice a4 N c4 ∧ RowP wx a4 L ∧ Below wI.heap.size wI wx)
          case first =>
            go_region_held3 (fun w' => w'.cell? ⟨p, 0, none⟩ = some (.int .i64 sh) ∧ w'.cell? ⟨p, 1, none⟩ = some (.int .i64 cl) ∧ w'.cell? ⟨p, 2, none⟩ = some (.slice a ss.length cp) ∧ w'.cell? ⟨p, 3, none⟩ = some (.int .i64 ca) ∧ w'.cell? ⟨p, 4, none⟩ = some (.int .i64 pk) ∧ w'.cell? ⟨p, 5, none⟩ = some (.int .u64 wi) ∧ w'.cell? ⟨p, 6, none⟩ = some (.slice (some ⟨b, off, none⟩) rs.length rc) ∧ w'.cell? ⟨b, off + i * 2, none⟩ = some (.string rl) ∧ w'.cell? ⟨b, off + i * 2 + 1, none⟩ = some (.string rh) ∧ Below wI.heap.size wI w')
              ((refine (fun (hB : Below wI.heap.size wI _) => ⟨cell_later hB c0, cell_later hB c1, cell_later hB c2, cell_later hB c3, cell_later hB c4, cell_later hB c5, cell_later hB c6, cell_later hB d0, cell_later hB d1, hB⟩) ?_; (repeat (first | with_reducible exact Below.refl _ _ | with_reducible assumption | with_reducible refine Below.drew ?_ | with_reducible refine Below.al ?_ _ | with_reducible refine Below.setCell ?_ (by first | exact Nat.le_refl _ | (simp; omega) | (simp; done)) _ | with_reducible refine Below.on ?_ (by assumption)))))
              (first | (go_at_call 7; refine (((HA.out.on HI.out).on (by (repeat (first | with_reducible exact Below.refl _ _ | with_reducible assumption | with_reducible refine Below.drew ?_ | with_reducible refine Below.al ?_ _ | with_reducible refine Below.setCell ?_ (by first | exact Nat.le_refl _ | (simp; omega) | (simp; done)) _ | with_reducible refine Below.on ?_ (by assumption))))).twin).mono ?_; rintro e w2 ⟨a1, cp1, rfl, hok1, hb2⟩; have HOK := hid hok1; clear hok1) | (go_at_call 8; refine (HC2.out _ _ _ (HOK.out.later (by (repeat (first | with_reducible exact Below.refl _ _ | with_reducible assumption | with_reducible refine Below.drew ?_ | with_reducible refine Below.al ?_ _ | with_reducible refine Below.setCell ?_ (by first | exact Nat.le_refl _ | (simp; omega) | (simp; done)) _ | with_reducible refine Below.on ?_ (by assumption)))))).mono ?_; rintro e w4 ⟨a2, cp2, rfl, hrow, hb4⟩; have HROW := hid hrow; clear hrow))
            all_goals (try go_wp2_with fail)
            all_goals go_meet
            all_goals (exact ⟨_, _, rfl, HROW.out, by (repeat (first | with_reducible exact Below.refl _ _ | with_reducible assumption | with_reducible refine Below.drew ?_ | with_reducible refine Below.al ?_ _ | with_reducible refine Below.setCell ?_ (by first | exact Nat.le_refl _ | (simp; omega) | (simp; done)) _ | with_reducible refine Below.on ?_ (by assumption)))⟩)
          case rest =>
            obtain ⟨a4, c4', rfl, hrow, hbx⟩ := hcut
            have HX := hid (Below.on HI.out hbx)
            have HROW := hid hrow
            clear hbx hrow d0 d1 c0 c1 c2 c3 c4 c5 c6 c7 c8 HC2
            go_wp2_with fail
            go_loopg [5] N (fun g s5 wr => ∃ j : Nat, j ≤ N ∧ g = N - j ∧ s5 = .int .i64 j ∧ Hid (RowP wr a4 L ∧ Below W.heap.size W wr))
            case atStart => exact ⟨0, by omega, by omega, rfl, hid ⟨HROW.out, HX.out⟩⟩
            case round =>
              rename World => wJ
              obtain ⟨j, hj, rfl, rfl, HJ⟩ := hrel
              clear HX HROW
              by_cases hlj : j < N
              · obtain ⟨q, oq, rfl, e0, e1, e2⟩ := HJ.out.1 j (by rw [HL.out.2]; exact hlj)
                obtain ⟨hsz, hvo⟩ := cutL_at (ss := ss) (s := (rl, rh)) (i := j) (by rw [← HL.out.1, HL.out.2]; exact hlj)
                rw [← HL.out.1] at hsz hvo
                obtain ⟨P, hP⟩ : ∃ P, P = nthP L j := ⟨_, rfl⟩
                rw [← hP] at e0 e1 e2 hsz hvo
                obtain ⟨pn, plo, phi⟩ := P
                have HP := hid hP
                simp only at e0 e1 e2 hsz hvo
                have k0 := cell_regrown e0; have k1 := cell_regrown e1; have k2 := cell_regrown e2
                have hle : (Op.bytesLess phi.toList plo.toList || phi.toList == plo.toList) = !ltS plo phi := leq_less _ _
                clear hP
                by_cases hj0 : j ≤ 0
                · have hd0 : decide ((0 : Int) < (j : Int)) = false := decide_eq_false (by omega)
                  have hd1 : decide (0 < j) = false := decide_eq_false (by omega)
                  cases hem : emS phi
                  · have hem' : phi.toList.isEmpty = false := hem
                    have hlt2 : ltS plo phi = true := by simpa [void, hem] using hvo
                    rw [hlt2, Bool.not_true] at hle
                    go_wp2_with fail
                    refine wp_region_quiet_below (by kernel_rfl) (by kernel_rfl) ?_
                    repeat (go_big_quiet_step (fail))
                    refine wpQuiet_nil ?_
                    intro wq hq
                    replace hq := below_of_regrown hq
                    have HQ := hid (show RowP wq (some ⟨q, oq, none⟩) L ∧ Below W.heap.size W wq from ⟨HJ.out.1.later hq, Below.on HJ.out.2 hq⟩)
                    clear hq
                    go_wp2_with fail
                    go_roundg (N - (j + 1))
                    case measure => omega
                    case rel => exact ⟨j + 1, by omega, rfl, by go_num, HQ⟩
                  · have hem' : phi.toList.isEmpty = true := hem
                    go_wp2_with fail
                    refine wp_region_quiet_below (by kernel_rfl) (by kernel_rfl) ?_
                    repeat (go_big_quiet_step (fail))
                    refine wpQuiet_nil ?_
                    intro wq hq
                    replace hq := below_of_regrown hq
                    have HQ := hid (show RowP wq (some ⟨q, oq, none⟩) L ∧ Below W.heap.size W wq from ⟨HJ.out.1.later hq, Below.on HJ.out.2 hq⟩)
                    clear hq
                    go_wp2_with fail
                    go_roundg (N - (j + 1))
                    case measure => omega
                    case rel => exact ⟨j + 1, by omega, rfl, by go_num, HQ⟩
                · obtain ⟨j', rfl⟩ : ∃ j', j = j' + 1 := ⟨j - 1, by omega⟩
                  have hd0 : decide ((0 : Int) < (j' : Int) + 1) = true := decide_eq_true (by omega)
                  obtain ⟨q', oq', eq', e3, -, -⟩ := HJ.out.1 j' (by rw [HL.out.2]; omega)
                  injection eq' with eq'; injection eq' with eq1 eq2
                  subst eq1 eq2
                  have hrise := cutL_rise (ss := ss) (s := (rl, rh)) (i := j') (by rw [← HL.out.1, HL.out.2]; exact hlj)
                  rw [← HL.out.1, ← HP.out] at hrise
                  obtain ⟨pm, hpm⟩ : ∃ pm, pm = (nthP L j').1 := ⟨_, rfl⟩
                  rw [← hpm] at e3 hrise
                  simp only at hrise
                  have hd2 : decide ((pn : Int) ≤ (pm : Int)) = false := decide_eq_false (by omega)
                  have hd3 : decide (pn ≤ pm) = false := decide_eq_false (by omega)
                  have k3 := cell_regrown e3
                  clear hpm
                  cases hem : emS phi
                  · have hem' : phi.toList.isEmpty = false := hem
                    have hlt2 : ltS plo phi = true := by simpa [void, hem] using hvo
                    rw [hlt2, Bool.not_true] at hle
                    go_wp2_with fail
                    refine wp_region_quiet_below (by kernel_rfl) (by kernel_rfl) ?_
                    repeat (go_big_quiet_step (fail))
                    refine wpQuiet_nil ?_
                    intro wq hq
                    replace hq := below_of_regrown hq
                    have HQ := hid (show RowP wq (some ⟨q, oq, none⟩) L ∧ Below W.heap.size W wq from ⟨HJ.out.1.later hq, Below.on HJ.out.2 hq⟩)
                    clear hq
                    go_wp2_with fail
                    go_roundg (N - ((j' + 1) + 1))
                    case measure => omega
                    case rel => exact ⟨(j' + 1) + 1, by omega, rfl, by go_num, HQ⟩
                  · have hem' : phi.toList.isEmpty = true := hem
                    go_wp2_with fail
                    refine wp_region_quiet_below (by kernel_rfl) (by kernel_rfl) ?_
                    repeat (go_big_quiet_step (fail))
                    refine wpQuiet_nil ?_
                    intro wq hq
                    replace hq := below_of_regrown hq
                    have HQ := hid (show RowP wq (some ⟨q, oq, none⟩) L ∧ Below W.heap.size W wq from ⟨HJ.out.1.later hq, Below.on HJ.out.2 hq⟩)
                    clear hq
                    go_wp2_with fail
                    go_roundg (N - ((j' + 1) + 1))
                    case measure => omega
                    case rel => exact ⟨(j' + 1) + 1, by omega, rfl, by go_num, HQ⟩
              · obtain rfl : N = j := by omega
                go_wp2_with fail
                go_loopg [6] ks.length (fun g s6 wr => ∃ m : Nat, m ≤ ks.length ∧ g = ks.length - m ∧ s6 = .int .i64 m ∧ Hid (RowP wr a4 L ∧ Below W.heap.size W wr))
                case atStart => exact ⟨0, by omega, by omega, rfl, HJ⟩
                case round =>
                  rename World => wM
                  obtain ⟨m, hm, rfl, rfl, HM⟩ := hrel
                  clear HJ
                  obtain ⟨c0, c1, c2, c3, c4, c5, c6, c7, c8⟩ := HA.out.box.later HM.out.2
                  by_cases hlm : m < ks.length
                  · obtain ⟨kb, ko, rfl, -⟩ := (HA.out.ok.k.later HM.out.2) m hlm
                    obtain ⟨z, hz⟩ : ∃ z, z = nthS ks m := ⟨_, rfl⟩
                    have HZ := hid hz
                    clear hz
                    go_wp2_with fail
                    clear c0 c1 c2 c3 c4 c5 c6 c7 c8
                    go_loopg [7, 8] N (fun g s7 s8 wr => ∃ j : Nat, j ≤ N ∧ g = N - j ∧ s8 = .int .i64 j ∧ s7 = .int .i64 (cntP z (L.take j) : Int) ∧ Hid (RowP wr a4 L ∧ Below W.heap.size W wr))
                    case atStart => exact ⟨0, by omega, by omega, rfl, rfl, HM⟩
                    case round =>
                      rename World => wT
                      obtain ⟨j, hj2, rfl, rfl, rfl, HT⟩ := hrel
                      clear HM
                      obtain ⟨c0, c1, c2, c3, c4, c5, c6, c7, c8⟩ := HA.out.box.later HT.out.2
                      obtain ⟨kb', ko', ek', f0⟩ := (HA.out.ok.k.later HT.out.2) m hlm
                      injection ek' with ek'; injection ek' with ek1 ek2
                      subst ek1 ek2
                      simp only at f0 c8 c0 c1 c2 c3 c4 c5 c6
                      rw [← HZ.out] at f0
                      have hcl : cntP z (L.take j) ≤ 6 := by have := cntP_le z (L.take j); rw [List.length_take] at this; omega
                      by_cases hlj2 : j < N
                      · obtain ⟨q, oq, rfl, e0, e1, e2⟩ := HT.out.1 j (by rw [HL.out.2]; exact hlj2)
                        obtain ⟨P, hP⟩ : ∃ P, P = nthP L j := ⟨_, rfl⟩
                        obtain ⟨u, hu⟩ : ∃ u, u = insB z P.2 := ⟨_, rfl⟩
                        obtain ⟨cn, hcn⟩ : ∃ cn, cn = cntP z (L.take j) := ⟨_, rfl⟩
                        have HCN : Hid (cntP z (L.take (j + 1)) = cn + if u then 1 else 0) := hid (by rw [cntP_take (by rw [HL.out.2]; exact hlj2), ← hP, ← hu, hcn])
                        have HPI : Hid (u = (decide (ownN ss z = P.1) && insB z (rl, rh))) := hid (by
                          rw [hu]
                          have hmem : P ∈ cutL ss (rl, rh) := by rw [hP, ← HL.out.1]; exact nthP_mem (by rw [HL.out.2]; exact hlj2)
                          exact part_in HR.out hmem)
                        rw [← hP] at e0 e1 e2
                        rw [← hcn] at hcl
                        rw [← hcn]
                        obtain ⟨pn, plo, phi⟩ := P
                        simp only at e0 e1 e2
                        have HIN : Hid (∀ w, Calls Tryd.prog 10 #[.string z, .agg #[.string plo, .string phi]] w fun e w' => e = .returned (.bool u) ∧ Below w.heap.size w w') := hid (fun w => in_is hu.symm w)
                        clear hP hu hcn
                        have k0 := cell_regrown e0; have k1 := cell_regrown e1; have k2 := cell_regrown e2; have k8 := cell_regrown c8; have kf := cell_regrown f0
                        go_wp2_with fail
                        refine wp_region_quiet_below (by kernel_rfl) (by kernel_rfl) ?_
                        repeat (go_big_quiet_step ((go_at_call 10; exact Calls.regrown_of (HIN.out _))))
                        refine wpQuiet_nil ?_
                        intro wq hq
                        replace hq := below_of_regrown hq
                        have HQ := hid (show RowP wq (some ⟨q, oq, none⟩) L ∧ Below W.heap.size W wq from ⟨HT.out.1.later hq, Below.on HT.out.2 hq⟩)
                        have e0 := cell_later hq e0; have c0 := cell_later hq c0; have c1 := cell_later hq c1; have c2 := cell_later hq c2; have c3 := cell_later hq c3; have c4 := cell_later hq c4; have c5 := cell_later hq c5; have c8 := cell_later hq c8; have f0 := cell_later hq f0
                        clear hq k0 k1 k2 k8 kf HIN
                        cases u
                        · go_wp2_with fail
                          go_roundg (N - (j + 1))
                          case measure => omega
                          case rel => exact ⟨j + 1, by omega, rfl, by go_num, by rw [HCN.out]; rfl, HQ⟩
                        · have hpn : ownN ss z = pn := by have := HPI.out; simp at this; exact this.1
                          have HPN := hid hpn
                          clear hpn
                          go_wp2_with fail
                          have HQ2 := hid HQ.out.2
                          go_cut [144] (fun s wx => s = .bool false ∧ Below wq.heap.size wq wx)
                          case first =>
                            go_region_held3 (fun w' => w'.cell? ⟨p, 0, none⟩ = some (.int .i64 sh) ∧ w'.cell? ⟨p, 1, none⟩ = some (.int .i64 cl) ∧ w'.cell? ⟨p, 2, none⟩ = some (.slice a ss.length cp) ∧ w'.cell? ⟨p, 3, none⟩ = some (.int .i64 ca) ∧ w'.cell? ⟨p, 4, none⟩ = some (.int .i64 pk) ∧ w'.cell? ⟨p, 5, none⟩ = some (.int .u64 wi) ∧ w'.cell? ⟨p, 8, none⟩ = some (.slice (some ⟨kb, ko, none⟩) ks.length kc) ∧ w'.cell? ⟨kb, ko + m, none⟩ = some (.string z) ∧ w'.cell? ⟨q, oq + j * 3, none⟩ = some (.int .u32 (pn : Int)) ∧ Below wq.heap.size wq w')
                              ((refine (fun (hB : Below wq.heap.size wq _) => ⟨cell_later hB c0, cell_later hB c1, cell_later hB c2, cell_later hB c3, cell_later hB c4, cell_later hB c5, cell_later hB c8, cell_later hB f0, cell_later hB e0, hB⟩) ?_; (repeat (first | with_reducible exact Below.refl _ _ | with_reducible assumption | with_reducible refine Below.drew ?_ | with_reducible refine Below.al ?_ _ | with_reducible refine Below.setCell ?_ (by first | exact Nat.le_refl _ | (simp; omega) | (simp; done)) _ | with_reducible refine Below.on ?_ (by assumption)))))
                              (first | (go_at_call 7; refine (((HA.out.on HQ2.out).on (by (repeat (first | with_reducible exact Below.refl _ _ | with_reducible assumption | with_reducible refine Below.drew ?_ | with_reducible refine Below.al ?_ _ | with_reducible refine Below.setCell ?_ (by first | exact Nat.le_refl _ | (simp; omega) | (simp; done)) _ | with_reducible refine Below.on ?_ (by assumption))))).twin).mono ?_; rintro e w2 ⟨a1, cp1, rfl, hok1, hb2⟩; have HOK := hid hok1; clear hok1) | (go_at_call 6; refine (HO.out _ _ _ (HOK.out.later (by (repeat (first | with_reducible exact Below.refl _ _ | with_reducible assumption | with_reducible refine Below.drew ?_ | with_reducible refine Below.al ?_ _ | with_reducible refine Below.setCell ?_ (by first | exact Nat.le_refl _ | (simp; omega) | (simp; done)) _ | with_reducible refine Below.on ?_ (by assumption))))) _).mono ?_; rintro e w4 ⟨rfl, hb4⟩))
                            all_goals (try go_wp2_with fail)
                            all_goals go_meet
                            all_goals (refine ⟨by rw [HPN.out]; simp, by (repeat (first | with_reducible exact Below.refl _ _ | with_reducible assumption | with_reducible refine Below.drew ?_ | with_reducible refine Below.al ?_ _ | with_reducible refine Below.setCell ?_ (by first | exact Nat.le_refl _ | (simp; omega) | (simp; done)) _ | with_reducible refine Below.on ?_ (by assumption)))⟩)
                          case rest =>
                            obtain ⟨rfl, hbx⟩ := hcut
                            have HQ3 := hid (show RowP _ (some ⟨q, oq, none⟩) L ∧ Below W.heap.size W _ from ⟨HQ.out.1.later hbx, Below.on HQ.out.2 hbx⟩)
                            clear hbx
                            go_wp2_with fail
                            go_roundg (N - (j + 1))
                            case measure => omega
                            case rel => exact ⟨j + 1, by omega, rfl, by go_num, by rw [HCN.out]; go_num, HQ3⟩
                      · obtain rfl : N = j := by omega
                        obtain ⟨b', off', e', d0, d1⟩ := (HA.out.ok.r.later HT.out.2) i hli
                        injection e' with e'; injection e' with e1 e2
                        subst e1 e2
                        simp only at d0 d1
                        rw [← HRD.out] at d0 d1
                        simp only at d0 d1
                        have HCT : Hid (cntP z (L.take N) = if insB z (rl, rh) then 1 else 0) := hid (by rw [List.take_of_length_le (by rw [HL.out.2]; exact Nat.le_refl _), HL.out.1]; exact cut_one HR.out _ _)
                        have k6 := cell_regrown c6; have k8 := cell_regrown c8; have kf := cell_regrown f0; have k0 := cell_regrown d0; have k1 := cell_regrown d1
                        clear hcl
                        cases hur : insB z (rl, rh)
                        · have HIN := hid (fun w => in_is (k := z) (s := (rl, rh)) hur w)
                          rw [HCT.out, hur]
                          simp only [Bool.false_eq_true, if_false, Int.ofNat_zero]
                          go_wp2_with fail
                          refine wp_region_quiet_below (by kernel_rfl) (by kernel_rfl) ?_
                          repeat (go_big_quiet_step ((go_at_call 10; exact Calls.regrown_of (HIN.out _))))
                          refine wpQuiet_nil ?_
                          intro wq hq
                          replace hq := below_of_regrown hq
                          have HQ := hid (show RowP wq a4 L ∧ Below W.heap.size W wq from ⟨HT.out.1.later hq, Below.on HT.out.2 hq⟩)
                          clear hq
                          go_wp2_with fail
                          go_roundg (ks.length - (m + 1))
                          case measure => omega
                          case rel => exact ⟨m + 1, by omega, rfl, by go_num, HQ⟩
                        · have HIN := hid (fun w => in_is (k := z) (s := (rl, rh)) hur w)
                          rw [HCT.out, hur]
                          simp only [if_true, Int.ofNat_one]
                          go_wp2_with fail
                          refine wp_region_quiet_below (by kernel_rfl) (by kernel_rfl) ?_
                          repeat (go_big_quiet_step ((go_at_call 10; exact Calls.regrown_of (HIN.out _))))
                          refine wpQuiet_nil ?_
                          intro wq hq
                          replace hq := below_of_regrown hq
                          have HQ := hid (show RowP wq a4 L ∧ Below W.heap.size W wq from ⟨HT.out.1.later hq, Below.on HT.out.2 hq⟩)
                          clear hq
                          go_wp2_with fail
                          go_roundg (ks.length - (m + 1))
                          case measure => omega
                          case rel => exact ⟨m + 1, by omega, rfl, by go_num, HQ⟩
                  · obtain rfl : m = ks.length := by omega
                    go_wp2_with fail
                    go_roundg (rs.length - (i + 1))
                    case measure => omega
                    case rel => exact ⟨i + 1, by omega, rfl, by go_num, hid HM.out.2⟩
        · obtain rfl : i = rs.length := by omega
          go_wp2_with fail
          go_ret
          exact ⟨rfl, Below.on HBW.out HI.out⟩

end Go.Proofs.YtcghbjdmncggaaaDoor.Rt
