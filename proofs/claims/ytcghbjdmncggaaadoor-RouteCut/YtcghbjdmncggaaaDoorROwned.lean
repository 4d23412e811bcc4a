import Derived.Test.YtcghbjdmncggaaaDoorRAsk
/- owned: the walk. -/
namespace Go.Proofs.YtcghbjdmncggaaaDoor.Rt
open Go.RowKit Go.Sort
set_option linter.unusedVariables false

theorem wrap5_fin : ∀ k : Fin 5, ((k.val : Int) + 1 != IntKind.u32.wrap (IntKind.i64.wrap ((k.val : Int) + 1))) = false := by decide
theorem wrap5 {k : Nat} (h : k < 5) : ((k : Int) + 1 != IntKind.u32.wrap (IntKind.i64.wrap ((k : Int) + 1))) = false := wrap5_fin ⟨k, h⟩

set_option maxHeartbeats 4000000 in
set_option maxRecDepth 100000 in
theorem owned_is {x : Ak} {w : World} (h : x.Ok w) (hv : x.c.okB = true) (ht : PowTab w) :
    Calls Tryd.prog 9 #[x.val] w fun e w' => e = .returned (.bool true) ∧ Below w.heap.size w w' := by
  obtain ⟨⟨sh, cl, a, cp, ss, ca, pk, wi⟩, ra, rc, rs, wa, wc, ws, ka, kc, ks⟩ := x
  obtain ⟨W, hW⟩ : ∃ W, W = w.alloc (.cells (Ak.mk (Cf.mk sh cl a cp ss ca pk wi) ra rc rs wa wc ws ka kc ks).cells 29) := ⟨_, rfl⟩
  have hbW : Below w.heap.size w W := by rw [hW]; exact Below.al (Below.refl _ _) _
  obtain ⟨p, hp⟩ : ∃ p, p = w.heap.size := ⟨_, rfl⟩
  have HA : Hid (At W W p (Ak.mk (Cf.mk sh cl a cp ss ca pk wi) ra rc rs wa wc ws ka kc ks)) := hid ⟨by rw [hW, hp]; exact BoxA.new w (Ak.mk (Cf.mk sh cl a cp ss ca pk wi) ra rc rs wa wc ws ka kc ks) _, h.later hbW, ht.later hbW, Below.refl _ _⟩
  have HBW := hid hbW
  obtain ⟨hl5, hsh, hri⟩ := ok_len hv
  have HV := hid hv; have HS := hid hsh; have HR := hid hri
  have hkl := h.kl
  simp only at hkl hl5
  clear h ht hbW hv hsh hri
  go_enter Tryd.func9, Tryd.ntmps9
  go_wp2_with fail
  rw [← hp, ← hW]
  clear hp hW
  go_loopg [3] ss.length (fun g s3 wr => ∃ k : Nat, k ≤ ss.length ∧ g = ss.length - k ∧ s3 = .int .i64 k ∧ Hid (Below W.heap.size W wr))
  case atStart => exact ⟨0, by omega, by omega, rfl, hid (Below.refl _ _)⟩
  case round =>
    obtain ⟨k, hk, rfl, rfl, HK⟩ := hrel
    obtain ⟨c0, c1, c2, c3, c4, c5, c6, c7, c8⟩ := HA.out.box.later HK.out
    by_cases hlt : k < ss.length
    · obtain ⟨b, off, rfl, d0⟩ := (HA.out.ok.c.row.later HK.out) k hlt
      have HO : Hid (Cf.own (Cf.mk sh cl (some ⟨b, off, none⟩) cp ss ca pk wi) (nthS ss k) = k + 1) := hid (by rw [Cf.own, HV.out]; exact own_split HR.out hlt)
      obtain ⟨y, hy⟩ : ∃ y, y = nthS ss k := ⟨_, rfl⟩
      rw [← hy] at d0 HO
      clear hy
      have HO2 : Hid (∀ a1 cp1 W', (Cf.at (Cf.mk sh cl (some ⟨b, off, none⟩) cp ss ca pk wi) a1 cp1).Ok W' → Calls Tryd.prog 6 #[(Cf.at (Cf.mk sh cl (some ⟨b, off, none⟩) cp ss ca pk wi) a1 cp1).val, .string y] W' fun e w' => e = .returned (.int .u32 ((k : Int) + 1)) ∧ Below W'.heap.size W' w') := hid (fun a1 cp1 W' ho => by
        have := Owner_is ho y
        rw [show (Cf.at (Cf.mk sh cl (some ⟨b, off, none⟩) cp ss ca pk wi) a1 cp1).own y = k + 1 from HO.out] at this
        exact this)
      go_wp2_with fail
      go_cut [30] (fun s30 wx => s30 = .bool false ∧ Below wr.heap.size wr wx)
      case first =>
        go_region_held3 (fun w' => w'.cell? ⟨p, 0, none⟩ = some (.int .i64 sh) ∧ w'.cell? ⟨p, 1, none⟩ = some (.int .i64 cl) ∧ w'.cell? ⟨p, 2, none⟩ = some (.slice (some ⟨b, off, none⟩) ss.length cp) ∧ w'.cell? ⟨p, 3, none⟩ = some (.int .i64 ca) ∧ w'.cell? ⟨p, 4, none⟩ = some (.int .i64 pk) ∧ w'.cell? ⟨p, 5, none⟩ = some (.int .u64 wi) ∧ w'.cell? ⟨b, off + k, none⟩ = some (.string y) ∧ Below wr.heap.size wr w')
          ((refine (fun (hB : Below wr.heap.size wr _) => ⟨cell_later hB c0, cell_later hB c1, cell_later hB c2, cell_later hB c3, cell_later hB c4, cell_later hB c5, cell_later hB d0, hB⟩) ?_; (repeat (first | with_reducible exact Below.refl _ _ | with_reducible assumption | with_reducible refine Below.drew ?_ | with_reducible refine Below.al ?_ _ | with_reducible refine Below.setCell ?_ (by first | exact Nat.le_refl _ | (simp; omega) | (simp; done)) _ | with_reducible refine Below.on ?_ (by assumption)))))
          (first | (go_at_call 7; refine (((HA.out.on HK.out).on (by (repeat (first | with_reducible exact Below.refl _ _ | with_reducible assumption | with_reducible refine Below.drew ?_ | with_reducible refine Below.al ?_ _ | with_reducible refine Below.setCell ?_ (by first | exact Nat.le_refl _ | (simp; omega) | (simp; done)) _ | with_reducible refine Below.on ?_ (by assumption))))).twin).mono ?_; rintro e w1 ⟨a1, cp1, rfl, hok1, hb1⟩; have HOK := hid hok1; clear hok1) | (go_at_call 6; refine (HO2.out _ _ _ (HOK.out.later (by (repeat (first | with_reducible exact Below.refl _ _ | with_reducible assumption | with_reducible refine Below.drew ?_ | with_reducible refine Below.al ?_ _ | with_reducible refine Below.setCell ?_ (by first | exact Nat.le_refl _ | (simp; omega) | (simp; done)) _ | with_reducible refine Below.on ?_ (by assumption)))))).mono ?_; rintro e w2 ⟨rfl, hb2⟩))
        all_goals (try go_wp2_with fail)
        all_goals go_meet
        all_goals (exact ⟨by rw [wrap5 (by omega)], by (repeat (first | with_reducible exact Below.refl _ _ | with_reducible assumption | with_reducible refine Below.drew ?_ | with_reducible refine Below.al ?_ _ | with_reducible refine Below.setCell ?_ (by first | exact Nat.le_refl _ | (simp; omega) | (simp; done)) _ | with_reducible refine Below.on ?_ (by assumption)))⟩)
      case rest =>
        obtain ⟨rfl, hbx⟩ := hcut
        have HX := hid (Below.on HK.out hbx)
        clear hbx c0 c1 c2 c3 c4 c5 c6 c7 c8
        go_wp2_with fail
        go_roundg (ss.length - (k + 1))
        case measure => omega
        case rel => exact ⟨k + 1, by omega, rfl, by go_num, HX⟩
    · obtain rfl : k = ss.length := by omega
      go_wp2_with fail
      refine (HA.out.on HK.out).twin.mono ?_
      rintro e w1 ⟨a1, cp1, rfl, hok1, hb1⟩
      have HOK := hid hok1
      have HB1 := hid (Below.on HK.out hb1)
      have HO : Hid (∀ a1 cp1 W', (Cf.at (Cf.mk sh cl a cp ss ca pk wi) a1 cp1).Ok W' → ∀ y, Calls Tryd.prog 6 #[(Cf.at (Cf.mk sh cl a cp ss ca pk wi) a1 cp1).val, .string y] W' fun e w' => e = .returned (.int .u32 (ownN ss y : Int)) ∧ Below W'.heap.size W' w') := hid (fun a1 cp1 W' ho y => by
        have := Owner_is ho y
        rw [show (Cf.at (Cf.mk sh cl a cp ss ca pk wi) a1 cp1).own y = ownN ss y by rw [Cf.own]; exact if_pos HV.out] at this
        exact this)
      clear hok1 hb1 c0 c1 c2 c3 c4 c5 c6 c7 c8
      go_wp2_with fail
      refine (HO.out _ _ _ HOK.out _).mono ?_
      rintro e w2 ⟨rfl, hb2⟩
      have HB2 := hid (Below.on HB1.out hb2)
      clear hb2
      have hon : ownN ss ⟨#[]⟩ = 0 := own_nil HR.out
      rw [hon]
      go_wp2_with fail
      clear hon HOK HB1 HK
      go_loopg [4] ks.length (fun g s4 wr => ∃ i : Nat, i ≤ ks.length ∧ g = ks.length - i ∧ s4 = .int .i64 i ∧ Hid (Below W.heap.size W wr))
      case atStart => exact ⟨0, by omega, by omega, rfl, HB2⟩
      case round =>
        rename World => wI
        obtain ⟨i, hi, rfl, rfl, HI⟩ := hrel
        clear HB2
        obtain ⟨c0, c1, c2, c3, c4, c5, c6, c7, c8⟩ := HA.out.box.later HI.out
        by_cases hli : i < ks.length
        · obtain ⟨b, off, rfl, d0⟩ := (HA.out.ok.k.later HI.out) i hli
          obtain ⟨y, hy⟩ : ∃ y, y = nthS ks i := ⟨_, rfl⟩
          obtain ⟨n, hn⟩ : ∃ n, n = ownN ss y := ⟨_, rfl⟩
          rw [← hy] at d0
          have HY : Hid (y = nthS ks i ∧ ownN ss y = n) := hid ⟨hy, hn.symm⟩
          have hnl : n ≤ ss.length := by rw [hn]; exact own_le _ _
          clear hy hn
          go_wp2_with fail
          go_cut [5] (fun s wx => s = .int .u32 (n : Int) ∧ Below wI.heap.size wI wx)
          case first =>
            go_region_held3 (fun w' => w'.cell? ⟨p, 0, none⟩ = some (.int .i64 sh) ∧ w'.cell? ⟨p, 1, none⟩ = some (.int .i64 cl) ∧ w'.cell? ⟨p, 2, none⟩ = some (.slice a ss.length cp) ∧ w'.cell? ⟨p, 3, none⟩ = some (.int .i64 ca) ∧ w'.cell? ⟨p, 4, none⟩ = some (.int .i64 pk) ∧ w'.cell? ⟨p, 5, none⟩ = some (.int .u64 wi) ∧ w'.cell? ⟨p, 8, none⟩ = some (.slice (some ⟨b, off, none⟩) ks.length kc) ∧ w'.cell? ⟨b, off + i, none⟩ = some (.string y) ∧ Below wI.heap.size wI w')
              ((refine (fun (hB : Below wI.heap.size wI _) => ⟨cell_later hB c0, cell_later hB c1, cell_later hB c2, cell_later hB c3, cell_later hB c4, cell_later hB c5, cell_later hB c8, cell_later hB d0, hB⟩) ?_; (repeat (first | with_reducible exact Below.refl _ _ | with_reducible assumption | with_reducible refine Below.drew ?_ | with_reducible refine Below.al ?_ _ | with_reducible refine Below.setCell ?_ (by first | exact Nat.le_refl _ | (simp; omega) | (simp; done)) _ | with_reducible refine Below.on ?_ (by assumption)))))
              (first | (go_at_call 7; refine (((HA.out.on HI.out).on (by (repeat (first | with_reducible exact Below.refl _ _ | with_reducible assumption | with_reducible refine Below.drew ?_ | with_reducible refine Below.al ?_ _ | with_reducible refine Below.setCell ?_ (by first | exact Nat.le_refl _ | (simp; omega) | (simp; done)) _ | with_reducible refine Below.on ?_ (by assumption))))).twin).mono ?_; rintro e w1 ⟨a1, cp1, rfl, hok1, hb1⟩; have HOK := hid hok1; clear hok1) | (go_at_call 6; refine (HO.out _ _ _ (HOK.out.later (by (repeat (first | with_reducible exact Below.refl _ _ | with_reducible assumption | with_reducible refine Below.drew ?_ | with_reducible refine Below.al ?_ _ | with_reducible refine Below.setCell ?_ (by first | exact Nat.le_refl _ | (simp; omega) | (simp; done)) _ | with_reducible refine Below.on ?_ (by assumption))))) _).mono ?_; rintro e w2 ⟨rfl, hb2⟩))
            all_goals (try go_wp2_with fail)
            all_goals go_meet
            all_goals (exact ⟨by rw [HY.out.2], by (repeat (first | with_reducible exact Below.refl _ _ | with_reducible assumption | with_reducible refine Below.drew ?_ | with_reducible refine Below.al ?_ _ | with_reducible refine Below.setCell ?_ (by first | exact Nat.le_refl _ | (simp; omega) | (simp; done)) _ | with_reducible refine Below.on ?_ (by assumption)))⟩)
          case rest =>
            obtain ⟨rfl, hbx⟩ := hcut
            have HX := hid (Below.on HI.out hbx)
            obtain ⟨c0, c1, c2, c3, c4, c5, c6, c7, c8⟩ := HA.out.box.later HX.out
            have hns : (n : Int) < sh := by have := HS.out; omega
            clear hbx d0
            go_wp2_with fail
            clear c0 c1 c2 c3 c4 c5 c6 c7 c8
            go_loopg [6] ks.length (fun g s6 wr => ∃ j : Nat, j ≤ ks.length ∧ g = ks.length - j ∧ s6 = .int .i64 j ∧ Hid (Below W.heap.size W wr))
            case atStart => exact ⟨0, by omega, by omega, rfl, HX⟩
            case round =>
              rename World => wJ
              obtain ⟨j, hj, rfl, rfl, HJ⟩ := hrel
              clear HX
              obtain ⟨c0, c1, c2, c3, c4, c5, c6, c7, c8⟩ := HA.out.box.later HJ.out
              by_cases hlj : j < ks.length
              · obtain ⟨b', off', e', d1⟩ := (HA.out.ok.k.later HJ.out) j hlj
                injection e' with e'; injection e' with e1 e2
                subst e1 e2
                obtain ⟨z, hz⟩ : ∃ z, z = nthS ks j := ⟨_, rfl⟩
                obtain ⟨m, hm⟩ : ∃ m, m = ownN ss z := ⟨_, rfl⟩
                simp only at d1
                rw [← hz] at d1
                have HZ : Hid (z = nthS ks j ∧ ownN ss z = m) := hid ⟨hz, hm.symm⟩
                have hml : m ≤ ss.length := by rw [hm]; exact own_le _ _
                clear hz hm
                go_wp2_with fail
                go_cut [7] (fun s wx => s = .int .u32 (m : Int) ∧ Below wJ.heap.size wJ wx)
                case first =>
                  go_region_held3 (fun w' => w'.cell? ⟨p, 0, none⟩ = some (.int .i64 sh) ∧ w'.cell? ⟨p, 1, none⟩ = some (.int .i64 cl) ∧ w'.cell? ⟨p, 2, none⟩ = some (.slice a ss.length cp) ∧ w'.cell? ⟨p, 3, none⟩ = some (.int .i64 ca) ∧ w'.cell? ⟨p, 4, none⟩ = some (.int .i64 pk) ∧ w'.cell? ⟨p, 5, none⟩ = some (.int .u64 wi) ∧ w'.cell? ⟨p, 8, none⟩ = some (.slice (some ⟨b, off, none⟩) ks.length kc) ∧ w'.cell? ⟨b, off + j, none⟩ = some (.string z) ∧ Below wJ.heap.size wJ w')
                    ((refine (fun (hB : Below wJ.heap.size wJ _) => ⟨cell_later hB c0, cell_later hB c1, cell_later hB c2, cell_later hB c3, cell_later hB c4, cell_later hB c5, cell_later hB c8, cell_later hB d1, hB⟩) ?_; (repeat (first | with_reducible exact Below.refl _ _ | with_reducible assumption | with_reducible refine Below.drew ?_ | with_reducible refine Below.al ?_ _ | with_reducible refine Below.setCell ?_ (by first | exact Nat.le_refl _ | (simp; omega) | (simp; done)) _ | with_reducible refine Below.on ?_ (by assumption)))))
                    (first | (go_at_call 7; refine (((HA.out.on HJ.out).on (by (repeat (first | with_reducible exact Below.refl _ _ | with_reducible assumption | with_reducible refine Below.drew ?_ | with_reducible refine Below.al ?_ _ | with_reducible refine Below.setCell ?_ (by first | exact Nat.le_refl _ | (simp; omega) | (simp; done)) _ | with_reducible refine Below.on ?_ (by assumption))))).twin).mono ?_; rintro e w1 ⟨a1, cp1, rfl, hok1, hb1⟩; have HOK := hid hok1; clear hok1) | (go_at_call 6; refine (HO.out _ _ _ (HOK.out.later (by (repeat (first | with_reducible exact Below.refl _ _ | with_reducible assumption | with_reducible refine Below.drew ?_ | with_reducible refine Below.al ?_ _ | with_reducible refine Below.setCell ?_ (by first | exact Nat.le_refl _ | (simp; omega) | (simp; done)) _ | with_reducible refine Below.on ?_ (by assumption))))) _).mono ?_; rintro e w2 ⟨rfl, hb2⟩))
                  all_goals (try go_wp2_with fail)
                  all_goals go_meet
                  all_goals (exact ⟨by rw [HZ.out.2], by (repeat (first | with_reducible exact Below.refl _ _ | with_reducible assumption | with_reducible refine Below.drew ?_ | with_reducible refine Below.al ?_ _ | with_reducible refine Below.setCell ?_ (by first | exact Nat.le_refl _ | (simp; omega) | (simp; done)) _ | with_reducible refine Below.on ?_ (by assumption)))⟩)
                case rest =>
                  obtain ⟨rfl, hbx⟩ := hcut
                  have HX := hid (Below.on HJ.out hbx)
                  clear hbx d1 c0 c1 c2 c3 c4 c5 c6 c7 c8
                  have g8 := (HA.out.box.later HX.out).c8
                  obtain ⟨b1, off1, e1, g0⟩ := (HA.out.ok.k.later HX.out) i hli
                  injection e1 with e1; injection e1 with e1 e2
                  subst e1 e2
                  obtain ⟨b1, off1, e1, g1⟩ := (HA.out.ok.k.later HX.out) j hlj
                  injection e1 with e1; injection e1 with e1 e2
                  subst e1 e2
                  simp only at g0 g1 g8
                  rw [← HY.out.1] at g0
                  rw [← HZ.out.1] at g1
                  have k8 := cell_regrown g8; have k0 := cell_regrown g0; have k1 := cell_regrown g1
                  have hle : (Op.bytesLess y.toList z.toList || y.toList == z.toList) = !ltS z y := leq_less _ _
                  cases hzy : ltS z y
                  · rw [hzy, Bool.not_false] at hle
                    have hnm : n ≤ m := by have := own_mono HR.out hzy; rw [HY.out.2, HZ.out.2] at this; exact this
                    have hd : decide ((m : Int) < (n : Int)) = false := decide_eq_false (by omega)
                    have hd2 : decide (m < n) = false := decide_eq_false (by omega)
                    go_wp2_with fail
                    refine wp_region_quiet_below (by kernel_rfl) (by kernel_rfl) ?_
                    repeat (go_big_quiet_step (fail))
                    refine wpQuiet_nil ?_
                    intro wq hq
                    replace hq := below_of_regrown hq
                    have HQ := hid (Below.on HX.out hq)
                    clear hq k8 k0 k1 g8 g0 g1 HX
                    go_wp2_with fail
                    go_roundg (ks.length - (j + 1))
                    case measure => omega
                    case rel => exact ⟨j + 1, by omega, rfl, by go_num, HQ⟩
                  · rw [hzy, Bool.not_true] at hle
                    go_wp2_with fail
                    refine wp_region_quiet_below (by kernel_rfl) (by kernel_rfl) ?_
                    repeat (go_big_quiet_step (fail))
                    refine wpQuiet_nil ?_
                    intro wq hq
                    replace hq := below_of_regrown hq
                    have HQ := hid (Below.on HX.out hq)
                    clear hq k8 k0 k1 g8 g0 g1 HX
                    go_wp2_with fail
                    go_roundg (ks.length - (j + 1))
                    case measure => omega
                    case rel => exact ⟨j + 1, by omega, rfl, by go_num, HQ⟩
              · obtain rfl : j = ks.length := by omega
                go_wp2_with fail
                clear c0 c1 c2 c3 c4 c5 c6 c7 c8
                go_loopg [8] ss.length (fun g s8 wr => ∃ t : Nat, t ≤ ss.length ∧ g = ss.length - t ∧ s8 = .int .i64 t ∧ Hid (Below W.heap.size W wr))
                case atStart => exact ⟨0, by omega, by omega, rfl, HJ⟩
                case round =>
                  rename World => wT
                  obtain ⟨t, ht, rfl, rfl, HT⟩ := hrel
                  clear HJ
                  obtain ⟨c0, c1, c2, c3, c4, c5, c6, c7, c8⟩ := HA.out.box.later HT.out
                  by_cases hlt2 : t < ss.length
                  · obtain ⟨b2, off2, rfl, g0⟩ := (HA.out.ok.c.row.later HT.out) t hlt2
                    obtain ⟨b1, off1, e1, g1⟩ := (HA.out.ok.k.later HT.out) i hli
                    injection e1 with e1; injection e1 with e1 e2
                    subst e1 e2
                    simp only at g0 g1
                    obtain ⟨v, hv⟩ : ∃ v, v = nthS ss t := ⟨_, rfl⟩
                    rw [← hv] at g0
                    rw [← HY.out.1] at g1
                    have hle : (Op.bytesLess v.toList y.toList || v.toList == y.toList) = !ltS y v := leq_less _ _
                    have hiff := own_is HR.out y hlt2
                    rw [← hv, HY.out.2] at hiff
                    have k8 := cell_regrown c8; have k2 := cell_regrown c2; have k0 := cell_regrown g0; have k1 := cell_regrown g1
                    clear hv c0 c1 c3 c4 c5 c6 c7
                    cases hyv : ltS y v
                    · rw [hyv, Bool.not_false] at hle
                      have hd : decide ((t : Int) < (n : Int)) = true := decide_eq_true (by have := hiff.1 hyv; omega)
                      have hd2 : decide (t < n) = true := decide_eq_true (hiff.1 hyv)
                      clear hiff
                      go_wp2_with fail
                      refine wp_region_quiet_below (by kernel_rfl) (by kernel_rfl) ?_
                      repeat (go_big_quiet_step (fail))
                      refine wpQuiet_nil ?_
                      intro wq hq
                      replace hq := below_of_regrown hq
                      have HQ := hid (Below.on HT.out hq)
                      clear hq k8 k2 k0 k1 g0 g1 c2 c8
                      go_wp2_with fail
                      go_roundg (ss.length - (t + 1))
                      case measure => omega
                      case rel => exact ⟨t + 1, by omega, rfl, by go_num, HQ⟩
                    · rw [hyv, Bool.not_true] at hle
                      have hnt : ¬ t < n := fun h => by rw [hiff.2 h] at hyv; cases hyv
                      have hd : decide ((t : Int) < (n : Int)) = false := decide_eq_false (by omega)
                      have hd2 : decide (t < n) = false := decide_eq_false hnt
                      clear hiff
                      go_wp2_with fail
                      refine wp_region_quiet_below (by kernel_rfl) (by kernel_rfl) ?_
                      repeat (go_big_quiet_step (fail))
                      refine wpQuiet_nil ?_
                      intro wq hq
                      replace hq := below_of_regrown hq
                      have HQ := hid (Below.on HT.out hq)
                      clear hq k8 k2 k0 k1 g0 g1 c2 c8
                      go_wp2_with fail
                      go_roundg (ss.length - (t + 1))
                      case measure => omega
                      case rel => exact ⟨t + 1, by omega, rfl, by go_num, HQ⟩
                  · obtain rfl : t = ss.length := by omega
                    go_wp2_with fail
                    go_roundg (ks.length - (i + 1))
                    case measure => omega
                    case rel => exact ⟨i + 1, by omega, rfl, by go_num, HT⟩
        · obtain rfl : i = ks.length := by omega
          go_wp2_with fail
          go_ret
          exact ⟨rfl, Below.on HBW.out HI.out⟩

end Go.Proofs.YtcghbjdmncggaaaDoor.Rt
