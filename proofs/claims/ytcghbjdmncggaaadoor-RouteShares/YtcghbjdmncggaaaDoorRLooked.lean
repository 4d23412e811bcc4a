import Derived.Test.YtcghbjdmncggaaaDoorRSharesW
/- looked: the walk. -/
namespace Go.Proofs.YtcghbjdmncggaaaDoor.Rt
open Go.RowKit Go.Sort
set_option linter.unusedVariables false

theorem cnt2_le (k : ByteArray) (l : List T2) : cnt2 k l ≤ l.length := List.length_filter_le _ _
theorem cnt2_step {k : ByteArray} {l : List T2} {j : Nat} (h : j < l.length) : cnt2 k (l.take (j + 1)) = cnt2 k (l.take j) + if insB k (nth2 l j) then 1 else 0 := by rw [nth2_take h, cnt2_snoc]
theorem cnt2_take_le (k : ByteArray) (l : List T2) (j : Nat) : cnt2 k (l.take j) ≤ cnt2 k l := ((List.take_sublist j l).filter _).length_le
theorem sh_take {l : List Sh} {i : Nat} (h : i < l.length) : l.take (i + 1) = l.take i ++ [nthSh l i] := by
  rw [List.take_succ_eq_append_getElem h]; simp [nthSh, h]
theorem got_step {k : ByteArray} {l : List Sh} {i : Nat} (h : i < l.length) : got k (l.take (i + 1)) = got k (l.take i) + cnt2 k (nthSh l i).2.1 := by rw [sh_take h, got_snoc]
theorem got_take_le (k : ByteArray) (l : List Sh) (i : Nat) : got k (l.take i) ≤ got k l := by
  conv => rhs; rw [← List.take_append_drop i l]
  rw [got, got, List.map_append, List.sum_append]
  omega
theorem sh_mem {l : List Sh} {i : Nat} (h : i < l.length) : nthSh l i ∈ l := by simp [nthSh, h]
theorem mem2 {l : List T2} {i : Nat} (h : i < l.length) : nth2 l i ∈ l := by
  have : nth2 l i = l[i] := by simp [nth2, h]
  rw [this]; exact List.getElem_mem h

set_option maxHeartbeats 4000000 in
set_option maxRecDepth 100000 in
theorem looked_is {x : Ak} {w : World} (h : x.Ok w) (hv : x.c.okB = true) (ht : PowTab w) {sa : Option Addr} {sc : Nat} (hrs : x.rs.length ≤ 4398046511104) (hs : RowSh w sa (shareL x.c.ss x.rs x.ws)) :
    Calls Tryd.prog 16 #[x.val, .slice sa (shareL x.c.ss x.rs x.ws).length sc] w fun e w' => e = .returned (.bool true) ∧ Below w.heap.size w w' := by
  obtain ⟨⟨sh, cl, a, cp, ss, ca, pk, wi⟩, ra, rc, rs, wa, wc, ws, ka, kc, ks⟩ := x
  simp only at hrs hs
  obtain ⟨W, hW⟩ : ∃ W, W = w.alloc (.cells (Ak.mk (Cf.mk sh cl a cp ss ca pk wi) ra rc rs wa wc ws ka kc ks).cells 29) := ⟨_, rfl⟩
  have hbW : Below w.heap.size w W := by rw [hW]; exact Below.al (Below.refl _ _) _
  obtain ⟨p, hp⟩ : ∃ p, p = w.heap.size := ⟨_, rfl⟩
  have HA : Hid (At W W p (Ak.mk (Cf.mk sh cl a cp ss ca pk wi) ra rc rs wa wc ws ka kc ks)) := hid ⟨by rw [hW, hp]; exact BoxA.new w (Ak.mk (Cf.mk sh cl a cp ss ca pk wi) ra rc rs wa wc ws ka kc ks) _, h.later hbW, ht.later hbW, Below.refl _ _⟩
  have HBW := hid hbW
  obtain ⟨hl5, hsh, hri⟩ := ok_len hv
  have HV := hid hv; have HS := hid hsh; have HR := hid hri
  have hkl := h.kl
  simp only at hkl hl5
  obtain ⟨S, hS⟩ : ∃ S, S = shareL ss rs ws := ⟨_, rfl⟩
  have HRS := hid (hs.later hbW)
  rw [← hS] at HRS
  simp only
  rw [← hS]
  obtain ⟨nS, hnS⟩ : ∃ n, n = S.length := ⟨_, rfl⟩
  have hS6 : nS ≤ 6 := by rw [hnS, hS]; have := share_len ss rs ws (ss.length + 1); simp only [shareL]; omega
  rw [← hnS]
  have HNS : Hid (S.length = nS) := hid hnS.symm
  have HSL := hid hS
  have HO : Hid (∀ a1 cp1 W', (Cf.at (Cf.mk sh cl a cp ss ca pk wi) a1 cp1).Ok W' → ∀ y, Calls Tryd.prog 6 #[(Cf.at (Cf.mk sh cl a cp ss ca pk wi) a1 cp1).val, .string y] W' fun e w' => e = .returned (.int .u32 (ownN ss y : Int)) ∧ Below W'.heap.size W' w') := hid (fun a1 cp1 W' ho y => by
    have := Owner_is ho y
    rw [show (Cf.at (Cf.mk sh cl a cp ss ca pk wi) a1 cp1).own y = ownN ss y by rw [Cf.own]; exact if_pos HV.out] at this
    exact this)
  clear h ht hbW hv hsh hri hs hS hnS
  go_enter Tryd.func16, Tryd.ntmps16
  go_wp2_with fail
  rw [← hp, ← hW]
  clear hp hW
  go_loopg [5] ks.length (fun g s5 wr => ∃ k : Nat, k ≤ ks.length ∧ g = ks.length - k ∧ s5 = .int .i64 k ∧ Hid (Below W.heap.size W wr))
  case atStart => exact ⟨0, by omega, by omega, rfl, hid (Below.refl _ _)⟩
  case round =>
    rename World => wA
    obtain ⟨k, hk, rfl, rfl, HK⟩ := hrel
    obtain ⟨c0, c1, c2, c3, c4, c5, c6, c7, c8⟩ := HA.out.box.later HK.out
    by_cases hlk : k < ks.length
    · obtain ⟨kb, koff, rfl, d0⟩ := (HA.out.ok.k.later HK.out) k hlk
      obtain ⟨y, hy⟩ : ∃ y, y = nthS ks k := ⟨_, rfl⟩
      simp only at d0
      rw [← hy] at d0
      clear hy
      go_wp2_with fail
      clear c0 c1 c2 c3 c4 c5 c6 c7 c8 d0
      go_loopg [7, 8] rs.length (fun g s7 s8 wr => ∃ j : Nat, j ≤ rs.length ∧ g = rs.length - j ∧ s8 = .int .i64 j ∧ s7 = .int .i64 (cnt2 y (rs.take j) : Nat) ∧ Hid (Below W.heap.size W wr))
      case atStart => exact ⟨0, by omega, by omega, rfl, rfl, HK⟩
      case round =>
        rename World => wB
        obtain ⟨j, hj, rfl, rfl, rfl, HJ⟩ := hrel
        obtain ⟨c0, c1, c2, c3, c4, c5, c6, c7, c8⟩ := HA.out.box.later HJ.out
        obtain ⟨m, hm⟩ : ∃ m, m = cnt2 y (rs.take j) := ⟨_, rfl⟩
        have hmj : m ≤ j := by rw [hm]; have := cnt2_le y (rs.take j); rw [List.length_take] at this; omega
        rw [← hm]
        by_cases hlj : j < rs.length
        · obtain ⟨b, off, rfl, e0, e1⟩ := (HA.out.ok.r.later HJ.out) j hlj
          obtain ⟨r, hr⟩ : ∃ r, r = nth2 rs j := ⟨_, rfl⟩
          simp only at e0 e1
          rw [← hr] at e0 e1
          have hst := cnt2_step (k := y) hlj
          rw [← hm, ← hr] at hst
          obtain ⟨rl, rh⟩ := r
          obtain ⟨u, hu⟩ : ∃ u, u = insB y (rl, rh) := ⟨_, rfl⟩
          have HIN := hid (fun w => in_is hu.symm w)
          rw [← hu] at hst
          have HST := hid hst
          simp only at e0 e1 HIN
          clear hm hr hst hu
          cases u
          · go_wp2_with (go_at_call 10; refine (HIN.out _).mono ?_; rintro e w1 ⟨rfl, hb1⟩)
            go_roundg (rs.length - (j + 1))
            case measure => omega
            case rel => exact ⟨j + 1, by omega, rfl, by go_num, by rw [HST.out]; simp, hid (Below.on HJ.out hb1)⟩
          · go_wp2_with (go_at_call 10; refine (HIN.out _).mono ?_; rintro e w1 ⟨rfl, hb1⟩)
            go_roundg (rs.length - (j + 1))
            case measure => omega
            case rel => exact ⟨j + 1, by omega, rfl, by go_num, by rw [HST.out]; go_num, hid (Below.on HJ.out hb1)⟩
        · obtain rfl : j = rs.length := by omega
          rw [List.take_length] at hm
          have HM := hid hm
          clear hm c0 c1 c3 c4 c5 c7 c8 c2
          have hgS : got y S = m := by rw [HSL.out, got_all HR.out, ← HM.out]
          have hmr : m ≤ 4398046511104 := by rw [HM.out]; exact Nat.le_trans (cnt2_le y rs) hrs
          have HGS := hid hgS
          clear hgS
          go_wp2_with fail
          clear c6
          go_loopg [9, 10] nS (fun g s9 s10 wr => ∃ i : Nat, i ≤ nS ∧ g = nS - i ∧ s10 = .int .i64 i ∧ s9 = .int .i64 (got y (S.take i) : Nat) ∧ Hid (Below W.heap.size W wr))
          case atStart => exact ⟨0, by omega, by omega, rfl, rfl, HJ⟩
          case round =>
            rename World => wC
            obtain ⟨i, hi, rfl, rfl, rfl, HI⟩ := hrel
            obtain ⟨G0, hG0⟩ : ∃ G0, G0 = got y (S.take i) := ⟨_, rfl⟩
            rw [← hG0]
            by_cases hli : i < nS
            · obtain ⟨b, off, qa, qc, va, vc, e, Q0, Q1, Q2, hrow, -⟩ := HRS.out i (by rw [HNS.out]; exact hli)
              obtain ⟨P, hP⟩ : ∃ P, P = nthSh S i := ⟨_, rfl⟩
              have hst := got_step (k := y) (l := S) (i := i) (by rw [HNS.out]; exact hli)
              have hgle := got_take_le y S (i + 1)
              rw [HGS.out] at hgle
              rw [← hG0, ← hP] at hst
              rw [hst] at hgle
              have hmem : P ∈ shareN ss rs ws (ss.length + 1) := by rw [hP]; have := sh_mem (l := S) (i := i) (by rw [HNS.out]; exact hli); rw [HSL.out] at this ⊢; exact this
              obtain ⟨hp1, hp2, _, _⟩ := share_mem hmem
              rw [← hP] at Q0 Q1 Q2 hrow
              obtain ⟨pn, R, V⟩ := P
              simp only at Q0 Q1 Q2 hrow hst hgle hp1 hp2
              obtain ⟨nr, hnr⟩ : ∃ nr, nr = R.length := ⟨_, rfl⟩
              rw [← hnr] at Q1
              subst e
              have HQ0 := hid Q0
              have HQ1 := hid Q1
              have HROW := hid hrow
              have HNR : Hid (R.length = nr) := hid hnr.symm
              have HSTP := hid hst
              have hc2 := cnt2_le y R
              rw [← hnr] at hc2
              have HPN : Hid (∀ s ∈ R, insB y s = true → ownN ss y = pn) := hid (fun s hs hu => by rw [hp2] at hs; exact reads_in HR.out (by omega) y hs hu)
              have hnrl : nr ≤ 4398046511104 := by rw [hnr, hp2]; exact Nat.le_trans (reads_le ss rs pn) hrs
              have hi1 : (i : Int) < (nS : Int) := by omega
              clear Q0 Q1 Q2 hrow hst hP hmem hp1 hp2 hnr hG0
              have q1 := cell_later HI.out HQ1.out
              go_wp2_with fail
              clear q1
              go_loopg [9, 11] nr (fun g s9 s11 wr => ∃ j : Nat, j ≤ nr ∧ g = nr - j ∧ s11 = .int .i64 j ∧ s9 = .int .i64 ((G0 + cnt2 y (R.take j) : Nat) : Int) ∧ Hid (Below W.heap.size W wr))
              case atStart => exact ⟨0, by omega, by omega, rfl, by simp [cnt2], HI⟩
              case round =>
                rename World => wD
                obtain ⟨j, hj, rfl, rfl, rfl, HD⟩ := hrel
                obtain ⟨m2, hm2⟩ : ∃ m2, m2 = G0 + cnt2 y (R.take j) := ⟨_, rfl⟩
                have hm2l : m2 ≤ m := by rw [hm2]; have := cnt2_take_le y R j; omega
                rw [← hm2]
                have q1 := cell_later HD.out HQ1.out
                by_cases hlj : j < nr
                · obtain ⟨b2, off2, rfl, e0, e1⟩ := (HROW.out.later HD.out) j (by rw [HNR.out]; exact hlj)
                  obtain ⟨r, hr⟩ : ∃ r, r = nth2 R j := ⟨_, rfl⟩
                  rw [← hr] at e0 e1
                  have hst := cnt2_step (k := y) (l := R) (j := j) (by rw [HNR.out]; exact hlj)
                  rw [← hr] at hst
                  have hmr2 : r ∈ R := by rw [hr]; exact mem2 (by rw [HNR.out]; exact hlj)
                  have hon := HPN.out r hmr2
                  obtain ⟨rl, rh⟩ := r
                  obtain ⟨u, hu⟩ : ∃ u, u = insB y (rl, rh) := ⟨_, rfl⟩
                  have HIN := hid (fun w => in_is hu.symm w)
                  rw [← hu] at hst hon
                  have HST : Hid (G0 + cnt2 y (R.take (j + 1)) = m2 + if u then 1 else 0) := hid (by rw [hst, hm2]; omega)
                  have hj1 : (j : Int) < (nr : Int) := by omega
                  simp only at e0 e1 HIN
                  clear hm2 hr hst hu hmr2
                  cases u
                  · go_wp2_with (go_at_call 10; refine (HIN.out _).mono ?_; rintro e w1 ⟨rfl, hb1⟩)
                    go_roundg (nr - (j + 1))
                    case measure => omega
                    case rel => exact ⟨j + 1, by omega, rfl, by go_num, by rw [HST.out]; simp, hid (Below.on HD.out hb1)⟩
                  · have hon := hon rfl
                    have HO2 : Hid (∀ a1 cp1 W', (Cf.at (Cf.mk sh cl a cp ss ca pk wi) a1 cp1).Ok W' → Calls Tryd.prog 6 #[(Cf.at (Cf.mk sh cl a cp ss ca pk wi) a1 cp1).val, .string y] W' fun e w' => e = .returned (.int .u32 (pn : Int)) ∧ Below W'.heap.size W' w') := hid (fun a1 cp1 W' ho => by have := HO.out a1 cp1 W' ho y; rw [hon] at this; exact this)
                    clear hon
                    go_wp2_with (go_at_call 10; refine (HIN.out _).mono ?_; rintro e w1 ⟨rfl, hb1⟩; have HX1 := hid (Below.on HD.out hb1); obtain ⟨c0, c1, c2, c3, c4, c5, c6, c7, c8⟩ := HA.out.box.later HX1.out; have q0 := cell_later HX1.out HQ0.out; clear hb1 e0 e1 q1)
                    go_cut [78] (fun s wx => s = .bool false ∧ Below w1.heap.size w1 wx)
                    case first =>
                      go_region_held3 (fun w' => w'.cell? ⟨p, 0, none⟩ = some (.int .i64 sh) ∧ w'.cell? ⟨p, 1, none⟩ = some (.int .i64 cl) ∧ w'.cell? ⟨p, 2, none⟩ = some (.slice a ss.length cp) ∧ w'.cell? ⟨p, 3, none⟩ = some (.int .i64 ca) ∧ w'.cell? ⟨p, 4, none⟩ = some (.int .i64 pk) ∧ w'.cell? ⟨p, 5, none⟩ = some (.int .u64 wi) ∧ w'.cell? ⟨b, off + i * 3, none⟩ = some (.int .u32 (pn : Int)) ∧ Below w1.heap.size w1 w')
                        ((refine (fun (hB : Below w1.heap.size w1 _) => ⟨cell_later hB c0, cell_later hB c1, cell_later hB c2, cell_later hB c3, cell_later hB c4, cell_later hB c5, cell_later hB q0, hB⟩) ?_; (repeat (first | with_reducible exact Below.refl _ _ | with_reducible assumption | with_reducible refine Below.drew ?_ | with_reducible refine Below.al ?_ _ | with_reducible refine Below.setCell ?_ (by first | exact Nat.le_refl _ | (simp; omega) | (simp; done)) _ | with_reducible refine Below.on ?_ (by assumption)))))
                        (first | (go_at_call 7; refine (((HA.out.on HX1.out).on (by (repeat (first | with_reducible exact Below.refl _ _ | with_reducible assumption | with_reducible refine Below.drew ?_ | with_reducible refine Below.al ?_ _ | with_reducible refine Below.setCell ?_ (by first | exact Nat.le_refl _ | (simp; omega) | (simp; done)) _ | with_reducible refine Below.on ?_ (by assumption))))).twin).mono ?_; rintro e w2 ⟨a1, cp1, rfl, hok1, hb2⟩; have HOK := hid hok1; clear hok1) | (go_at_call 6; refine (HO2.out _ _ _ (HOK.out.later (by (repeat (first | with_reducible exact Below.refl _ _ | with_reducible assumption | with_reducible refine Below.drew ?_ | with_reducible refine Below.al ?_ _ | with_reducible refine Below.setCell ?_ (by first | exact Nat.le_refl _ | (simp; omega) | (simp; done)) _ | with_reducible refine Below.on ?_ (by assumption)))))).mono ?_; rintro e w4 ⟨rfl, hb4⟩))
                      all_goals (try go_wp2_with fail)
                      all_goals go_meet
                      all_goals (exact ⟨by simp, by (repeat (first | with_reducible exact Below.refl _ _ | with_reducible assumption | with_reducible refine Below.drew ?_ | with_reducible refine Below.al ?_ _ | with_reducible refine Below.setCell ?_ (by first | exact Nat.le_refl _ | (simp; omega) | (simp; done)) _ | with_reducible refine Below.on ?_ (by assumption)))⟩)
                    case rest =>
                      obtain ⟨rfl, hbx⟩ := hcut
                      have HX := hid (Below.on HX1.out hbx)
                      clear hbx c0 c1 c2 c3 c4 c5 c6 c7 c8 q0
                      go_wp2_with fail
                      go_roundg (nr - (j + 1))
                      case measure => omega
                      case rel => exact ⟨j + 1, by omega, rfl, by go_num, by rw [HST.out]; go_num, HX⟩
                · obtain rfl : j = nr := by omega
                  have HE : Hid (m2 = got y (S.take (i + 1))) := hid (by rw [hm2, HSTP.out, ← HNR.out, List.take_length])
                  clear hm2
                  go_wp2_with fail
                  go_roundg (nS - (i + 1))
                  case measure => omega
                  case rel => exact ⟨i + 1, by omega, rfl, by go_num, by rw [HE.out], HD⟩
            · obtain rfl : i = nS := by omega
              have hG : G0 = m := by rw [hG0, ← HNS.out, List.take_length, HGS.out]
              subst hG
              clear hG0
              go_wp2_with fail
              go_roundg (ks.length - (k + 1))
              case measure => omega
              case rel => exact ⟨k + 1, by omega, rfl, by go_num, HI⟩
    · obtain rfl : k = ks.length := by omega
      have HF := hid (Below.on HBW.out HK.out)
      go_wp2_with fail
      go_ret
      exact ⟨rfl, HF.out⟩
end Go.Proofs.YtcghbjdmncggaaaDoor.Rt
