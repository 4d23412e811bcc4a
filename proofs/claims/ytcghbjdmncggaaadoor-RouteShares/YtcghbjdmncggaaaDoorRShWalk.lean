import Derived.Test.YtcghbjdmncggaaaDoorRSharesLaw
/- RouteShares: the walk. -/
namespace Go.Proofs.YtcghbjdmncggaaaDoor.Rt
open Go.RowKit Go.Sort
set_option linter.unusedVariables false

set_option maxHeartbeats 8000000 in
set_option maxRecDepth 100000 in
theorem law_shares {x : Ak} {w : World} (h : x.Ok w) (ht : PowTab w) (hrs : x.rs.length ≤ 4398046511104) (hws : x.ws.length ≤ 3518437208883) :
    Calls Tryd.prog 4 #[x.val] w fun e w' => e = .returned (.bool true) ∧ Below w.heap.size w w' := by
  obtain ⟨⟨sh, cl, a, cp, ss, ca, pk, wi⟩, ra, rc, rs, wa, wc, ws, ka, kc, ks⟩ := x
  simp only at hrs hws
  obtain ⟨W, hW⟩ : ∃ W, W = w.alloc (.cells (Ak.mk (Cf.mk sh cl a cp ss ca pk wi) ra rc rs wa wc ws ka kc ks).cells 29) := ⟨_, rfl⟩
  have hbW : Below w.heap.size w W := by rw [hW]; exact Below.al (Below.refl _ _) _
  obtain ⟨p, hp⟩ : ∃ p, p = w.heap.size := ⟨_, rfl⟩
  have HA : Hid (At W W p (Ak.mk (Cf.mk sh cl a cp ss ca pk wi) ra rc rs wa wc ws ka kc ks)) := hid ⟨by rw [hW, hp]; exact BoxA.new w (Ak.mk (Cf.mk sh cl a cp ss ca pk wi) ra rc rs wa wc ws ka kc ks) _, h.later hbW, ht.later hbW, Below.refl _ _⟩
  have HBW := hid hbW
  obtain ⟨c0, c1, c2, c3, c4, c5, c6, c7, c8⟩ := HA.out.box
  obtain ⟨u, hu⟩ : ∃ u, Cf.okB (Cf.mk sh cl a cp ss ca pk wi) = u := ⟨_, rfl⟩
  have HU := hid hu
  have HR2 : Hid (∀ W', Below W.heap.size W W' → Calls Tryd.prog 12 #[.slice ra rs.length rc] W' fun e w' => ∃ g, e = .returned (.slice (some ⟨g, 0, none⟩) rs.length (rs.length + 3)) ∧ Row2 w' (some ⟨g, 0, none⟩) rs ∧ Below W'.heap.size W' w') := hid (fun W' hb => room2_is (HA.out.ok.r.later hb) (by omega) (HA.out.tab.later hb))
  have HRW : Hid (∀ W', Below W.heap.size W W' → Calls Tryd.prog 13 #[.slice wa ws.length wc] W' fun e w' => ∃ g, e = .returned (.slice (some ⟨g, 0, none⟩) ws.length (ws.length + 3)) ∧ RowW w' (some ⟨g, 0, none⟩) ws ∧ Below W'.heap.size W' w') := hid (fun W' hb => roomW_is (HA.out.ok.wr.later hb) (by omega) (HA.out.tab.later hb))
  obtain ⟨nS, hnS⟩ : ∃ n, n = if u = true then (shareL ss rs ws).length else 0 := ⟨_, rfl⟩
  have HSH : Hid (∀ a1 cp1 g1 g2 W', (Cf.at (Cf.mk sh cl a cp ss ca pk wi) a1 cp1).Ok W' → Row2 W' (some ⟨g1, 0, none⟩) rs → RowW W' (some ⟨g2, 0, none⟩) ws → Calls Tryd.prog 11 #[(Cf.at (Cf.mk sh cl a cp ss ca pk wi) a1 cp1).val, .slice (some ⟨g1, 0, none⟩) rs.length (rs.length + 3), .slice (some ⟨g2, 0, none⟩) ws.length (ws.length + 3)] W' fun e w' => ∃ sa sc, e = .returned (.slice sa nS sc) ∧ Hid (u = true → RowSh w' sa (shareL ss rs ws)) ∧ Below W'.heap.size W' w') := hid (fun a1 cp1 g1 g2 W' ho h1 h2 => by
    have hu' : (Cf.at (Cf.mk sh cl a cp ss ca pk wi) a1 cp1).okB = u := hu
    cases u with
    | true =>
      rw [if_pos rfl] at hnS
      refine (Shares_is (rc := rs.length + 3) (wc := ws.length + 3) ho hu' h1 h2 hrs hws).mono ?_
      rintro e w' ⟨sa, sc, he, hr, hb⟩
      exact ⟨sa, sc, by rw [he, hnS], hid (fun _ => hr.out), hb⟩
    | false =>
      rw [if_neg (by decide)] at hnS
      refine (Shares_no (ra := some ⟨g1, 0, none⟩) (rn := rs.length) (rc := rs.length + 3) (wa := some ⟨g2, 0, none⟩) (wn := ws.length) (wc := ws.length + 3) ho hu').mono ?_
      rintro e w' ⟨he, hb⟩
      exact ⟨none, 0, by rw [he, hnS], hid (fun e => by cases e), hb⟩)
  obtain ⟨hm, hhm⟩ : ∃ hm, hm = (Cf.home (Cf.mk sh cl a cp ss ca pk wi) ws).1 := ⟨_, rfl⟩
  obtain ⟨an, han⟩ : ∃ an, an = (Cf.home (Cf.mk sh cl a cp ss ca pk wi) ws).2 := ⟨_, rfl⟩
  have HHM : Hid (∀ a1 cp1 g2 W', (Cf.at (Cf.mk sh cl a cp ss ca pk wi) a1 cp1).Ok W' → RowW W' (some ⟨g2, 0, none⟩) ws → Calls Tryd.prog 14 #[(Cf.at (Cf.mk sh cl a cp ss ca pk wi) a1 cp1).val, .slice (some ⟨g2, 0, none⟩) ws.length (ws.length + 3)] W' fun e w' => e = .returned (.tuple #[.int .u32 (hm : Int), .bool an]) ∧ Below W'.heap.size W' w') := hid (fun a1 cp1 g2 W' ho h2 => by
    refine (Home_is (cp := ws.length + 3) ho h2 (by omega) (by omega)).mono ?_
    rintro e w' ⟨he, hb⟩
    exact ⟨by rw [he, hhm, han]; rfl, hb⟩)
  have HHA : Hid (hm = (Cf.home (Cf.mk sh cl a cp ss ca pk wi) ws).1 ∧ an = (Cf.home (Cf.mk sh cl a cp ss ca pk wi) ws).2) := hid ⟨hhm, han⟩
  have HNS := hid hnS
  clear h ht hbW hu hhm han hnS
  go_enter Tryd.func4, Tryd.ntmps4
  go_wp2_with fail
  rw [← hp, ← hW]
  clear hp hW
  refine (fit_is HA.out.ok.c HU.out).mono ?_
  rintro e w1 ⟨rfl, hb1⟩
  have H1 := hid hb1
  clear hb1
  obtain ⟨c0, c1, c2, c3, c4, c5, c6, c7, c8⟩ := HA.out.box.later H1.out
  go_wp2_with fail
  go_cut [4] (fun s wx => ∃ sa sc, s = .slice sa nS sc ∧ Hid (u = true → RowSh wx sa (shareL ss rs ws)) ∧ Below w1.heap.size w1 wx)
  case first =>
    go_region_held3 (fun w' => w'.cell? ⟨p, 0, none⟩ = some (.int .i64 sh) ∧ w'.cell? ⟨p, 1, none⟩ = some (.int .i64 cl) ∧ w'.cell? ⟨p, 2, none⟩ = some (.slice a ss.length cp) ∧ w'.cell? ⟨p, 3, none⟩ = some (.int .i64 ca) ∧ w'.cell? ⟨p, 4, none⟩ = some (.int .i64 pk) ∧ w'.cell? ⟨p, 5, none⟩ = some (.int .u64 wi) ∧ w'.cell? ⟨p, 6, none⟩ = some (.slice ra rs.length rc) ∧ w'.cell? ⟨p, 7, none⟩ = some (.slice wa ws.length wc) ∧ Below w1.heap.size w1 w')
      ((refine (fun (hB : Below w1.heap.size w1 _) => ⟨cell_later hB c0, cell_later hB c1, cell_later hB c2, cell_later hB c3, cell_later hB c4, cell_later hB c5, cell_later hB c6, cell_later hB c7, hB⟩) ?_; (repeat (first | with_reducible exact Below.refl _ _ | with_reducible assumption | with_reducible refine Below.drew ?_ | with_reducible refine Below.al ?_ _ | with_reducible refine Below.setCell ?_ (by first | exact Nat.le_refl _ | (simp; omega) | (simp; done)) _ | with_reducible refine Below.on ?_ (by assumption)))))
      (first | (go_at_call 7; refine (((HA.out.on H1.out).on (by (repeat (first | with_reducible exact Below.refl _ _ | with_reducible assumption | with_reducible refine Below.drew ?_ | with_reducible refine Below.al ?_ _ | with_reducible refine Below.setCell ?_ (by first | exact Nat.le_refl _ | (simp; omega) | (simp; done)) _ | with_reducible refine Below.on ?_ (by assumption))))).twin).mono ?_; rintro e w2 ⟨a1, cp1, rfl, hok1, hb2⟩; have HOK := hid hok1; clear hok1) | (go_at_call 12; refine (HR2.out _ (Below.on H1.out (by (repeat (first | with_reducible exact Below.refl _ _ | with_reducible assumption | with_reducible refine Below.drew ?_ | with_reducible refine Below.al ?_ _ | with_reducible refine Below.setCell ?_ (by first | exact Nat.le_refl _ | (simp; omega) | (simp; done)) _ | with_reducible refine Below.on ?_ (by assumption)))))).mono ?_; rintro e w3 ⟨g1, rfl, hr1, hb3⟩; have HG1 := hid hr1; clear hr1) | (go_at_call 13; refine (HRW.out _ (Below.on H1.out (by (repeat (first | with_reducible exact Below.refl _ _ | with_reducible assumption | with_reducible refine Below.drew ?_ | with_reducible refine Below.al ?_ _ | with_reducible refine Below.setCell ?_ (by first | exact Nat.le_refl _ | (simp; omega) | (simp; done)) _ | with_reducible refine Below.on ?_ (by assumption)))))).mono ?_; rintro e w4 ⟨g2, rfl, hr2, hb4⟩; have HG2 := hid hr2; clear hr2) | (go_at_call 11; refine (HSH.out _ _ _ _ _ (HOK.out.later (by (repeat (first | with_reducible exact Below.refl _ _ | with_reducible assumption | with_reducible refine Below.drew ?_ | with_reducible refine Below.al ?_ _ | with_reducible refine Below.setCell ?_ (by first | exact Nat.le_refl _ | (simp; omega) | (simp; done)) _ | with_reducible refine Below.on ?_ (by assumption))))) (HG1.out.later (by (repeat (first | with_reducible exact Below.refl _ _ | with_reducible assumption | with_reducible refine Below.drew ?_ | with_reducible refine Below.al ?_ _ | with_reducible refine Below.setCell ?_ (by first | exact Nat.le_refl _ | (simp; omega) | (simp; done)) _ | with_reducible refine Below.on ?_ (by assumption))))) (HG2.out.later (by (repeat (first | with_reducible exact Below.refl _ _ | with_reducible assumption | with_reducible refine Below.drew ?_ | with_reducible refine Below.al ?_ _ | with_reducible refine Below.setCell ?_ (by first | exact Nat.le_refl _ | (simp; omega) | (simp; done)) _ | with_reducible refine Below.on ?_ (by assumption)))))).mono ?_; rintro e w5 ⟨sa, sc, rfl, hrow, hb5⟩))
    all_goals (try go_wp2_with fail)
    all_goals go_meet
    all_goals (exact ⟨_, _, rfl, hrow, by (repeat (first | with_reducible exact Below.refl _ _ | with_reducible assumption | with_reducible refine Below.drew ?_ | with_reducible refine Below.al ?_ _ | with_reducible refine Below.setCell ?_ (by first | exact Nat.le_refl _ | (simp; omega) | (simp; done)) _ | with_reducible refine Below.on ?_ (by assumption)))⟩)
  case rest =>
    obtain ⟨sa, sc, rfl, HROW, hbx⟩ := hcut
    rename World => w2
    have H2 := hid (Below.on H1.out hbx)
    clear hbx
    obtain ⟨c0, c1, c2, c3, c4, c5, c6, c7, c8⟩ := HA.out.box.later H2.out
    clear H1 HSH HR2
    go_wp2_with fail
    go_cut [5, 6] (fun s5 s6 wx => s5 = .int .u32 (hm : Int) ∧ s6 = .bool an ∧ Below w2.heap.size w2 wx)
    case first =>
      go_region_held3 (fun w' => w'.cell? ⟨p, 0, none⟩ = some (.int .i64 sh) ∧ w'.cell? ⟨p, 1, none⟩ = some (.int .i64 cl) ∧ w'.cell? ⟨p, 2, none⟩ = some (.slice a ss.length cp) ∧ w'.cell? ⟨p, 3, none⟩ = some (.int .i64 ca) ∧ w'.cell? ⟨p, 4, none⟩ = some (.int .i64 pk) ∧ w'.cell? ⟨p, 5, none⟩ = some (.int .u64 wi) ∧ w'.cell? ⟨p, 7, none⟩ = some (.slice wa ws.length wc) ∧ Below w2.heap.size w2 w')
        ((refine (fun (hB : Below w2.heap.size w2 _) => ⟨cell_later hB c0, cell_later hB c1, cell_later hB c2, cell_later hB c3, cell_later hB c4, cell_later hB c5, cell_later hB c7, hB⟩) ?_; (repeat (first | with_reducible exact Below.refl _ _ | with_reducible assumption | with_reducible refine Below.drew ?_ | with_reducible refine Below.al ?_ _ | with_reducible refine Below.setCell ?_ (by first | exact Nat.le_refl _ | (simp; omega) | (simp; done)) _ | with_reducible refine Below.on ?_ (by assumption)))))
        (first | (go_at_call 7; refine (((HA.out.on H2.out).on (by (repeat (first | with_reducible exact Below.refl _ _ | with_reducible assumption | with_reducible refine Below.drew ?_ | with_reducible refine Below.al ?_ _ | with_reducible refine Below.setCell ?_ (by first | exact Nat.le_refl _ | (simp; omega) | (simp; done)) _ | with_reducible refine Below.on ?_ (by assumption))))).twin).mono ?_; rintro e w3 ⟨a1, cp1, rfl, hok1, hb3⟩; have HOK := hid hok1; clear hok1) | (go_at_call 13; refine (HRW.out _ (Below.on H2.out (by (repeat (first | with_reducible exact Below.refl _ _ | with_reducible assumption | with_reducible refine Below.drew ?_ | with_reducible refine Below.al ?_ _ | with_reducible refine Below.setCell ?_ (by first | exact Nat.le_refl _ | (simp; omega) | (simp; done)) _ | with_reducible refine Below.on ?_ (by assumption)))))).mono ?_; rintro e w4 ⟨g2, rfl, hr2, hb4⟩; have HG2 := hid hr2; clear hr2) | (go_at_call 14; refine (HHM.out _ _ _ _ (HOK.out.later (by (repeat (first | with_reducible exact Below.refl _ _ | with_reducible assumption | with_reducible refine Below.drew ?_ | with_reducible refine Below.al ?_ _ | with_reducible refine Below.setCell ?_ (by first | exact Nat.le_refl _ | (simp; omega) | (simp; done)) _ | with_reducible refine Below.on ?_ (by assumption))))) (HG2.out.later (by (repeat (first | with_reducible exact Below.refl _ _ | with_reducible assumption | with_reducible refine Below.drew ?_ | with_reducible refine Below.al ?_ _ | with_reducible refine Below.setCell ?_ (by first | exact Nat.le_refl _ | (simp; omega) | (simp; done)) _ | with_reducible refine Below.on ?_ (by assumption)))))).mono ?_; rintro e w5 ⟨rfl, hb5⟩))
      all_goals (try go_wp2_with fail)
      all_goals go_meet
      all_goals (exact ⟨rfl, rfl, by (repeat (first | with_reducible exact Below.refl _ _ | with_reducible assumption | with_reducible refine Below.drew ?_ | with_reducible refine Below.al ?_ _ | with_reducible refine Below.setCell ?_ (by first | exact Nat.le_refl _ | (simp; omega) | (simp; done)) _ | with_reducible refine Below.on ?_ (by assumption)))⟩)
    case rest =>
      obtain ⟨rfl, rfl, hbx⟩ := hcut
      rename World => w3
      have H3 := hid (Below.on H2.out hbx)
      have HROW3 : Hid (u = true → RowSh w3 sa (shareL ss rs ws)) := hid (fun e => (HROW.out e).later hbx)
      clear hbx HROW H2 c0 c1 c2 c3 c4 c5 c6 c7 c8 HHM HRW
      cases u with
      | false =>
        obtain rfl : nS = 0 := by rw [HNS.out]; simp
        have ehm : hm = 0 := by rw [HHA.out.1, Cf.home, HU.out]; rfl
        have ean : an = false := by rw [HHA.out.2, Cf.home, HU.out]; rfl
        subst ehm ean
        go_wp2_with fail
        go_ret
        exact ⟨rfl, Below.on HBW.out H3.out⟩
      | true =>
        obtain ⟨hl5, hsh, hri⟩ := ok_len HU.out
        simp only at hl5 hsh hri
        have HS := hid hsh; have HR := hid hri
        clear hsh hri
        obtain ⟨S, hS⟩ : ∃ S, S = shareL ss rs ws := ⟨_, rfl⟩
        have HSL := hid hS
        have HRS : Hid (RowSh w3 sa S) := hid (by rw [hS]; exact HROW3.out rfl)
        have HNL : Hid (S.length = nS) := hid (by rw [HNS.out, if_pos rfl, hS])
        have hS6 : nS ≤ 6 := by rw [← HNL.out, hS]; have := share_len ss rs ws (ss.length + 1); simp only [shareL]; omega
        have HHM2 : Hid (an = decide (0 < ws.length) ∧ (an = true → hm = homeK ss ws (ws.length - 1)) ∧ (an = false → hm = 0)) := hid (by
          by_cases h0 : 0 < ws.length
          · have e : Cf.home (Cf.mk sh cl a cp ss ca pk wi) ws = (homeK ss ws (ws.length - 1), true) := by rw [Cf.home, HU.out]; simp [h0]
            rw [HHA.out.1, HHA.out.2, e]; simp [h0]
          · have e : Cf.home (Cf.mk sh cl a cp ss ca pk wi) ws = (0, false) := by rw [Cf.home, HU.out]; simp [h0]
            rw [HHA.out.1, HHA.out.2, e]; simp [h0])
        have HO : Hid (∀ a1 cp1 W', (Cf.at (Cf.mk sh cl a cp ss ca pk wi) a1 cp1).Ok W' → ∀ y, Calls Tryd.prog 6 #[(Cf.at (Cf.mk sh cl a cp ss ca pk wi) a1 cp1).val, .string y] W' fun e w' => e = .returned (.int .u32 (ownN ss y : Int)) ∧ Below W'.heap.size W' w') := hid (fun a1 cp1 W' ho y => by
          have := Owner_is ho y
          rw [show (Cf.at (Cf.mk sh cl a cp ss ca pk wi) a1 cp1).own y = ownN ss y by rw [Cf.own]; exact if_pos HU.out] at this
          exact this)
        have c7 := (HA.out.box.later H3.out).c7
        simp only at c7
        clear hS HROW3 HHA HNS
        go_upto_region 6 with fail
        go_cut [62] (fun s wx => s = .bool false ∧ w3 = wx)
        case first =>
          cases an with
          | true =>
            have h0 : 0 < ws.length := by simpa using HHM2.out.1
            have hd1 : decide (0 < (ws.length : Int)) = true := decide_eq_true (by omega)
            have hd2 : decide (0 < ws.length) = true := decide_eq_true (by omega)
            clear h0
            go_wp2_with fail
            go_meet
            exact ⟨rfl, rfl⟩
          | false =>
            have h0 : ¬ 0 < ws.length := by have := HHM2.out.1; simpa using this
            have hd1 : decide (0 < (ws.length : Int)) = false := decide_eq_false (by omega)
            have hd2 : decide (0 < ws.length) = false := decide_eq_false (by omega)
            obtain rfl : hm = 0 := HHM2.out.2.2 rfl
            clear h0
            go_wp2_with fail
            go_meet
            exact ⟨rfl, rfl⟩
        case rest =>
          obtain ⟨rfl, rfl⟩ := hcut
          clear c7
          have HLK : Hid (∀ W', Below w3.heap.size w3 W' → Calls Tryd.prog 16 #[.agg #[.int .i64 sh, .int .i64 cl, .slice a ss.length cp, .int .i64 ca, .int .i64 pk, .int .u64 wi, .slice ra rs.length rc, .slice wa ws.length wc, .slice ka ks.length kc], .slice sa nS sc] W' fun e w' => e = .returned (.bool true) ∧ Below W'.heap.size W' w') := hid (fun W' hb => by
            have hb' := Below.on H3.out hb
            have e : nS = (shareL ss rs ws).length := by rw [← HNL.out, HSL.out]
            rw [e]
            exact looked_is (x := Ak.mk (Cf.mk sh cl a cp ss ca pk wi) ra rc rs wa wc ws ka kc ks) (HA.out.ok.later hb') HU.out (HA.out.tab.later hb') hrs (by have := HRS.out.later hb; rw [HSL.out] at this; exact this))
          have HSUM : Hid (sumW S = ws.length) := hid (by rw [HSL.out]; exact sum_all ss rs ws)
          go_wp2_with fail
          go_loopg [7, 8, 9] nS (fun g s7 s8 s9 wr => ∃ i : Nat, i ≤ nS ∧ g = nS - i ∧ s9 = .int .i64 i ∧ s8 = .int .i64 (sumW (S.take i) : Nat) ∧ ∃ fb, s7 = .bool fb ∧ Hid (fb = decide (sumW (S.take i) = 0)) ∧ Hid (Below w3.heap.size w3 wr))
          case atStart => exact ⟨0, by omega, by omega, rfl, rfl, true, rfl, hid (by simp [sumW]), hid (Below.refl _ _)⟩
          case round =>
            rename World => wA
            obtain ⟨i, hi, rfl, rfl, rfl, fb, rfl, HFB, HI⟩ := hrel
            obtain ⟨m, hm'⟩ : ∃ m, m = sumW (S.take i) := ⟨_, rfl⟩
            rw [← hm'] at HFB ⊢
            have hmw : m ≤ ws.length := by rw [hm', ← HSUM.out]; exact sumW_take_le S i
            have HWA := hid (Below.on H3.out HI.out)
            by_cases hli : i < nS
            · obtain ⟨b, off, qa, qc, va, vc, e, Q0, Q1, Q2, -, hrowW⟩ := HRS.out i (by rw [HNL.out]; exact hli)
              obtain ⟨P, hP⟩ : ∃ P, P = nthSh S i := ⟨_, rfl⟩
              have hst := sumW_step (l := S) (i := i) (by rw [HNL.out]; exact hli)
              have hgle := sumW_take_le S (i + 1)
              rw [HSUM.out] at hgle
              rw [← hm', ← hP] at hst
              rw [hst] at hgle
              have hmem : P ∈ shareN ss rs ws (ss.length + 1) := by rw [hP]; have := sh_mem (l := S) (i := i) (by rw [HNL.out]; exact hli); rw [HSL.out] at this ⊢; exact this
              obtain ⟨hp1, hp2, hp3, hp4⟩ := share_mem hmem
              have HFH : Hid (m = 0 → P.2.2 ≠ [] → P.1 = homeK ss ws (ws.length - 1) ∧ 0 < ws.length) := hid (fun h0 hne => by
                have := first_home (ss := ss) (rs := rs) (ws := ws) (i := i) (by rw [← HSL.out, HNL.out]; exact hli) (by rw [← HSL.out, ← hm']; exact h0) (by rw [← HSL.out, ← hP]; exact hne)
                rw [← HSL.out, ← hP] at this
                exact this)
              rw [← hP] at Q0 Q1 Q2 hrowW
              obtain ⟨pn, R, V⟩ := P
              simp only at Q0 Q1 Q2 hrowW hst hgle hp1 hp2 hp3 hp4 HFH
              have hnrl : R.length ≤ 4398046511104 := by rw [hp2]; exact Nat.le_trans (reads_le ss rs pn) hrs
              obtain ⟨nr, hnr⟩ : ∃ nr, nr = R.length := ⟨_, rfl⟩
              obtain ⟨nv, hnv⟩ : ∃ nv, nv = V.length := ⟨_, rfl⟩
              rw [← hnr] at Q1 hnrl hp4
              rw [← hnv] at Q2 hst hgle hp4
              subst e
              have HQ0 := hid Q0
              have HV := hid hrowW
              have HNV : Hid (V.length = nv ∧ V = writesL ss ws pn) := hid ⟨hnv.symm, hp3⟩
              have HSTP := hid hst
              have hi1 : (i : Int) < (nS : Int) := by omega
              have hsh2 : (pn : Int) < sh := by have := HS.out; omega
              have hd5 : decide (sh ≤ (pn : Int)) = false := decide_eq_false (by omega)
              have hcv : IntKind.i64.wrap (pn : Int) = (pn : Int) := by rw [IntKind.wrap_i64]; omega
              have hw1 : IntKind.i64.wrap ((nr : Int) + (nv : Int)) = (nr : Int) + (nv : Int) := by rw [IntKind.wrap_i64]; omega
              have hs0 : ((nr : Int) + (nv : Int) == 0) = false := by rw [beq_eq_false_iff_ne]; omega
              have hw2 : IntKind.i64.wrap ((m : Int) + (nv : Int)) = (m : Int) + (nv : Int) := by rw [IntKind.wrap_i64]; omega
              have HPR : Hid (∀ i', i = i' + 1 → ∃ pm, pm < pn ∧ w3.cell? ⟨b, off + i' * 3, none⟩ = some (.int .u32 (pm : Int))) := hid (fun i' e => by
                obtain ⟨b', off', _, _, _, _, e', q0, -, -, -, -⟩ := HRS.out i' (by rw [HNL.out]; omega)
                injection e' with e'; injection e' with eq1 eq2
                subst eq1 eq2
                refine ⟨(nthSh S i').1, ?_, q0⟩
                have := sh_rise (ss := ss) (rs := rs) (ws := ws) (i := i') (by rw [← HSL.out, HNL.out]; omega)
                rw [← HSL.out, ← e, ← hP] at this
                exact this)
              have q0 := cell_later HI.out Q0
              have q1 := cell_later HI.out Q1
              have q2 := cell_later HI.out Q2
              obtain ⟨wB, hwB⟩ : ∃ wB, wB = wA.alloc (.cells #[.int .u32 (pn : Int), .slice qa nr qc, .slice va nv vc] 49) := ⟨_, rfl⟩
              have hbB : Below wA.heap.size wA wB := by rw [hwB]; exact Below.al (Below.refl _ _) _
              obtain ⟨x0, x1, x2⟩ := newT wA (.int .u32 (pn : Int)) (.slice qa nr qc) (.slice va nv vc) 49
              rw [← hwB] at x0 x1 x2
              have HBB := hid hbB
              have HX0 : Hid (wB.cell? ⟨wA.heap.size, 0, none⟩ = some (.int .u32 (pn : Int)) ∧ wB.cell? ⟨wA.heap.size, 2, none⟩ = some (.slice va nv vc)) := hid ⟨x0, x2⟩
              have c0 := (HA.out.box.later (Below.on HWA.out hbB)).c0
              simp only at c0
              clear Q0 Q1 Q2 hrowW hst hP hmem hp1 hp2 hp3 hnr hnv hm' hbB hsh2
              go_upto_region 14 with fail
              rw [← hwB]
              clear hwB q0 q1 q2
              go_cut [104] (fun s wx => s = .bool false ∧ Hid (Below wB.heap.size wB wx))
              case first =>
                have k0 := cell_regrown x0; have k1 := cell_regrown x1; have k2 := cell_regrown x2; have kc0 := cell_regrown c0
                by_cases hi0 : i ≤ 0
                · have hd0 : decide ((0 : Int) < (i : Int)) = false := decide_eq_false (by omega)
                  have hd1 : decide (0 < i) = false := decide_eq_false (by omega)
                  refine wp_region_quiet_below (by kernel_rfl) (by kernel_rfl) ?_
                  repeat (go_big_quiet_step (fail))
                  refine wpQuiet_nil ?_
                  intro wq hq
                  replace hq := below_of_regrown hq
                  go_wp2_with fail
                  go_meet
                  exact ⟨rfl, hid hq⟩
                · obtain ⟨i', rfl⟩ : ∃ i', i = i' + 1 := ⟨i - 1, by omega⟩
                  have hd0 : decide ((0 : Int) < (i' : Int) + 1) = true := decide_eq_true (by omega)
                  obtain ⟨pm, hpm, e3⟩ := HPR.out i' rfl
                  have hd2 : decide ((pn : Int) ≤ (pm : Int)) = false := decide_eq_false (by omega)
                  have hd3 : decide (pn ≤ pm) = false := decide_eq_false (by omega)
                  have k3 := cell_regrown (cell_later (Below.on HI.out HBB.out) e3)
                  clear e3
                  refine wp_region_quiet_below (by kernel_rfl) (by kernel_rfl) ?_
                  repeat (go_big_quiet_step (fail))
                  refine wpQuiet_nil ?_
                  intro wq hq
                  replace hq := below_of_regrown hq
                  go_wp2_with fail
                  go_meet
                  exact ⟨rfl, hid hq⟩
              case rest =>
                obtain ⟨rfl, HX⟩ := hcut
                rename World => wC
                have HWC := hid (Below.on (Below.on HWA.out HBB.out) HX.out)
                have c7 := (HA.out.box.later HWC.out).c7
                simp only at c7
                clear x0 x1 x2 c0 hd5 hcv hw1 hs0 HPR hp4
                go_wp2_with fail
                clear c7
                go_loopg [11, 12] ws.length (fun g s11 s12 wr => ∃ j : Nat, j ≤ ws.length ∧ g = ws.length - j ∧ s12 = .int .i64 j ∧ Hid (OwnWr wr wC.heap.size s11 (writesL ss (ws.take j) pn)) ∧ Hid (Below wC.heap.size wC wr))
                case atStart => exact ⟨0, by omega, by omega, rfl, hid (OwnWr.nil _ _), hid (Below.refl _ _)⟩
                case round =>
                  rename World => wD
                  obtain ⟨j, hj, rfl, rfl, HOW, HD⟩ := hrel
                  obtain ⟨v5, hv5⟩ : ∃ v5, v5 = u11 := ⟨_, rfl⟩
                  rw [← hv5] at HOW ⊢
                  clear hv5
                  have HWD := hid (Below.on HWC.out HD.out)
                  obtain ⟨c0, c1, c2, c3, c4, c5, c6, c7, c8⟩ := HA.out.box.later HWD.out
                  have x0 := cell_later (Below.on HX.out HD.out) HX0.out.1
                  by_cases hlj : j < ws.length
                  · obtain ⟨b2, off2, ewa, d0, d1, d2⟩ := (HA.out.ok.wr.later HWD.out) j hlj
                    obtain ⟨xx, hx⟩ : ∃ x, x = nthW ws j := ⟨_, rfl⟩
                    simp only at d0 d1 d2 ewa
                    rw [← hx] at d0 d1 d2
                    have hsn := writes_snoc ss hlj pn
                    rw [← hx] at hsn
                    obtain ⟨xk, xd, xv⟩ := xx
                    simp only at d0 d1 d2 hsn
                    subst ewa
                    obtain ⟨t, htt⟩ : ∃ t, ((ownN ss xk : Int) == (pn : Int)) = t := ⟨_, rfl⟩
                    have HTT := hid htt
                    have HSN : Hid (writesL ss (ws.take (j + 1)) pn = writesL ss (ws.take j) pn ++ if t = true then [⟨xk, xd, xv⟩] else []) := hid (by
                      rw [hsn]; congr 1
                      by_cases e : ownN ss xk = pn
                      · rw [if_pos e, if_pos (by rw [← htt, e]; simp)]
                      · rw [if_neg e, if_neg (by rw [← htt]; simp; omega)])
                    have hwl := writes_le ss (ws.take j) pn
                    rw [List.length_take] at hwl
                    have hj1 : (j : Int) < (ws.length : Int) := by omega
                    clear hx hsn htt
                    go_wp2_with fail
                    go_cut [124] (fun s wx => s = .bool t ∧ Below wD.heap.size wD wx)
                    case first =>
                      go_region_held3 (fun w' => w'.cell? ⟨p, 0, none⟩ = some (.int .i64 sh) ∧ w'.cell? ⟨p, 1, none⟩ = some (.int .i64 cl) ∧ w'.cell? ⟨p, 2, none⟩ = some (.slice a ss.length cp) ∧ w'.cell? ⟨p, 3, none⟩ = some (.int .i64 ca) ∧ w'.cell? ⟨p, 4, none⟩ = some (.int .i64 pk) ∧ w'.cell? ⟨p, 5, none⟩ = some (.int .u64 wi) ∧ w'.cell? ⟨p, 7, none⟩ = some (.slice (some ⟨b2, off2, none⟩) ws.length wc) ∧ w'.cell? ⟨b2, off2 + j * 3, none⟩ = some (.string xk) ∧ w'.cell? ⟨wA.heap.size, 0, none⟩ = some (.int .u32 (pn : Int)) ∧ Below wD.heap.size wD w')
                        ((refine (fun (hB : Below wD.heap.size wD _) => ⟨cell_later hB c0, cell_later hB c1, cell_later hB c2, cell_later hB c3, cell_later hB c4, cell_later hB c5, cell_later hB c7, cell_later hB d0, cell_later hB x0, hB⟩) ?_; (repeat (first | with_reducible exact Below.refl _ _ | with_reducible assumption | with_reducible refine Below.drew ?_ | with_reducible refine Below.al ?_ _ | with_reducible refine Below.setCell ?_ (by first | exact Nat.le_refl _ | (simp; omega) | (simp; done)) _ | with_reducible refine Below.on ?_ (by assumption)))))
                        (first | (go_at_call 7; refine (((HA.out.on HWD.out).on (by (repeat (first | with_reducible exact Below.refl _ _ | with_reducible assumption | with_reducible refine Below.drew ?_ | with_reducible refine Below.al ?_ _ | with_reducible refine Below.setCell ?_ (by first | exact Nat.le_refl _ | (simp; omega) | (simp; done)) _ | with_reducible refine Below.on ?_ (by assumption))))).twin).mono ?_; rintro e w5 ⟨a1, cp1, rfl, hok1, hb5⟩; have HOK := hid hok1; clear hok1) | (go_at_call 6; refine (HO.out _ _ _ (HOK.out.later (by (repeat (first | with_reducible exact Below.refl _ _ | with_reducible assumption | with_reducible refine Below.drew ?_ | with_reducible refine Below.al ?_ _ | with_reducible refine Below.setCell ?_ (by first | exact Nat.le_refl _ | (simp; omega) | (simp; done)) _ | with_reducible refine Below.on ?_ (by assumption))))) _).mono ?_; rintro e w6 ⟨rfl, hb6⟩))
                      all_goals (try go_wp2_with fail)
                      all_goals go_meet
                      all_goals (exact ⟨by rw [HTT.out], by (repeat (first | with_reducible exact Below.refl _ _ | with_reducible assumption | with_reducible refine Below.drew ?_ | with_reducible refine Below.al ?_ _ | with_reducible refine Below.setCell ?_ (by first | exact Nat.le_refl _ | (simp; omega) | (simp; done)) _ | with_reducible refine Below.on ?_ (by assumption)))⟩)
                    case rest =>
                      obtain ⟨rfl, hbx⟩ := hcut
                      rename World => wE
                      have HBE := hid hbx
                      have d0 := cell_later hbx d0
                      have d1 := cell_later hbx d1
                      have d2 := cell_later hbx d2
                      have c7 := cell_later hbx c7
                      clear hbx c0 c1 c2 c3 c4 c5 c6 c8 x0
                      cases t with
                      | false =>
                        go_wp2_with fail
                        go_roundg (ws.length - (j + 1))
                        case measure => omega
                        case rel => exact ⟨j + 1, by omega, rfl, by go_num, hid (by rw [HSN.out]; simpa using HOW.out.later HBE.out), hid (Below.on HD.out HBE.out)⟩
                      | true =>
                        have hL1 : Hid (((writesL ss (ws.take j) pn).length + 1) * 40 ≤ 140737488355328) := hid (by omega)
                        have HOX : Hid (∀ W', Below wE.heap.size wE W' → OwnWr W' wC.heap.size v5 (writesL ss (ws.take j) pn)) := hid (fun W' hb => HOW.out.later (Below.on HBE.out hb))
                        have HBX : Hid (∀ W', Below wE.heap.size wE W' → Below wC.heap.size wC W' ∧ wC.heap.size ≤ W'.heap.size) := hid (fun W' hb => ⟨Below.on (Below.on HD.out HBE.out) hb, (Below.on (Below.on HD.out HBE.out) hb).size⟩)
                        clear HOW
                        go_wp2_with (at_builtin; refine append_Wr rfl _ _ rfl ⟨xk, xd, xv⟩ rfl (HOX.out _ (by (repeat (first | with_reducible exact Below.refl _ _ | with_reducible assumption | with_reducible refine Below.drew ?_ | with_reducible refine Below.al ?_ _ | with_reducible refine Below.setCell ?_ (by first | exact Nat.le_refl _ | (simp; omega) | (simp; done)) _ | with_reducible refine Below.on ?_ (by assumption))))) rfl (newT _ _ _ _ _) hL1.out (HBX.out _ (by (repeat (first | with_reducible exact Below.refl _ _ | with_reducible assumption | with_reducible refine Below.drew ?_ | with_reducible refine Below.al ?_ _ | with_reducible refine Below.setCell ?_ (by first | exact Nat.le_refl _ | (simp; omega) | (simp; done)) _ | with_reducible refine Below.on ?_ (by assumption))))).2 ?_; intro v6 w6 ho6 hg6; have HO6 := hid ho6; have HB6 := hid (OwnWr.grown (HOX.out _ (by (repeat (first | with_reducible exact Below.refl _ _ | with_reducible assumption | with_reducible refine Below.drew ?_ | with_reducible refine Below.al ?_ _ | with_reducible refine Below.setCell ?_ (by first | exact Nat.le_refl _ | (simp; omega) | (simp; done)) _ | with_reducible refine Below.on ?_ (by assumption))))) hg6 (HBX.out _ (by (repeat (first | with_reducible exact Below.refl _ _ | with_reducible assumption | with_reducible refine Below.drew ?_ | with_reducible refine Below.al ?_ _ | with_reducible refine Below.setCell ?_ (by first | exact Nat.le_refl _ | (simp; omega) | (simp; done)) _ | with_reducible refine Below.on ?_ (by assumption))))).1 (Nat.le_refl _)); clear ho6 hg6)
                        go_roundg (ws.length - (j + 1))
                        case measure => omega
                        case rel => exact ⟨j + 1, by omega, rfl, by go_num, hid (by rw [HSN.out]; exact HO6.out), HB6⟩
                  · obtain rfl : j = ws.length := by omega
                    obtain ⟨ma, mc, emv, hrm⟩ := HOW.out.row
                    rw [List.take_length, ← HNV.out.2] at emv hrm
                    rw [HNV.out.1] at emv
                    subst emv
                    have HBD := hid (Below.on HX.out HD.out)
                    have x2 := cell_later HBD.out HX0.out.2
                    have SW : Hid (Calls Tryd.prog 15 #[.slice ma nv mc, .slice va nv vc] wD fun e w' => e = .returned (.bool true) ∧ Below wD.heap.size wD w') := hid (by
                      have := sameW_is (c := mc) (d := vc) hrm (HV.out.later (Below.on (Below.on HI.out HBB.out) HBD.out)) (by rw [HNV.out.1]; omega)
                      rw [HNV.out.1] at this
                      exact this)
                    clear HOW hrm c0 c1 c2 c3 c4 c5 c6 c8
                    cases fb with
                    | false =>
                      have HNF : Hid (false = decide (sumW (S.take (i + 1)) = 0)) := hid (by
                        have h1 := HFB.out
                        rw [HSTP.out]
                        have : ¬ m = 0 := of_decide_eq_false h1.symm
                        exact (decide_eq_false (by omega)).symm)
                      go_wp2_with (go_at_call 15; refine SW.out.mono ?_; rintro e w6 ⟨rfl, hb6⟩)
                      go_roundg (nS - (i + 1))
                      case measure => omega
                      case rel => exact ⟨i + 1, by omega, rfl, by go_num, by rw [HSTP.out]; simp, false, rfl, HNF, hid (Below.on (Below.on (Below.on HI.out HBB.out) HBD.out) hb6)⟩
                    | true =>
                      have hm0 : m = 0 := of_decide_eq_true HFB.out.symm
                      by_cases hv0 : 0 < nv
                      · have hdv : decide (0 < (nv : Int)) = true := decide_eq_true (by omega)
                        have hdv2 : decide (0 < nv) = true := decide_eq_true (by omega)
                        obtain ⟨hh1, hh2⟩ := HFH.out hm0 (by intro e; have := HNV.out.1; rw [e] at this; simp at this; omega)
                        have ean : an = true := by rw [HHM2.out.1]; exact decide_eq_true hh2
                        have ehm : hm = pn := by rw [HHM2.out.2.1 ean, ← hh1]
                        subst ean
                        have EHM := hid ehm
                        have hne : ((hm : Int) != (pn : Int)) = false := by rw [ehm]; simp
                        have HNF : Hid (false = decide (sumW (S.take (i + 1)) = 0)) := hid (by
                          rw [HSTP.out]
                          exact (decide_eq_false (by omega)).symm)
                        clear hh1 hh2 ehm hm0 hv0
                        go_wp2_with (go_at_call 15; refine SW.out.mono ?_; rintro e w6 ⟨rfl, hb6⟩; have x0 := cell_later hb6 x0)
                        go_roundg (nS - (i + 1))
                        case measure => omega
                        case rel => exact ⟨i + 1, by omega, rfl, by go_num, by rw [HSTP.out]; simp, false, rfl, HNF, hid (Below.on (Below.on (Below.on HI.out HBB.out) HBD.out) hb6)⟩
                      · have hdv : decide (0 < (nv : Int)) = false := decide_eq_false (by omega)
                        have hdv2 : decide (0 < nv) = false := decide_eq_false (by omega)
                        have HNF : Hid (true = decide (sumW (S.take (i + 1)) = 0)) := hid (by
                          rw [HSTP.out]
                          exact (decide_eq_true (by omega)).symm)
                        clear hm0 hv0
                        go_wp2_with (go_at_call 15; refine SW.out.mono ?_; rintro e w6 ⟨rfl, hb6⟩)
                        go_roundg (nS - (i + 1))
                        case measure => omega
                        case rel => exact ⟨i + 1, by omega, rfl, by go_num, by rw [HSTP.out]; simp, true, rfl, HNF, hid (Below.on (Below.on (Below.on HI.out HBB.out) HBD.out) hb6)⟩
            · obtain rfl : i = nS := by omega
              have em : m = ws.length := by rw [hm', ← HNL.out, List.take_length, HSUM.out]
              subst em
              obtain ⟨c0, c1, c2, c3, c4, c5, c6, c7, c8⟩ := HA.out.box.later HWA.out
              simp only at c0 c1 c2 c3 c4 c5 c6 c7 c8
              have LK := hid (HLK.out _ HI.out)
              clear hm' HLK
              go_wp2_with (go_at_call 16; refine LK.out.mono ?_; rintro e w6 ⟨rfl, hb6⟩)
              go_ret
              exact ⟨rfl, Below.on (Below.on HBW.out HWA.out) hb6⟩
end Go.Proofs.YtcghbjdmncggaaaDoor.Rt
