import Derived.Test.YtfkiccdjffhhhaaGreatDoorRdLawP
/- RouteText: the walk. -/
namespace Go.Proofs.YtfkiccdjffhhhaaGreatDoor.Rt
open Go.RowKit Go.Sort
set_option linter.unusedVariables false

set_option maxRecDepth 100000 in
set_option maxHeartbeats 8000000 in
theorem law_text {w : World} {x : Wn} {ea eb : Addr} (hc : x.c.Ok w) (hl : x.c.ss.length ≤ 8796093022208) (hw : 0 ≤ x.c.wi ∧ x.c.wi ≤ 18446744073709551615) (hn : x.n.size ≤ 140737488355328) (hx : -9223372036854775808 ≤ x.x ∧ x.x ≤ 9223372036854775807) (ht : PowTab w) (hg : Gl w ea eb) :
    Calls Tryz.prog 3 #[x.val] w fun e w' => e = .returned (.bool true) ∧ Below w.heap.size w w' := by
  obtain ⟨c, N, X⟩ := x
  simp only at hc hl hw hn hx
  obtain ⟨wA, hwA⟩ : ∃ wA, wA = w.alloc (.cells #[.int .i64 c.sh, .int .i64 c.cl, .slice c.a c.ss.length c.cp, .int .i64 c.ca, .int .i64 c.pk, .int .u64 c.wi, .string N, .int .i64 X] 27) := ⟨_, rfl⟩
  have hbA : Below w.heap.size w wA := by rw [hwA]; (repeat (first | with_reducible exact Below.refl _ _ | with_reducible assumption | with_reducible refine Below.drew ?_ | with_reducible refine Below.al ?_ _ | with_reducible refine Below.setCell ?_ (by first | exact Nat.le_refl _ | (simp; omega) | (simp; done)) _ | with_reducible refine Below.on ?_ (by assumption)))
  have HBX : Hid (BoxW wA w.heap.size ⟨c, N, X⟩) := hid (by rw [hwA]; exact BoxW.new w ⟨c, N, X⟩ _)
  have HF := hid (fit_is (hc.later hbA) (rfl : c.okB = c.okB))
  have HC := hid (hc.later hbA)
  have HT := hid (ht.later hbA)
  have HG := hid (hg.later hbA)
  have HB := hid hbA
  have HSZ : Hid (w.heap.size < wA.heap.size) := hid (by rw [hwA]; simp)
  clear hc ht hg hbA
  go_enter Tryz.func3, Tryz.ntmps3
  go_wp2_with fail
  rw [← hwA]
  clear hwA
  refine HF.out.mono ?_
  rintro e w1 ⟨rfl, hb1⟩
  have HB1 := hid hb1
  obtain ⟨b0, b1, b2, b3, b4, b5, b6, b7⟩ := HBX.out.later hb1
  clear hb1
  go_wp2_with fail
  refine (twin_is (HC.out.later HB1.out) hl (HT.out.later HB1.out)).mono ?_
  rintro e w2 ⟨ta, tc, rfl, hok2, hb2⟩
  have HB2 := hid (Below.on HB1.out hb2)
  have HTX := hid (Text_is hok2 hw (HT.out.later HB2.out))
  clear hok2 hb2
  go_wp2_with fail
  refine HTX.out.mono ?_
  rintro e w3 ⟨rfl, hb3⟩
  have HB3 := hid (Below.on HB2.out hb3)
  clear hb3 HTX b0 b1 b2 b3 b4 b5 b6 b7
  have hsd : (c.at ta tc).said = c.said := rfl
  rw [hsd]
  clear hsd
  cases hok : c.okB
  · rw [said_no hok]
    go_wp2_with fail
    go_ret
    exact ⟨rfl, Below.on HB.out HB3.out⟩
  · rw [said_ok hok]
    have HOK := hid hok
    obtain ⟨T, hT⟩ : ∃ T, T = c.text := ⟨_, rfl⟩
    have HTD : Hid (T.data.toList = flat c.ls) := hid (by rw [hT, text_flat]; rfl)
    rw [← hT]
    have HT6 : Hid (T.size ≤ 600) := hid (by rw [Lib.size_eq, HTD.out]; exact part_600 hok hw (.inl rfl))
    have h6 : ¬ (600 : Int) < (T.size : Int) := by have := HT6.out; omega
    clear hT
    have HP := hid (parse_u (HG.out.later HB3.out) hok hw (n := []) (.inl rfl) (.inl rfl) (t := T) (by rw [HTD.out]; rfl) (by have := HT6.out; omega))
    go_wp2_with fail
    refine HP.out.mono ?_
    rintro e w4 ⟨hb4, ⟨h7, _⟩ | ⟨_, pa, pc, rfl, -, hrow⟩⟩
    · have := HT6.out; omega
    have HB4 := hid (Below.on HB3.out hb4)
    obtain ⟨q, hq⟩ : ∃ q, q = w4.heap.size := ⟨_, rfl⟩
    obtain ⟨w5, hw5⟩ : ∃ w5, w5 = w4.alloc (.cells #[.int .i64 c.sh, .int .i64 c.cl, .slice pa c.ss.length pc, .int .i64 c.ca, .int .i64 c.pk, .int .u64 c.wi] 25) := ⟨_, rfl⟩
    have hb45 : Below w4.heap.size w4 w5 := by rw [hw5]; (repeat (first | with_reducible exact Below.refl _ _ | with_reducible assumption | with_reducible refine Below.drew ?_ | with_reducible refine Below.al ?_ _ | with_reducible refine Below.setCell ?_ (by first | exact Nat.le_refl _ | (simp; omega) | (simp; done)) _ | with_reducible refine Below.on ?_ (by assumption)))
    have HB5 := hid (Below.on HB4.out hb45)
    have HQ5 : Hid (BoxC w5 q (c.at pa pc) ∧ Six w5 q) := hid (by
      have hbx : BoxC w5 q (c.at pa pc) := by rw [hw5, hq]; exact BoxC.new w4 (c.at pa pc) _
      refine ⟨hbx, fun o ho => ?_, fun o => by rw [hw5, hq]; simp [go_sem], by rw [hw5, hq]; simp⟩
      match o, ho with
      | 0, _ => exact ⟨_, hbx.c0⟩
      | 1, _ => exact ⟨_, hbx.c1⟩
      | 2, _ => exact ⟨_, hbx.c2⟩
      | 3, _ => exact ⟨_, hbx.c3⟩
      | 4, _ => exact ⟨_, hbx.c4⟩
      | 5, _ => exact ⟨_, hbx.c5⟩)
    have hl5 : c.ss.length ≤ 5 := (ok_len hok).1
    have HSM := hid (sameC_is (w := w5) (c := c) (a := pa) (cp := pc) ((HC.out.later HB5.out).row) (hrow.later hb45) (by omega))
    have HQQ := hid hq
    obtain ⟨x0, x1, x2, x3, x4, x5, x6, x7⟩ := HBX.out.later HB5.out
    obtain ⟨y0, y1, y2, y3, y4, y5⟩ := HQ5.out.1
    simp only at x0 x1 x2 x3 x4 x5 x6 x7 y0 y1 y2 y3 y4 y5
    have HXS : Hid (Xs wA w5 ⟨c, N, X⟩ w.heap.size q) := hid ⟨HB5.out, HBX.out.later HB5.out, HQ5.out.2, by rw [hq]; exact HB4.out.size, by rw [hq]; have := HSZ.out; have := HB4.out.size; omega⟩
    rw [hw5, hq] at y0 y1 y2 y3 y4 y5
    rw [hw5] at x0 x1 x2 x3 x4 x5 x6 x7
    clear hq hb4 hb45 hrow
    go_wp2_with fail
    rw [← hw5, ← HQQ.out]
    clear hw5 x0 x1 x2 x3 x4 x5 x6 x7 y0 y1 y2 y3 y4 y5
    refine HSM.out.mono ?_
    rintro e w6 ⟨rfl, hb6⟩
    have HX6 := hid (HXS.out.later hb6)
    have HCU := hid (cutT_is (w := w6) HTD.out (ls_no10 hok) (by rw [ls_length]; omega) (by have := HT6.out; omega))
    clear hb6
    go_wp2_with fail
    refine HCU.out.mono ?_
    rintro e w7 ⟨la, lc, rfl, hrow7, hb7⟩
    have HX7 := hid (HX6.out.later hb7)
    have HR7 := hid hrow7
    obtain ⟨x0, x1, x2, x3, x4, x5, x6, x7⟩ := HX7.out.box
    simp only at x0 x1 x2 x3 x4 x5 x6 x7
    clear hrow7 hb7
    rw [ls_length]
    have hsh : c.sh = c.ss.length + 1 := (ok_len hok).2.1
    obtain ⟨y, hy5, hy⟩ := five X hx
    obtain ⟨n5, hn5⟩ : ∃ n5, n5 = c.ss.length + 5 := ⟨_, rfl⟩
    rw [← hn5]
    have HLL : Hid (c.ls.length = n5) := hid (by rw [ls_length, hn5])
    have hshb : 1 ≤ c.sh ∧ c.sh ≤ 6 := by omega
    have hne : ((n5 : Int) != 4 + c.sh) = false := by
      rw [bne_eq_false_iff_eq, hsh, hn5]; omega
    have kw : IntKind.i64.wrap (X.tmod 5) = X.tmod 5 := by rw [IntKind.wrap_i64]; omega
    have hn10 : n5 ≤ 10 := by omega
    have hy5' : y < n5 := by omega
    have HL5 : Hid (c.ss.length ≤ 1000) := hid (by omega)
    clear hn5 hsh hl5
    go_upto_if 73 with fail
    go_cut [9] (fun s9 wx => s9 = .int .i64 (y : Nat) ∧ wx = w7)
    case first =>
      rcases hy with ⟨h0, hE⟩ | ⟨h0, hE⟩
      · rw [hE] at kw h0
        go_wp2_with fail
        go_meet
        first | exact ⟨rfl, rfl⟩ | exact ⟨by rw [hE], rfl⟩
      · have kw2 : IntKind.i64.wrap (X.tmod 5 + 5) = (y : Int) := by rw [hE, IntKind.wrap_i64]; omega
        clear hE
        go_wp2_with fail
        go_meet
        exact ⟨rfl, rfl⟩
    case rest =>
      obtain ⟨rfl, rfl⟩ := hcut
      clear kw hy hne
      obtain ⟨lb, lo, rfl, -⟩ := HR7.out y (by rw [List.length_map, HLL.out]; exact hy5')
      have HRW : Hid (∀ k (h : k < n5), wc.cell? ⟨lb, lo + k, none⟩ = some (.string (endB (c.ls[k]'(by rw [HLL.out]; exact h))))) := hid (fun k h => by
        obtain ⟨b', o', e', hc'⟩ := HR7.out k (by rw [List.length_map, HLL.out]; exact h)
        injection e' with e'; injection e' with e1 e2
        subst e1 e2
        rw [hc']
        simp [nthS, HLL.out, h])
      obtain ⟨M, hM⟩ : ∃ M, M = endB (c.ls[y]'(by rw [HLL.out]; exact hy5')) := ⟨_, rfl⟩
      have m0 := HRW.out y hy5'
      rw [← hM] at m0
      have HMD : Hid (M.data.toList = ln y (c.wN y) ++ [10]) := hid (by rw [hM, endB_data, ls_at c hy5])
      have HMS : Hid (M.size ≤ 600) := hid (by rw [hM]; exact Nat.le_trans (line_size HTD.out _) HT6.out)
      clear hM HR7
      go_wp2_with fail
      clear m0
      go_loopg [11, 12] n5 (fun gg s11 s12 wr => ∃ k : Nat, ∃ Wo : ByteArray, k ≤ n5 ∧ gg = n5 - k ∧ s11 = .string Wo ∧ s12 = .int .i64 k ∧ wr = wc ∧ Wo.size ≤ 600 ∧ Hid (Wo.data.toList = flat ((c.ls.take k).eraseIdx y)))
      case atStart => exact ⟨0, ⟨#[]⟩, by omega, by omega, rfl, rfl, rfl, by decide, hid (by simp [flat])⟩
      case round =>
        obtain ⟨k, Wo, hk, rfl, rfl, rfl, rfl, hWs, HW⟩ := hrel
        by_cases hlt : k < n5
        · have HTE := hid (take_erase (ls := c.ls) (x := y) (k := k) (by rw [HLL.out]; exact hlt))
          by_cases hky : k = y
          · have hky' : ((k : Int) != (y : Int)) = false := by simp [hky]
            have HN : Hid (Wo.data.toList = flat ((c.ls.take (k + 1)).eraseIdx y)) := hid (by rw [HTE.out, if_pos hky]; exact HW.out)
            clear hky
            go_wp2_with fail
            go_roundg (n5 - (k + 1))
            case measure => omega
            case rel => exact ⟨k + 1, Wo, by omega, rfl, rfl, by go_num, rfl, hWs, HN⟩
          · have hky' : ((k : Int) != (y : Int)) = true := by simp; omega
            have l0 := HRW.out k hlt
            obtain ⟨L, hL⟩ : ∃ L, L = endB (c.ls[k]'(by rw [HLL.out]; exact hlt)) := ⟨_, rfl⟩
            rw [← hL] at l0
            have hLs : L.size ≤ 600 := by rw [hL]; exact Nat.le_trans (line_size HTD.out _) HT6.out
            have HN : Hid ((Wo ++ L).data.toList = flat ((c.ls.take (k + 1)).eraseIdx y)) := hid (by rw [HTE.out, if_neg hky, app_data, HW.out, hL, endB_data])
            have HNS : Hid ((Wo ++ L).size ≤ 600) := hid (Nat.le_trans (wo_size HTD.out HN.out) HT6.out)
            have hcat : (9223372036854775807 < Wo.size + L.size) = False := eq_false (by omega)
            clear hky hL
            go_wp2_with fail
            go_roundg (n5 - (k + 1))
            case measure => omega
            case rel => exact ⟨k + 1, Wo ++ L, by omega, rfl, rfl, by go_num, rfl, HNS.out, HN⟩
        · obtain rfl : k = n5 := by omega
          have HWD : Hid (Wo.data.toList = flat (c.ls.eraseIdx y)) := hid (by rw [HW.out, ← HLL.out, List.take_length])
          clear HRW HW
          go_wp2_with fail
          go_loopg [13, 14] N.size (fun gg s13 s14 wr2 => ∃ i : Nat, ∃ Q : ByteArray, i ≤ N.size ∧ gg = N.size - i ∧ s13 = .string Q ∧ s14 = .int .i64 i ∧ wr2 = wr ∧ Q.size ≤ i + 1 ∧ Hid (Nt Q i))
          case atStart => exact ⟨0, ⟨#[35]⟩, by omega, by omega, rfl, rfl, rfl, by decide, hid ⟨⟨[], rfl, by simp⟩, by decide⟩⟩
          case round =>
            obtain ⟨i, Q, hi, rfl, rfl, rfl, rfl, hQs, HQ⟩ := hrel
            by_cases hlt : i < N.size
            · by_cases hu : N[i]'hlt = 10
              · have hten : (((N[i]'hlt).toNat : Int) != 10) = false := by rw [hu]; rfl
                clear hu
                go_wp2_with fail
                go_roundg (N.size - (i + 1))
                case measure => omega
                case rel => exact ⟨i + 1, Q, by omega, rfl, rfl, by go_num, rfl, by omega, hid HQ.out.same⟩
              · have hten : (((N[i]'hlt).toNat : Int) != 10) = true := by
                  rw [bne_iff_ne]
                  intro e
                  apply hu
                  apply UInt8.toNat_inj.1
                  have : (10 : UInt8).toNat = 10 := rfl
                  omega
                have hex : (N.extract i (i + 1)).data.toList = [N[i]'hlt] := by
                  rw [ByteArray.data_extract, Array.toList_extract, List.extract_eq_take_drop, List.drop_eq_getElem_cons (by rw [← Lib.size_eq]; exact hlt)]
                  rw [show i + 1 - i = 1 by omega]
                  simp
                  rfl
                have hes : (N.extract i (i + 1)).size = 1 := by rw [Lib.size_eq, hex]; rfl
                have HM : Hid (Nt (Q ++ N.extract i (i + 1)) (i + 1)) := hid (HQ.out.more hex hu)
                have hcat : (9223372036854775807 < Q.size + (N.extract i (i + 1)).size) = False := eq_false (by rw [hes]; omega)
                clear hu hex
                go_wp2_with fail
                go_roundg (N.size - (i + 1))
                case measure => omega
                case rel => exact ⟨i + 1, Q ++ N.extract i (i + 1), by omega, rfl, rfl, by go_num, rfl, HM.out.s, HM⟩
            · obtain rfl : i = N.size := by omega
              go_wp2_with fail
              go_loopg [15] 3 (fun gg s15 wr3 => ∃ k : Nat, k ≤ 3 ∧ gg = 3 - k ∧ s15 = .int .i64 k ∧ Hid (Xs wA wr3 ⟨c, N, X⟩ w.heap.size q))
              case atStart => exact ⟨0, by omega, by omega, rfl, HX7⟩
              case round =>
              obtain ⟨k3, hk3, rfl, rfl, HXr⟩ := hrel
              rcases (show k3 = 0 ∨ k3 = 1 ∨ k3 = 2 ∨ k3 = 3 by omega) with rfl | rfl | rfl | rfl
              · obtain ⟨U, hU⟩ : ∃ U : ByteArray, U = M ++ Wo := ⟨_, rfl⟩
                have HUD : Hid (U.data.toList = [] ++ flat (c.part (front y))) := hid (by rw [hU, app_data, HMD.out, HWD.out, ← moved_front c hy5]; try simp only [List.append_assoc, List.nil_append])
                have hUs : U.size ≤ 140737488356928 := by
                  rw [hU]
                  simp only [app_size]
                  have := HMS.out
                  have e10 : (⟨#[10]⟩ : ByteArray).size = 1 := rfl
                  omega
                have HPU := hid (parse_u (c := c) (t := U) (HG.out.later HXr.out.bel) HOK.out hw (.inl rfl) (.inr ⟨y, hy5, rfl⟩) HUD.out (by omega))
                have hcat1 : (9223372036854775807 < M.size + Wo.size) = False := eq_false (by have := HMS.out; omega)
                skip
                skip
                go_wp2_with fail
                rw [← hU]
                refine HPU.out.mono ?_
                rintro e w8 ⟨hb8, ⟨h7, rfl⟩ | ⟨h7, pa2, pc2, rfl, hnew8, hrow8⟩⟩
                · have HX8 := hid (HXr.out.later hb8)
                  obtain ⟨v0, z0⟩ := HX8.out.six.c 0 (by omega)
                  obtain ⟨v1, z1⟩ := HX8.out.six.c 1 (by omega)
                  obtain ⟨v2, z2⟩ := HX8.out.six.c 2 (by omega)
                  obtain ⟨v3, z3⟩ := HX8.out.six.c 3 (by omega)
                  obtain ⟨v4, z4⟩ := HX8.out.six.c 4 (by omega)
                  obtain ⟨v5, z5⟩ := HX8.out.six.c 5 (by omega)
                  have zf := HX8.out.six.f
                  have h7' : (600 : Int) < (U.size : Int) := by omega
                  unfold zeroC
                  clear hb8 hcat1 hU
                  go_wp2_with fail
                  go_roundg (3 - (0 + 1))
                  case measure => omega
                  case rel => exact ⟨0 + 1, by omega, rfl, rfl, hid HX8.out.setc.setc.setc.setc.setc.setc⟩
                · have HX8 := hid (HXr.out.later hb8)
                  have HR8 := hid hrow8
                  have HNW : Hid (∀ g o, pa2 = some ⟨g, o, none⟩ → g ≠ q) := hid (fun g o e => by have := hnew8 g o e; have := HXr.out.six.lt; omega)
                  clear hnew8
                  obtain ⟨v0, z0⟩ := HX8.out.six.c 0 (by omega)
                  obtain ⟨v1, z1⟩ := HX8.out.six.c 1 (by omega)
                  obtain ⟨v2, z2⟩ := HX8.out.six.c 2 (by omega)
                  obtain ⟨v3, z3⟩ := HX8.out.six.c 3 (by omega)
                  obtain ⟨v4, z4⟩ := HX8.out.six.c 4 (by omega)
                  obtain ⟨v5, z5⟩ := HX8.out.six.c 5 (by omega)
                  have zf := HX8.out.six.f
                  have h7' : ¬ (600 : Int) < (U.size : Int) := by omega
                  clear hb8 hcat1 hU hrow8
                  go_upto_region 36 with fail
                  obtain ⟨w9, hw9e⟩ : ∃ w9, w9 = (((((w8.setCell ⟨q, 0, none⟩ (.int .i64 c.sh)).setCell ⟨q, 1, none⟩ (.int .i64 c.cl)).setCell ⟨q, 2, none⟩ (.slice pa2 c.ss.length pc2)).setCell ⟨q, 3, none⟩ (.int .i64 c.ca)).setCell ⟨q, 4, none⟩ (.int .i64 c.pk)).setCell ⟨q, 5, none⟩ (.int .u64 c.wi) := ⟨_, rfl⟩
                  rw [← hw9e]
                  have hw9 : w9 = put6 w8 q (c.at pa2 pc2) := hw9e
                  clear hw9e
                  have hx9 : Xs wA w9 ⟨c, N, X⟩ w.heap.size q := by rw [hw9]; exact HX8.out.put6 _
                  have hbx9 : BoxC w9 q (c.at pa2 pc2) := by rw [hw9]; exact put6_box HX8.out.six _
                  have hr9 : RowS w9 pa2 c.ss := by rw [hw9]; exact put6_row _ HR8.out HNW.out
                  have HSM9 := hid (sameC_is (w := w9) (c := c) (a := pa2) (cp := pc2) ((HC.out.later hx9.bel).row) hr9 HL5.out)
                  have HX9 := hid hx9
                  obtain ⟨y0, y1, y2, y3, y4, y5⟩ := hbx9
                  obtain ⟨q0, q1, q2, q3, q4, q5, q6, q7⟩ := hx9.box
                  simp only at y0 y1 y2 y3 y4 y5 q0 q1 q2 q3 q4 q5 q6 q7
                  clear hx9 hr9 hw9 z0 z1 z2 z3 z4 z5 zf
                  go_wp2_with fail
                  refine HSM9.out.mono ?_
                  rintro e w10 ⟨rfl, hb10⟩
                  have HX10 := hid (HX9.out.later hb10)
                  clear y0 y1 y2 y3 y4 y5 q0 q1 q2 q3 q4 q5 q6 q7 hb10
                  go_wp2_with fail
                  go_roundg (3 - (0 + 1))
                  case measure => omega
                  case rel => exact ⟨0 + 1, by omega, rfl, rfl, HX10⟩
              · obtain ⟨U, hU⟩ : ∃ U : ByteArray, U = ⟨#[10]⟩ ++ (M ++ Wo) := ⟨_, rfl⟩
                have HUD : Hid (U.data.toList = [10] ++ flat (c.part (front y))) := hid (by rw [hU, app_data, app_data, HMD.out, HWD.out, ← moved_front c hy5]; try simp only [List.append_assoc, List.nil_append])
                have hUs : U.size ≤ 140737488356928 := by
                  rw [hU]
                  simp only [app_size]
                  have := HMS.out
                  have e10 : (⟨#[10]⟩ : ByteArray).size = 1 := rfl
                  omega
                have HPU := hid (parse_u (c := c) (t := U) (HG.out.later HXr.out.bel) HOK.out hw (.inr ⟨[], rfl, by simp, .inl rfl⟩) (.inr ⟨y, hy5, rfl⟩) HUD.out (by omega))
                have hcat1 : (9223372036854775807 < M.size + Wo.size) = False := eq_false (by have := HMS.out; omega)
                have hcat2 : (9223372036854775807 < 1 + (M.size + Wo.size)) = False := eq_false (by have := HMS.out; omega)
                skip
                go_wp2_with fail
                rw [← hU]
                refine HPU.out.mono ?_
                rintro e w8 ⟨hb8, ⟨h7, rfl⟩ | ⟨h7, pa2, pc2, rfl, hnew8, hrow8⟩⟩
                · have HX8 := hid (HXr.out.later hb8)
                  obtain ⟨v0, z0⟩ := HX8.out.six.c 0 (by omega)
                  obtain ⟨v1, z1⟩ := HX8.out.six.c 1 (by omega)
                  obtain ⟨v2, z2⟩ := HX8.out.six.c 2 (by omega)
                  obtain ⟨v3, z3⟩ := HX8.out.six.c 3 (by omega)
                  obtain ⟨v4, z4⟩ := HX8.out.six.c 4 (by omega)
                  obtain ⟨v5, z5⟩ := HX8.out.six.c 5 (by omega)
                  have zf := HX8.out.six.f
                  have h7' : (600 : Int) < (U.size : Int) := by omega
                  unfold zeroC
                  clear hb8 hcat1 hU
                  go_wp2_with fail
                  go_roundg (3 - (1 + 1))
                  case measure => omega
                  case rel => exact ⟨1 + 1, by omega, rfl, rfl, hid HX8.out.setc.setc.setc.setc.setc.setc⟩
                · have HX8 := hid (HXr.out.later hb8)
                  have HR8 := hid hrow8
                  have HNW : Hid (∀ g o, pa2 = some ⟨g, o, none⟩ → g ≠ q) := hid (fun g o e => by have := hnew8 g o e; have := HXr.out.six.lt; omega)
                  clear hnew8
                  obtain ⟨v0, z0⟩ := HX8.out.six.c 0 (by omega)
                  obtain ⟨v1, z1⟩ := HX8.out.six.c 1 (by omega)
                  obtain ⟨v2, z2⟩ := HX8.out.six.c 2 (by omega)
                  obtain ⟨v3, z3⟩ := HX8.out.six.c 3 (by omega)
                  obtain ⟨v4, z4⟩ := HX8.out.six.c 4 (by omega)
                  obtain ⟨v5, z5⟩ := HX8.out.six.c 5 (by omega)
                  have zf := HX8.out.six.f
                  have h7' : ¬ (600 : Int) < (U.size : Int) := by omega
                  clear hb8 hcat1 hU hrow8
                  go_upto_region 36 with fail
                  obtain ⟨w9, hw9e⟩ : ∃ w9, w9 = (((((w8.setCell ⟨q, 0, none⟩ (.int .i64 c.sh)).setCell ⟨q, 1, none⟩ (.int .i64 c.cl)).setCell ⟨q, 2, none⟩ (.slice pa2 c.ss.length pc2)).setCell ⟨q, 3, none⟩ (.int .i64 c.ca)).setCell ⟨q, 4, none⟩ (.int .i64 c.pk)).setCell ⟨q, 5, none⟩ (.int .u64 c.wi) := ⟨_, rfl⟩
                  rw [← hw9e]
                  have hw9 : w9 = put6 w8 q (c.at pa2 pc2) := hw9e
                  clear hw9e
                  have hx9 : Xs wA w9 ⟨c, N, X⟩ w.heap.size q := by rw [hw9]; exact HX8.out.put6 _
                  have hbx9 : BoxC w9 q (c.at pa2 pc2) := by rw [hw9]; exact put6_box HX8.out.six _
                  have hr9 : RowS w9 pa2 c.ss := by rw [hw9]; exact put6_row _ HR8.out HNW.out
                  have HSM9 := hid (sameC_is (w := w9) (c := c) (a := pa2) (cp := pc2) ((HC.out.later hx9.bel).row) hr9 HL5.out)
                  have HX9 := hid hx9
                  obtain ⟨y0, y1, y2, y3, y4, y5⟩ := hbx9
                  obtain ⟨q0, q1, q2, q3, q4, q5, q6, q7⟩ := hx9.box
                  simp only at y0 y1 y2 y3 y4 y5 q0 q1 q2 q3 q4 q5 q6 q7
                  clear hx9 hr9 hw9 z0 z1 z2 z3 z4 z5 zf
                  go_wp2_with fail
                  refine HSM9.out.mono ?_
                  rintro e w10 ⟨rfl, hb10⟩
                  have HX10 := hid (HX9.out.later hb10)
                  clear y0 y1 y2 y3 y4 y5 q0 q1 q2 q3 q4 q5 q6 q7 hb10
                  go_wp2_with fail
                  go_roundg (3 - (1 + 1))
                  case measure => omega
                  case rel => exact ⟨1 + 1, by omega, rfl, rfl, HX10⟩
              · obtain ⟨U, hU⟩ : ∃ U : ByteArray, U = (Q ++ ⟨#[10]⟩) ++ (M ++ Wo) := ⟨_, rfl⟩
                have HUD : Hid (U.data.toList = (Q ++ ⟨#[10]⟩).data.toList ++ flat (c.part (front y))) := hid (by rw [hU, app_data (Q ++ ⟨#[10]⟩), app_data M, HMD.out, HWD.out, ← moved_front c hy5]; try simp only [List.append_assoc, List.nil_append])
                have hUs : U.size ≤ 140737488356928 := by
                  rw [hU]
                  simp only [app_size]
                  have := HMS.out
                  have e10 : (⟨#[10]⟩ : ByteArray).size = 1 := rfl
                  omega
                have HPU := hid (parse_u (c := c) (t := U) (HG.out.later HXr.out.bel) HOK.out hw (HQ.out.ahead) (.inr ⟨y, hy5, rfl⟩) HUD.out (by omega))
                have hcat1 : (9223372036854775807 < M.size + Wo.size) = False := eq_false (by have := HMS.out; omega)
                have hcat2 : (9223372036854775807 < Q.size + 1) = False := eq_false (by omega)
                have hcat3 : (9223372036854775807 < Q.size + 1 + (M.size + Wo.size)) = False := eq_false (by have := HMS.out; omega)
                go_wp2_with fail
                rw [← hU]
                refine HPU.out.mono ?_
                rintro e w8 ⟨hb8, ⟨h7, rfl⟩ | ⟨h7, pa2, pc2, rfl, hnew8, hrow8⟩⟩
                · have HX8 := hid (HXr.out.later hb8)
                  obtain ⟨v0, z0⟩ := HX8.out.six.c 0 (by omega)
                  obtain ⟨v1, z1⟩ := HX8.out.six.c 1 (by omega)
                  obtain ⟨v2, z2⟩ := HX8.out.six.c 2 (by omega)
                  obtain ⟨v3, z3⟩ := HX8.out.six.c 3 (by omega)
                  obtain ⟨v4, z4⟩ := HX8.out.six.c 4 (by omega)
                  obtain ⟨v5, z5⟩ := HX8.out.six.c 5 (by omega)
                  have zf := HX8.out.six.f
                  have h7' : (600 : Int) < (U.size : Int) := by omega
                  unfold zeroC
                  clear hb8 hcat1 hU
                  go_wp2_with fail
                  go_roundg (3 - (2 + 1))
                  case measure => omega
                  case rel => exact ⟨2 + 1, by omega, rfl, rfl, hid HX8.out.setc.setc.setc.setc.setc.setc⟩
                · have HX8 := hid (HXr.out.later hb8)
                  have HR8 := hid hrow8
                  have HNW : Hid (∀ g o, pa2 = some ⟨g, o, none⟩ → g ≠ q) := hid (fun g o e => by have := hnew8 g o e; have := HXr.out.six.lt; omega)
                  clear hnew8
                  obtain ⟨v0, z0⟩ := HX8.out.six.c 0 (by omega)
                  obtain ⟨v1, z1⟩ := HX8.out.six.c 1 (by omega)
                  obtain ⟨v2, z2⟩ := HX8.out.six.c 2 (by omega)
                  obtain ⟨v3, z3⟩ := HX8.out.six.c 3 (by omega)
                  obtain ⟨v4, z4⟩ := HX8.out.six.c 4 (by omega)
                  obtain ⟨v5, z5⟩ := HX8.out.six.c 5 (by omega)
                  have zf := HX8.out.six.f
                  have h7' : ¬ (600 : Int) < (U.size : Int) := by omega
                  clear hb8 hcat1 hU hrow8
                  go_upto_region 36 with fail
                  obtain ⟨w9, hw9e⟩ : ∃ w9, w9 = (((((w8.setCell ⟨q, 0, none⟩ (.int .i64 c.sh)).setCell ⟨q, 1, none⟩ (.int .i64 c.cl)).setCell ⟨q, 2, none⟩ (.slice pa2 c.ss.length pc2)).setCell ⟨q, 3, none⟩ (.int .i64 c.ca)).setCell ⟨q, 4, none⟩ (.int .i64 c.pk)).setCell ⟨q, 5, none⟩ (.int .u64 c.wi) := ⟨_, rfl⟩
                  rw [← hw9e]
                  have hw9 : w9 = put6 w8 q (c.at pa2 pc2) := hw9e
                  clear hw9e
                  have hx9 : Xs wA w9 ⟨c, N, X⟩ w.heap.size q := by rw [hw9]; exact HX8.out.put6 _
                  have hbx9 : BoxC w9 q (c.at pa2 pc2) := by rw [hw9]; exact put6_box HX8.out.six _
                  have hr9 : RowS w9 pa2 c.ss := by rw [hw9]; exact put6_row _ HR8.out HNW.out
                  have HSM9 := hid (sameC_is (w := w9) (c := c) (a := pa2) (cp := pc2) ((HC.out.later hx9.bel).row) hr9 HL5.out)
                  have HX9 := hid hx9
                  obtain ⟨y0, y1, y2, y3, y4, y5⟩ := hbx9
                  obtain ⟨q0, q1, q2, q3, q4, q5, q6, q7⟩ := hx9.box
                  simp only at y0 y1 y2 y3 y4 y5 q0 q1 q2 q3 q4 q5 q6 q7
                  clear hx9 hr9 hw9 z0 z1 z2 z3 z4 z5 zf
                  go_wp2_with fail
                  refine HSM9.out.mono ?_
                  rintro e w10 ⟨rfl, hb10⟩
                  have HX10 := hid (HX9.out.later hb10)
                  clear y0 y1 y2 y3 y4 y5 q0 q1 q2 q3 q4 q5 q6 q7 hb10
                  go_wp2_with fail
                  go_roundg (3 - (2 + 1))
                  case measure => omega
                  case rel => exact ⟨2 + 1, by omega, rfl, rfl, HX10⟩
              · have HG3 := hid (HG.out.later HXr.out.bel)
                have hcat : (9223372036854775807 < M.size + T.size) = False := eq_false (by have := HMS.out; have := HT6.out; omega)
                have HP1 := hid (parse_no (c := c) (t := Wo) HG3.out HOK.out hw ⟨y, hy5, .inl rfl⟩ (by rw [HWD.out, ls_erase c hy5]) (by omega))
                unfold zeroC at HP1
                go_wp2_with fail
                refine HP1.out.mono ?_
                rintro e w8 ⟨rfl, hb8⟩
                have HB8 := hid (Below.on HXr.out.bel hb8)
                have HP2 := hid (parse_no (c := c) (t := M ++ T) (HG3.out.later hb8) HOK.out hw ⟨y, hy5, .inr rfl⟩ (by rw [app_data, HMD.out, HTD.out, moved_twice]) (by rw [app_size]; have := HMS.out; have := HT6.out; omega))
                unfold zeroC at HP2
                clear hb8
                go_wp2_with fail
                refine HP2.out.mono ?_
                rintro e w9 ⟨rfl, hb9⟩
                go_wp2_with fail
                go_ret
                exact ⟨rfl, Below.on HB.out (Below.on HB8.out (Below.on hb9 (Below.al (Below.refl _ _) _)))⟩
end Go.Proofs.YtfkiccdjffhhhaaGreatDoor.Rt
