import Derived.Test.YtpnbgdbkiokooaaDoorFwSends
import Derived.Test.YtpnbgdbkiokooaaDoorFwRot
/- FlightOrder. -/
namespace Go.Proofs.YtpnbgdbkiokooaaDoor.Fw
open Go.RowKit Go.Sort Go.Proofs.YtpnbgdbkiokooaaDoor
set_option linter.unusedVariables false

theorem Fl.base {w : World} {B B' p : Nat} {v : Value} {xs : List ByteArray} (h : Fl w B p v xs) (hb : B' ≤ B) : Fl w B' p v xs := ⟨h.cell, h.ty, h.row.base hb, Nat.le_trans hb h.low⟩
/-- two flights whose blocks lie apart in time -/
theorem Fl.off {w : World} {B B' p q : Nat} {v u : Value} {xs ys : List ByteArray} (h : Fl w B p v xs) (k : Fl w B' q u ys) (hpq : p ≠ q) (huv : ∀ j, v.ownBlock = some j → u.ownBlock ≠ some j) : ∀ j, ItF p v j → ¬ ItF q u j := by
  rintro j (rfl | hj) (e | e)
  · exact hpq e
  · exact h.apart (k.row.ty _ e) rfl
  · subst e; exact k.apart (h.row.ty _ hj) rfl
  · exact huv j hj e
theorem nthT_drop (ys : List ByteArray) (i j : Nat) : nthT (ys.drop i) j = nthT ys (i + j) := by simp [nthT]
theorem erase_zero (ys : List ByteArray) (i : Nat) : (ys.drop i).eraseIdx 0 = ys.drop (i + 1) := by
  rw [eraseIdx_td, List.take_zero, List.nil_append, List.drop_drop]
set_option maxRecDepth 16000 in
set_option maxHeartbeats 16000000 in
theorem law_order {W : World} {a : Option Addr} {n c : Nat} {t : Int} {ys : List ByteArray} (hP : PowTab W) (hu : Rd W (.slice a n c) ys) (hn : n = ys.length) (hy : n ≤ 8796093022208) :
    Calls Tryd.prog 3 #[.agg #[.slice a n c, .int .i64 t]] W fun e w' => e = .returned (.bool true) ∧ Below W.heap.size W w' := by
  obtain ⟨w0, hw0⟩ : ∃ w0, w0 = W.alloc (.cells #[.slice a n c, .int .i64 t] 24) := ⟨_, rfl⟩
  obtain ⟨b0, hb0⟩ : ∃ b0, b0 = W.heap.size := ⟨_, rfl⟩
  have hbW : Below W.heap.size W w0 := by rw [hw0]; exact Below.al (Below.refl _ _) _
  have x0 : w0.cell? ⟨b0, 0, none⟩ = some (.slice a n c) := by rw [hw0, hb0]; exact cell_obj (World.alloc_heap_new _ _) rfl
  have x1 : w0.cell? ⟨b0, 1, none⟩ = some (.int .i64 t) := by rw [hw0, hb0]; exact cell_obj (World.alloc_heap_new _ _) rfl
  have HX : Hid (∀ wz, Below w0.heap.size w0 wz → wz.cell? ⟨b0, 0, none⟩ = some (.slice a n c) ∧ wz.cell? ⟨b0, 1, none⟩ = some (.int .i64 t)) := fun wz hb => ⟨cell_later hb x0, cell_later hb x1⟩
  have HR : Hid (∀ wz, Below w0.heap.size w0 wz → ∀ i, i < n → ∃ g off, a = some ⟨g, off, none⟩ ∧ ∀ j, j < n → wz.cell? ⟨g, off + j, none⟩ = some (.string (nthT ys j))) := fun wz hb i hi => by
    obtain ⟨a2, c2, e, hrd⟩ := (hu.later hbW).later hb
    injection e with e1 _ _
    obtain ⟨g, off, e2, y⟩ := hrd i _ (nthT_get (by omega))
    refine ⟨g, off, e1.trans e2, fun j hj => ?_⟩
    obtain ⟨g', off', e3, y3⟩ := hrd j _ (nthT_get (by omega))
    rw [e2] at e3
    injection e3 with e3
    injection e3 with e4 e5
    subst e4 e5
    exact y3
  have HP := hid (hP.later hbW)
  have HU := hid (hu.later hbW)
  have HN := hid hn
  have HW0 := hid hw0
  have HB0 := hid hb0
  have HBW := hid hbW
  clear hP hu hn hw0 hbW x0 x1 hb0
  go_enter Tryd.func3, Tryd.ntmps3
  go_wp2_with fail
  rw [← HW0.out, ← HB0.out]
  refine (new_is w0).mono ?_
  rintro e w1 ⟨p, rfl, HF1, HB1⟩
  clear HW0
  go_wp2_with fail
  refine (new_is w1).mono ?_
  rintro e w2 ⟨q, rfl, HF2, HB2⟩
  have HA2 : Hid (Fl w2 w0.heap.size p (.slice none 0 0) []) := HF1.out.later HB2.out
  have HQ2 : Hid (Fl w2 w0.heap.size q (.slice none 0 0) []) := HF2.out.base HB1.out.size
  have HPQ : Hid (p ≠ q) := by
    show _ ≠ _
    have h1 := HF1.out.lt
    have h2 := HF2.out.low
    omega
  have HBB : Hid (Below w0.heap.size w0 w2) := Below.on HB1.out HB2.out
  clear HF1 HF2 HB1 HB2
  go_wp2_with fail
  go_loopg [5] n (fun g s5 wr => ∃ i : Nat, i ≤ n ∧ g = n - i ∧ s5 = .int .i64 i ∧ Hid (∃ v', Mv w2 wr w0.heap.size p (.slice none 0 0) v' (ys.take i)))
  case atStart => exact ⟨0, by omega, by omega, rfl, _, by rw [List.take_zero]; exact Mv.refl HA2.out (Below.refl _ _)⟩
  case round =>
    obtain ⟨i, hi, rfl, rfl, HI⟩ := hrel
    obtain ⟨v', hm⟩ := HI
    have HBL : Hid (Below w0.heap.size w0 wr) := HBB.out.trans (hm.below HA2.out HBB.out.size)
    obtain ⟨y0, _⟩ := HX.out wr HBL.out
    by_cases hlt : i < n
    · obtain ⟨g, off, rfl, hc⟩ := HR.out wr HBL.out i hlt
      have c0 := hc i hlt
      have hlt' : i < ys.length := by rw [← HN.out]; exact hlt
      obtain ⟨wz, hwz⟩ : ∃ wz, wz = wr.alloc (.cells #[.string (nthT ys i)] 9) := ⟨_, rfl⟩
      have hbz : Below wr.heap.size wr wz := by rw [hwz]; exact Below.al (Below.refl _ _) _
      have HSE := hid (send_is (u := .slice (some ⟨wr.heap.size, 0, none⟩) 1 1) (hm.fl.later hbz) (by rw [hwz]; exact rd_one wr _) (by rw [List.length_take]; simp; omega) (Nat.le_trans HBL.out.size hbz.size))
      have e3 : ys.take i ++ [nthT ys i] = ys.take (i + 1) := by rw [List.take_add_one, nthT_get hlt']; rfl
      rw [e3] at HSE
      have HM := hid (hm.trans (Mv.refl hm.fl hbz))
      have HWZ := hid hwz
      generalize nthT ys i = tx at c0 HWZ
      clear hc e3 hbz hwz hm
      go_wp2_with fail
      rw [← HWZ.out]
      refine HSE.out.mono ?_
      rintro e w3 ⟨rfl, hmv⟩
      have HM3 : Hid (∃ v', Mv w2 w3 w0.heap.size p (.slice none 0 0) v' (ys.take (i + 1))) := by
        obtain ⟨v3, m3⟩ := hmv
        exact ⟨v3, HM.out.trans m3⟩
      clear hmv HSE HM HWZ
      go_wp2_with fail
      go_roundg (n - (i + 1))
      case measure => omega
      case rel => exact ⟨i + 1, by omega, rfl, by go_num, HM3.out⟩
    · obtain rfl : n = i := by omega
      have hty : ys.take n = ys := by rw [HN.out]; exact List.take_of_length_le (Nat.le_refl _)
      rw [hty] at hm
      have HM := hid hm
      have HQ3 : Hid (Fl wr w0.heap.size q (.slice none 0 0) []) := HQ2.out.onl hm.onl (fun k hk hf => by
        rcases hk with rfl | hk
        · rcases hf with e | e
          · exact HPQ.out e.symm
          · cases e
        · cases hk)
      have HSD := hid (sends_is HP.out HQ3.out HBL.out HU.out HN.out (by simp; omega) (by omega))
      have HPV : Hid (∀ k, ItF p v' k → ¬ ItF q (.slice none 0 0) k) := hm.fl.off HQ3.out HPQ.out (fun j _ e => by cases e)
      clear hlt hi hm hty HA2 HQ2
      go_wp2_with fail
      refine HSD.out.mono ?_
      rintro e w4 ⟨rfl, hmv⟩
      obtain ⟨u4, m4⟩ := hmv
      rw [List.nil_append] at m4
      have HB4 : Hid (Below w0.heap.size w0 w4) := HBL.out.trans (m4.below HQ3.out HBL.out.size)
      have HA4 : Hid (Fl w4 w0.heap.size p v' ys) := HM.out.fl.onl m4.onl (fun k hk hf => HPV.out k hk hf)
      have HAP : Hid (∀ k, ItF p v' k → ¬ ItF q u4 k) := HA4.out.off m4.fl HPQ.out (fun j hj e => by
        rcases m4.new j e with h1 | h1
        · cases h1
        · have h2 := (HM.out.fl.row.lt j hj).2
          omega)
      have HDR := drain_is m4.fl t (by have := HN.out; omega)
      have HDR := hid HDR
      have HM4 := hid m4
      obtain ⟨z0, z1⟩ := HX.out w4 HB4.out
      clear HSD m4 y0
      go_wp2_with fail
      refine HDR.out.mono ?_
      rintro e w5 ⟨l, rfl, HL5, hm5⟩
      obtain ⟨u5, _, m5⟩ := hm5
      have HB5 : Hid (Below w0.heap.size w0 w5) := HB4.out.trans (m5.below HM4.out.fl HB4.out.size)
      have HA5 : Hid (Fl w5 w0.heap.size p v' ys) := HA4.out.onl m5.onl (fun k hk hf => HAP.out k hk hf)
      have HLB := hid (len_is m5.fl)
      have HLA := len_is HA5.out
      rw [← HN.out] at HLA
      have HLA := hid HLA
      obtain ⟨al, cl, hlv, hcl, _⟩ := HL5.out.slice
      have hrl := rot_len ys t
      rw [← HN.out] at hrl
      rw [hrl] at hlv hcl
      subst hlv
      have HLO : Hid (∀ j, (Value.slice al n cl).ownBlock = some j → j < w5.heap.size ∧ ¬ ItF p v' j) := fun j hj => by
        have h1 := HL5.out.lt j hj
        refine ⟨h1.2, fun hk => ?_⟩
        have h2 := (HA4.out.its hk).2
        omega
      obtain ⟨y0, y1⟩ := HX.out w5 HB5.out
      clear HDR m5 z0 z1 HM4 hrl
      go_wp2_with fail
      refine HLB.out.mono ?_
      rintro e w6 ⟨rfl, rfl⟩
      go_wp2_with fail
      refine HLA.out.mono ?_
      rintro e w6 ⟨rfl, rfl⟩
      clear HLA HLB
      obtain ⟨pl, hpl⟩ : ∃ pl, pl = plc t n := ⟨_, rfl⟩
      have HPL := hid hpl
      go_upto_if 67 with fail
      go_cut [8] (fun s8 wx => s8 = .int .i64 (pl : Int) ∧ wx = w6)
      case first =>
        by_cases h0 : n = 0
        · subst h0
          have hz : pl = 0 := by rw [hpl]; rfl
          subst hz
          go_wp2_with fail
          go_meet
          exact ⟨rfl, rfl⟩
        · have hp0 : 0 < n := by omega
          obtain ⟨h1, h2, h3⟩ := plc_is t hp0
          have kw : IntKind.i64.wrap (t.tmod (n : Int)) = t.tmod (n : Int) := by rw [IntKind.wrap_i64]; omega
          have kz : ((n : Int) = 0) = False := eq_false (by omega)
          have kp : (0 : Int) < (n : Int) := by omega
          by_cases hneg : t.tmod (n : Int) < 0
          · have e1 := at_neg hp0 hneg
            rw [← hpl] at e1
            have kw2 : IntKind.i64.wrap (t.tmod (n : Int) + (n : Int)) = (pl : Int) := by rw [e1, IntKind.wrap_i64]; have := plc_lt (t := t) hp0; omega
            have kw3 : wrap64 (t.tmod (n : Int) + (n : Int)) = (pl : Int) := by rw [e1]; unfold wrap64; have := plc_lt (t := t) hp0; omega
            clear h1 h2 h3 e1
            go_wp2_with fail
            go_meet
            exact ⟨by rw [HPL.out], rfl⟩
          · have e1 := at_pos (t := t) hp0 (by omega)
            rw [← hpl] at e1
            have hneg2 : ((pl : Int) < 0) = False := eq_false (by omega)
            rw [e1] at kw hneg
            clear h1 h2 h3
            go_wp2_with fail
            go_meet
            exact ⟨by rw [HPL.out], rfl⟩
      case rest =>
        obtain ⟨rfl, rfl⟩ := hcut
        clear hpl
        go_wp2_with fail
        go_loopg [9] n (fun g s9 wr => ∃ i : Nat, i ≤ n ∧ g = n - i ∧ s9 = .int .i64 i ∧ Hid (∃ v2, Mv wc wr w0.heap.size p v' v2 (ys.drop i)))
        case atStart => exact ⟨0, by omega, by omega, rfl, _, by rw [List.drop_zero]; exact Mv.refl HA5.out (Below.refl _ _)⟩
        case round =>
          obtain ⟨i, hi, rfl, rfl, HI⟩ := hrel
          clear y0 y1
          obtain ⟨v2, m2⟩ := HI
          have HBR : Hid (Below w0.heap.size w0 wr) := HB5.out.trans (m2.below HA5.out HB5.out.size)
          have hdl : (ys.drop i).length = n - i := by rw [List.length_drop, HN.out]
          by_cases hlt : i < n
          · have hlt' : i < ys.length := by rw [← HN.out]; exact hlt
            have hni : (n - 1 - i) < (ys.drop i).length := by rw [hdl]; omega
            have HLK := look_in m2.fl (n - 1 - i) hni
            have HTK := take_in m2.fl 0 (by omega)
            rw [nthT_drop, show i + (n - 1 - i) = n - 1 by omega] at HLK
            rw [nthT_drop, Nat.add_zero, erase_zero] at HTK
            have HLK := hid HLK
            have HTK := hid HTK
            obtain ⟨g, off, rfl, hc⟩ := HR.out wc HB5.out i hlt
            have HCC : Hid (∀ wz v3 zs, Mv wc wz w0.heap.size p v' v3 zs → wz.cell? ⟨b0, 0, none⟩ = some (.slice (some ⟨g, off, none⟩) n c) ∧ (∀ j, j < n → wz.cell? ⟨g, off + j, none⟩ = some (.string (nthT ys j))) ∧ RowF wz 0 (.slice al n cl) (rot ys t)) := fun wz v3 zs m => by
              have hb := HB5.out.trans (m.below HA5.out HB5.out.size)
              obtain ⟨g', off', e, hc'⟩ := HR.out wz hb i hlt
              injection e with e
              injection e with e4 e5
              subst e4 e5
              exact ⟨(HX.out wz hb).1, hc', (HL5.out.base (Nat.zero_le _)).keep fun j hj => m.onl.block j (HLO.out j hj).1 (HLO.out j hj).2⟩
            have HM2 := hid m2
            have k1 : IntKind.i64.wrap ((n : Int) - 1) = ((n - 1 : Nat) : Int) := by rw [IntKind.wrap_i64]; omega
            have k2 : IntKind.i64.wrap (((n - 1 : Nat) : Int) - (i : Int)) = ((n - 1 - i : Nat) : Int) := by rw [IntKind.wrap_i64]; omega
            have hpl2 : pl < n := by rw [HPL.out]; exact plc_lt (by omega)
            have k3 : IntKind.i64.wrap ((pl : Int) + (i : Int)) = ((pl + i : Nat) : Int) := by rw [IntKind.wrap_i64]; omega
            have k4 : (((pl + i : Nat) : Int)).tmod (n : Int) = (((pl + i) % n : Nat) : Int) := by
              rw [Int.tmod_eq_emod_of_nonneg (by omega)]; omega
            have k5 : IntKind.i64.wrap (((pl + i) % n : Nat) : Int) = (((pl + i) % n : Nat) : Int) := by
              have := Nat.mod_lt (pl + i) (show 0 < n by omega)
              rw [IntKind.wrap_i64]; omega
            have k6 : ((n : Int) = 0) = False := eq_false (by omega)
            have k9 : ((n - 1 : Nat) : Int) < (n : Int) := by omega
            have k8 : n - 1 < n := by omega
            have hmod : (pl + i) % n < n := Nat.mod_lt _ (by omega)
            have HRG : Hid (nthT (rot ys t) i = nthT ys ((pl + i) % n)) := by
              have := rot_get (t := t) hlt'
              rw [← HN.out, ← HPL.out] at this
              exact this
            clear m2 hc hdl hni
            generalize hjj : n - 1 - i = jj at k2 HLK
            clear hjj
            generalize hjm : n - 1 = jm at k1 k2 k8 k9 HLK
            go_wp2_with fail
            refine HLK.out.mono ?_
            rintro e w7 ⟨rfl, rfl⟩
            go_wp2_with fail
            refine HTK.out.mono ?_
            rintro e w8 ⟨rfl, hm8⟩
            obtain ⟨v3, m8⟩ := hm8
            have HM8 := hid (HM2.out.trans m8)
            obtain ⟨z0, zc, zl⟩ := HCC.out w8 _ _ HM8.out
            have z1 := zc i hlt
            have z2 := zc jm (by omega)
            have z3 := zc ((pl + i) % n) hmod
            obtain ⟨gl, ol, rfl, z4⟩ : ∃ g off, al = some ⟨g, off, none⟩ ∧ w8.cell? ⟨g, off + i, none⟩ = some (.string (nthT ys ((pl + i) % n))) := by
              rcases zl with ⟨_, e0⟩ | ⟨g2, off2, c3, e, _, hr2⟩
              · have := rot_len ys t; rw [e0] at this; simp at this; omega
              · injection e with e1 _ _
                refine ⟨g2, off2, e1, ?_⟩
                rw [← HRG.out]
                exact hr2.at_ i _ (nthT_get (by rw [rot_len]; exact hlt'))
            generalize (pl + i) % n = md at z3 z4 k4 k5 hmod
            generalize pl + i = sm at k3 k4
            generalize nthT ys md = t3 at z3 z4
            generalize nthT ys jm = t2 at z2
            clear hjm
            generalize nthT ys i = t1 at z1
            clear zc zl m8
            have k11 : ¬ n = 0 := by omega
            have k12 : ((n : Int) == 0) = false := by simpa using k11
            have k10 : (sm : Int) % (n : Int) = (md : Int) := by rw [← k4, Int.tmod_eq_emod_of_nonneg (by omega)]
            have hcl2 : n ≤ cl := hcl
            have hI : (i : Int) < (n : Int) := by omega
            have hM : (md : Int) < (n : Int) := by omega
            go_wp2_with fail
            go_quiet (fail)
            go_wp2_with fail
            go_roundg (n - (i + 1))
            case measure => omega
            case rel => exact ⟨i + 1, by omega, rfl, by go_num, _, HM8.out.trans (Mv.refl HM8.out.fl (Below.drewN (Below.refl _ _) _))⟩
          · obtain rfl : n = i := by omega
            have hd0 : ys.drop n = [] := by rw [HN.out]; exact List.drop_of_length_le (Nat.le_refl _)
            rw [hd0] at m2
            have HTK := hid (take_out m2.fl 0 (.inr (by simp)))
            have HLE := hid (len_is m2.fl)
            clear hlt hi hd0 hdl
            go_wp2_with fail
            refine HTK.out.mono ?_
            rintro e w7 ⟨rfl, rfl⟩
            go_wp2_with fail
            refine HLE.out.mono ?_
            rintro e w7 ⟨rfl, rfl⟩
            go_wp2_with fail
            go_ret
            exact ⟨rfl, HBW.out.trans (HBR.out.mono HBW.out.size)⟩
end Go.Proofs.YtpnbgdbkiokooaaDoor.Fw
