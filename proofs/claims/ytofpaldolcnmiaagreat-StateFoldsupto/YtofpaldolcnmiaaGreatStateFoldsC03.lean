import Derived.Test.YtofpaldolcnmiaaGreatStateFoldsC02
import Derived.Test.YtofpaldolcnmiaaGreatStateFoldsC01
set_option linter.unusedVariables false
namespace Go.Proofs.YtofpaldolcnmiaaGreat.Ig
open Go.RowKit Go.Sort Ys
structure Fo (wx w1 wr : World) (p q : Nat) (n : Int) (k : Nat) (s u : Ps) (L : List Rg) (la : Option Addr) (m lc : Nat) : Prop where
  tk : Tk wx wr p n k s L la m lc
  st : Sta w1.heap.size wr q u
  bl : Below w1.heap.size w1 wr
theorem Fo.later {wx w1 w w' : World} {p q : Nat} {n : Int} {k : Nat} {s u : Ps} {L : List Rg} {la : Option Addr} {m lc : Nat} (h : Fo wx w1 w p q n k s u L la m lc) (hb : Below w.heap.size w w') : Fo wx w1 w' p q n k s u L la m lc := ⟨h.tk.later hb, h.st.later hb, Below.on h.bl hb⟩
structure Re (w4 wr : World) (u : Ps) (L : List Rg) (C j : Nat) (ra : Option Addr) (rm rc : Nat) : Prop where
  ow : OwnZ w4.heap.size wr (.slice ra rm rc) rm (imR u :: (L.drop C).take (j - C))
  ln : rm = j - C + 1
  bl : Below w4.heap.size w4 wr
theorem Re.more {w4 wr w' : World} {u : Ps} {L : List Rg} {C j : Nat} {ra : Option Addr} {rm rc : Nat} (h : Re w4 wr u L C j ra rm rc) (hj : C ≤ j) {r : Rg} (hr : L[j]? = some r) {ra' : Option Addr} {rc' : Nat}
    (ho : w'.ownsRow w4.heap.size 40 12 (.slice ra' (rm + 1) rc') (rm + 1) ((imR u :: (L.drop C).take (j - C)).flatMap rcz ++ rcz r)) (hg : wr.grownBy w' (Value.slice ra rm rc).ownBlock) : Re w4 w' u L C (j + 1) ra' (rm + 1) rc' := by
  have e : (L.drop C).take (j + 1 - C) = (L.drop C).take (j - C) ++ [r] := by
    rw [show j + 1 - C = (j - C) + 1 by omega, List.take_add_one, List.getElem?_drop, show C + (j - C) = j by omega, hr]
    rfl
  refine ⟨?_, by have := h.ln; omega, h.bl.trans ((grown_onl hg).below (fun b hb => (h.ow.lt b hb).1) h.bl.size)⟩
  unfold OwnZ
  rw [e, ← List.cons_append, List.flatMap_append]
  simpa using ho
theorem imR_ok (w : World) (u : Ps) : (imR u).ok w := ⟨fun i hi => by simp [imR] at hi, fun i hi => by simp [imR] at hi, by simp [imR], by simp [imR], by simp [imR]⟩
theorem Re.row {w4 wr : World} {u : Ps} {L : List Rg} {C j : Nat} {ra : Option Addr} {rm rc : Nat} (h : Re w4 wr u L C j ra rm rc) (hl : (imR u :: (L.drop C).take (j - C)).length = rm) (hL : ∀ r ∈ L, r.ok w4 ∧ r.rs.length + 1 ≤ 8796093022208 ∧ r.ws.length + 1 ≤ 7036874417766) : RowT wr ra (imR u :: (L.drop C).take (j - C)) := fun i r hr => by
  have hi : i < rm := by rw [← hl]; exact (List.getElem?_eq_some_iff.1 hr).1
  obtain ⟨g, ha, bx⟩ := h.ow.at hr hi
  refine ⟨⟨g, 0, ha, by rw [Nat.zero_add]; exact bx⟩, ?_⟩
  rcases List.mem_cons.1 (List.mem_of_getElem? hr) with e | hm
  · rw [e]
    exact ⟨imR_ok _ u, by simp [imR], by simp [imR]⟩
  · obtain ⟨k1, k2⟩ := hL r (List.mem_of_mem_drop (List.mem_of_mem_take hm))
    exact ⟨k1.later h.bl, k2⟩
set_option maxRecDepth 100000 in
set_option maxHeartbeats 8000000 in
theorem folds_law {w : World} {x : Lx} (hL : RowL w x.la x.ls) (hl : x.ls.length ≤ 92000) (hn : okU 4294967295 x.node) (hct : -9223372036854775808 ≤ x.cut ∧ x.cut ≤ 9223372036854775807) :
    Calls Tryz.prog 4 #[x.val] w fun e w' => e = .returned (.bool true) ∧ Below w.heap.size w w' := by
  obtain ⟨i0, hi, hz0, hz1, hz2⟩ := Go.Proofs.YtofpaldolcnmiaaGreat.info_of infoZ
  obtain ⟨wx, hwx⟩ : ∃ wx, wx = w.alloc (.cells x.cells 25) := ⟨_, rfl⟩
  have hbx : Below w.heap.size w wx := by rw [hwx]; exact Below.al (Below.refl _ _) _
  have kx : wx.heap[w.heap.size]? = some (.cells x.cells 25 (0, 0)) := by rw [hwx]; exact World.alloc_heap_new _ _
  have x0 : wx.cell? ⟨w.heap.size, 0, none⟩ = some (.int .u32 x.node) := Vs.cell_of_obj kx rfl
  have x1 : wx.cell? ⟨w.heap.size, 1, none⟩ = some (.slice x.la x.ls.length x.lc) := Vs.cell_of_obj kx rfl
  have x2 : wx.cell? ⟨w.heap.size, 2, none⟩ = some (.int .i64 x.cut) := Vs.cell_of_obj kx rfl
  have X0 := hid x0
  have X2 := hid x2
  have TK := hid (taken_is (hL.later hbx) hl hn)
  have HBX := hid hbx
  obtain ⟨N, hN⟩ : ∃ N, x.ls.length = N := ⟨_, rfl⟩
  rw [hN] at TK hl x1
  clear hL hbx kx hn hN
  go_enter Tryz.func4, Tryz.ntmps4
  go_wp2_with fail
  rw [← hwx]
  clear hwx
  refine TK.out.mono ?_
  rintro e w1 ⟨la, m, lc, p, rfl, HK, hb1⟩
  obtain ⟨wy, s, L, hwy, hK⟩ := HK.out
  have HK1 := hid hK
  have HWY := hid hwy
  have hm3 : m ≤ 92003 := by have := hK.mb; omega
  have hm0 : 3 ≤ m := hK.mb.1
  have x0 := cell_later hb1 X0.out
  have x2 := cell_later hb1 X2.out
  have HB1 := hid (Below.on HBX.out hb1)
  have HLM := hid hK.ln
  clear TK HK hb1 x1 hwy hK HBX X0 X2
  go_upto_region 5 with fail
  go_cut [29] (fun s29 wz => s29 = .bool (decide (x.cut < 0 ∨ (m : Int) < x.cut)) ∧ wz = w1)
  case first =>
    by_cases h1 : x.cut < 0
    · have d1 : decide (x.cut < 0) = true := decide_eq_true h1
      go_wp2_with fail
      go_meet
      exact ⟨congrArg Value.bool (decide_eq_true (.inl h1)).symm, rfl⟩
    · have d1 : decide (x.cut < 0) = false := decide_eq_false h1
      go_wp2_with fail
      go_meet
      refine ⟨congrArg Value.bool ?_, rfl⟩
      by_cases h2 : (m : Int) < x.cut
      · rw [decide_eq_true (show x.cut < 0 ∨ (m : Int) < x.cut from .inr h2)]; simp [h2]
      · rw [decide_eq_false (show ¬ (x.cut < 0 ∨ (m : Int) < x.cut) by omega)]; simp [h2]
  case rest =>
    obtain ⟨rfl, hw⟩ := hcut
    subst hw
    go_upto_if 29 with fail
    go_cut [5] (fun s5 wz => ∃ C : Nat, C ≤ m ∧ s5 = .int .i64 (C : Int) ∧ wz = wc)
    case first =>
      by_cases h1 : x.cut < 0 ∨ (m : Int) < x.cut
      · have d1 := decide_eq_true h1
        go_wp2_with fail
        go_meet
        exact ⟨m, Nat.le_refl _, rfl, rfl⟩
      · have d1 := decide_eq_false h1
        go_wp2_with fail
        go_meet
        exact ⟨x.cut.toNat, by omega, by congr 1; omega, rfl⟩
    case rest =>
      obtain ⟨C, hC, rfl, hw⟩ := hcut
      subst hw
      clear x2 hct
      obtain ⟨hcap, gl, hgl⟩ := ownz_cap HK1.out.ow (by omega)
      subst hgl
      have HRT : Hid (RowT wc (some ⟨gl, 0, none⟩) L) := hid (ownz_row HK1.out.ow HK1.out.ln HK1.out.ok)
      have hlt : (L.take C).length = C := by rw [List.length_take, HLM.out]; omega
      obtain ⟨u, hu1, hu2, hu3⟩ := HK1.out.tk.fold (j := C) (by rw [HLM.out]; exact hC)
      have OW : Hid (∀ W, Below wc.heap.size wc W → Calls Tryz.prog 15 #[.slice (some ⟨gl, 0, none⟩) C lc] W fun e w' => ∃ (oa : Option Addr) (oc : Nat) (U : List Rg), e = .returned (.slice oa C oc) ∧ Hid (RowS w' oa U ∧ U.length = C ∧ Own (L.take C) U) ∧ Below wc.heap.size wc w') := own_for (c := lc) (HRT.out.take C) hlt (by omega)
      have HU1 := hid hu1
      have HU2 := hid hu2
      have HU3 := hid hu3
      have hC8 : Hid (C ≤ 1048576) := hid (by omega)
      have i1 : (0 : Int) ≤ (C : Int) := by omega
      have i2 : (C : Int) ≤ (lc : Int) := by omega
      clear hlt hu1 hu2 hu3
      go_upto_region 7 with fail
      go_cut [6, 7] (fun s6 s7 wz => ∃ q : Nat, s6 = sp q ∧ s7 = .int .i64 0 ∧ Hid (Fo wy wc wz p q x.node N s u L (some ⟨gl, 0, none⟩) m lc))
      case first =>
        go_region_held3 (fun w' => w'.cell? ⟨w.heap.size, 0, none⟩ = some (.int .u32 x.node) ∧ Below wc.heap.size wc w')
          ((refine (fun (hB : Below wc.heap.size wc _) => ⟨cell_later hB x0, hB⟩) ?_; (repeat (first | with_reducible exact Below.refl _ _ | with_reducible assumption | with_reducible refine Below.drew ?_ | with_reducible refine Below.al ?_ _ | with_reducible refine Below.setCell ?_ (by first | exact Nat.le_refl _ | (simp; omega) | (simp; done)) _ | with_reducible refine Below.on ?_ (by assumption)))))
          (first
            | (go_at_call 15; refine (OW.out _ (by (repeat (first | with_reducible exact Below.refl _ _ | with_reducible assumption | with_reducible refine Below.drew ?_ | with_reducible refine Below.al ?_ _ | with_reducible refine Below.setCell ?_ (by first | exact Nat.le_refl _ | (simp; omega) | (simp; done)) _ | with_reducible refine Below.on ?_ (by assumption))))).mono ?_; rintro e w2 ⟨oa, oc, U, rfl, HU, hb2⟩; have RP := replay_for (n := x.node) (oc := oc) hb2 HU.out hC8.out HU1.out)
            | (go_at_call 14; refine (RP.out _ (by (repeat (first | with_reducible exact Below.refl _ _ | with_reducible assumption | with_reducible refine Below.drew ?_ | with_reducible refine Below.al ?_ _ | with_reducible refine Below.setCell ?_ (by first | exact Nat.le_refl _ | (simp; omega) | (simp; done)) _ | with_reducible refine Below.on ?_ (by assumption))))).mono ?_; rintro e w3 ⟨q, rfl, HT3, hb3⟩))
        all_goals (try go_wp2_with fail)
        all_goals go_meet
        all_goals exact ⟨q, rfl, rfl, hid (Fo.later ⟨HK1.out.later hb3, HT3.out, hb3⟩ (by (repeat (first | with_reducible exact Below.refl _ _ | with_reducible assumption | with_reducible refine Below.drew ?_ | with_reducible refine Below.al ?_ _ | with_reducible refine Below.setCell ?_ (by first | exact Nat.le_refl _ | (simp; omega) | (simp; done)) _ | with_reducible refine Below.on ?_ (by assumption)))))⟩
      case rest =>
        obtain ⟨q, rfl, rfl, HF⟩ := hcut
        clear OW HRT
        have IM := hid (sta_image HF.out.st HU2.out.ok HU2.out.len)
        obtain ⟨S, hS⟩ : ∃ S, ofNats (imgB u) = S := ⟨_, rfl⟩
        have HSZ : Hid (S.size = (imgB u).length) := hid (by rw [← hS]; simp [ofNats, ByteArray.size])
        rw [hS] at IM
        have HS := hid hS
        clear hS
        go_wp2_with fail
        refine IM.out.mono ?_
        rintro e w4 ⟨rfl, hb4⟩
        have HF4 := hid (HF.out.later hb4)
        clear IM hb4 HF
        by_cases hbig : 1048560 < S.size
        · have hbi : (1048560 : Int) < (S.size : Int) := by omega
          have HB4 := hid (Below.on HB1.out HF4.out.bl)
          clear hbig
          go_wp2_with fail
          go_ret
          exact ⟨rfl, HB4.out⟩
        · have hbi : ¬ (1048560 : Int) < (S.size : Int) := by omega
          obtain ⟨t, hf, hq⟩ := HU3.out (by rw [← HSZ.out]; omega)
          have HFo := hid hf
          have HQ := hid hq
          have hSe : S = ofNats (imgB u) := HS.out.symm
          obtain ⟨w5, hw5⟩ : ∃ w5, w5 = w4.alloc (.cells #[.int .i64 5, .int .u64 0, .int .u32 0, .int .u32 0, .int .u32 0, .int .i64 0, .int .u64 0, .int .u32 0, .int .u32 0, .slice none 0 0, .slice none 0 0, .string S] 40) := ⟨_, rfl⟩
          have k5 : w5.heap[w4.heap.size]? = some (.cells #[.int .i64 5, .int .u64 0, .int .u32 0, .int .u32 0, .int .u32 0, .int .i64 0, .int .u64 0, .int .u32 0, .int .u32 0, .slice none 0 0, .slice none 0 0, .string S] 40 (0, 0)) := by rw [hw5]; exact World.alloc_heap_new _ _
          have HR0 : Hid (Re w4 w5 u L C C (some ⟨w4.heap.size, 0, none⟩) 1 1) := hid (by
            refine ⟨?_, by omega, by rw [hw5]; exact Below.al (Below.refl _ _) _⟩
            rw [Nat.sub_self, List.take_zero]
            refine ⟨rfl, .inr ⟨w4.heap.size, 1, _, rfl, Nat.le_refl _, k5, Nat.le_refl _, by decide, rfl, ?_⟩⟩
            rw [hSe]
            rfl)
          clear hbig hf hq HU3 k5 hSe
          go_wp2_with fail
          rw [← hw5]
          clear hw5
          go_loopg [9, 10] (m - C) (fun gg s9 s10 wr => ∃ (j : Nat) (ra : Option Addr) (rm rc : Nat), C ≤ j ∧ j ≤ m ∧ gg = m - j ∧ s10 = .int .i64 j ∧ s9 = .slice ra rm rc ∧ Hid (Re w4 wr u L C j ra rm rc))
          case atStart => exact ⟨C, _, 1, 1, Nat.le_refl _, hC, rfl, rfl, rfl, HR0⟩
          case round =>
            obtain ⟨j, ra, rm, rc, hj, hjm, rfl, rfl, rfl, HR⟩ := hrel
            clear HR0
            by_cases hlt : j < m
            · obtain ⟨r, hr⟩ : ∃ r, L[j]? = some r := ⟨L[j]'(by rw [HLM.out]; exact hlt), by simp⟩
              obtain ⟨g9, e9, bx9⟩ := HF4.out.tk.ow.at hr hlt
              have e8 : gl = g9 := by injection e9 with e9; injection e9
              subst e8
              have bx := bx9.later HR.out.bl
              have b0 := bx.c0; have b1 := bx.c1; have b2 := bx.c2; have b3 := bx.c3; have b4 := bx.c4; have b5 := bx.c5; have b6 := bx.c6; have b7 := bx.c7; have b8 := bx.c8; have b9 := bx.c9; have b10 := bx.c10; have b11 := bx.c11
              obtain ⟨w6, hw6⟩ : ∃ w6, w6 = wr.alloc (.cells #[.int .i64 r.k, .int .u64 r.x, .int .u32 r.c, .int .u32 r.s, .int .u32 r.h, .int .i64 r.oc, .int .u64 r.w, .int .u32 r.l, .int .u32 r.n, .slice r.ra r.rs.length r.rc, .slice r.wa r.ws.length r.wc, .string r.im] 40) := ⟨_, rfl⟩
              have hb6 : Below wr.heap.size wr w6 := by rw [hw6]; exact Below.al (Below.refl _ _) _
              have blk6 : w6.heap[wr.heap.size]? = some (.cells (rcz r).toArray 40 (0, 0)) := by rw [hw6]; exact World.alloc_heap_new _ _
              have HCL : Hid (∀ j y, (rcz r)[j]? = some y → w6.cell? ((⟨wr.heap.size, 0, none⟩ : Addr).add j) = some y) := hid fun j y hj => by
                rw [Addr.add_lit, Nat.zero_add]
                exact Vs.cell_of_obj blk6 (by simpa using hj)
              have hB6 := Below.on HR.out.bl hb6
              have hs6 : w4.heap.size ≤ w6.heap.size := hB6.size
              have HR6 : Hid (Re w4 w6 u L C j ra rm rc) := hid ⟨HR.out.ow.later hb6, HR.out.ln, hB6⟩
              have HO6 : Hid (w6.ownsRow w4.heap.size 40 12 (.slice ra rm rc) rm ((imR u :: (L.drop C).take (j - C)).flatMap rcz)) := hid HR6.out.ow
              have hrm : rm + 1 ≤ 1048576 := by have := HR.out.ln; omega
              have HRR := hid hr
              clear hb6 blk6 hB6 bx bx9 e9 hr HR
              go_wp2_with (at_builtin; refine wpList_append_own _ rfl _ _ 23 rfl w4.heap.size 40 i0 Rg.zero.val 12 120 Tryz.underlying23 hi hz0 hz1 hz2 rfl (by decide) (.slice ra rm rc) rm ((imR u :: (L.drop C).take (j - C)).flatMap rcz) rfl (by rw [← hw6]; exact HO6.out) ⟨wr.heap.size, 0, none⟩ 1 1 (rcz r) rfl rfl (by rw [← hw6]; exact HCL.out) (rcz_one r) (by unfold maxLen; omega) (by omega) (by rw [← hw6]; exact hs6) ?_)
              intro v2 w7 hown hgrow hnil
              rw [← hw6] at hgrow
              obtain ⟨ra', rc', rfl⟩ := owns_slice hown
              have HR7 := hid (HR6.out.more hj HRR.out hown hgrow)
              clear hown hgrow hnil HO6 HCL hw6 hs6 HR6 b0 b1 b2 b3 b4 b5 b6 b7 b8 b9 b10 b11
              go_wp2_with fail
              go_roundg (m - (j + 1))
              case measure => omega
              case rel => exact ⟨j + 1, ra', rm + 1, rc', by omega, by omega, rfl, by go_num, rfl, HR7⟩
            · obtain rfl : j = m := by omega
              have hbw := Below.on HF4.out.bl HR.out.bl
              have y0 := cell_later hbw x0
              have hle : (L.drop C).take (j - C) = L.drop C := List.take_of_length_le (by rw [List.length_drop, HLM.out]; exact Nat.le_refl _)
              have hlen : (imR u :: L.drop C).length = rm := by rw [List.length_cons, List.length_drop, HLM.out, HR.out.ln]
              have hrow : RowT wr ra (imR u :: L.drop C) := by
                have h9 := HR.out.row (by rw [hle]; exact hlen) (fun r hr => by have k := HF4.out.tk.ok r hr; exact ⟨k.ok, k.rl, k.wl⟩)
                rw [hle] at h9
                exact h9
              have hrm : rm ≤ 1048576 := by have := HR.out.ln; omega
              have HRM := hid hrm
              have OW : Hid (∀ W, Below wr.heap.size wr W → Calls Tryz.prog 15 #[.slice ra rm rc] W fun e w' => ∃ (oa : Option Addr) (oc : Nat) (U : List Rg), e = .returned (.slice oa rm oc) ∧ Hid (RowS w' oa U ∧ U.length = rm ∧ Own (imR u :: L.drop C) U) ∧ Below wr.heap.size wr w') := own_for (c := rc) hrow hlen hrm
              have HTW : Hid (Tk wy wr p x.node N s L (some ⟨gl, 0, none⟩) j lc) := hid (HF4.out.tk.later HR.out.bl)
              have HBW := hid (Below.on HB1.out hbw)
              clear hle hlen hrow hbw hrm
              go_upto_region 18 with fail
              go_cut [11, 12] (fun s11 s12 wz => ∃ q2 : Nat, s11 = sp q2 ∧ s12 = .int .i64 0 ∧ Hid (Sta wr.heap.size wz q2 t ∧ Below wr.heap.size wr wz))
              case first =>
                go_region_held3 (fun w' => w'.cell? ⟨w.heap.size, 0, none⟩ = some (.int .u32 x.node) ∧ Below wr.heap.size wr w')
                  ((refine (fun (hB : Below wr.heap.size wr _) => ⟨cell_later hB y0, hB⟩) ?_; (repeat (first | with_reducible exact Below.refl _ _ | with_reducible assumption | with_reducible refine Below.drew ?_ | with_reducible refine Below.al ?_ _ | with_reducible refine Below.setCell ?_ (by first | exact Nat.le_refl _ | (simp; omega) | (simp; done)) _ | with_reducible refine Below.on ?_ (by assumption)))))
                  (first
                    | (go_at_call 15; refine (OW.out _ (by (repeat (first | with_reducible exact Below.refl _ _ | with_reducible assumption | with_reducible refine Below.drew ?_ | with_reducible refine Below.al ?_ _ | with_reducible refine Below.setCell ?_ (by first | exact Nat.le_refl _ | (simp; omega) | (simp; done)) _ | with_reducible refine Below.on ?_ (by assumption))))).mono ?_; rintro e w2 ⟨oa, oc, U, rfl, HU, hb2⟩; have RP := replay_for (n := x.node) (oc := oc) hb2 HU.out HRM.out HFo.out)
                    | (go_at_call 14; refine (RP.out _ (by (repeat (first | with_reducible exact Below.refl _ _ | with_reducible assumption | with_reducible refine Below.drew ?_ | with_reducible refine Below.al ?_ _ | with_reducible refine Below.setCell ?_ (by first | exact Nat.le_refl _ | (simp; omega) | (simp; done)) _ | with_reducible refine Below.on ?_ (by assumption))))).mono ?_; rintro e w3 ⟨q2, rfl, HT3, hb3⟩))
                all_goals (try go_wp2_with fail)
                all_goals go_meet
                all_goals exact ⟨q2, rfl, rfl, hid ⟨HT3.out.later (by (repeat (first | with_reducible exact Below.refl _ _ | with_reducible assumption | with_reducible refine Below.drew ?_ | with_reducible refine Below.al ?_ _ | with_reducible refine Below.setCell ?_ (by first | exact Nat.le_refl _ | (simp; omega) | (simp; done)) _ | with_reducible refine Below.on ?_ (by assumption)))), by (repeat (first | with_reducible exact Below.refl _ _ | with_reducible assumption | with_reducible refine Below.drew ?_ | with_reducible refine Below.al ?_ _ | with_reducible refine Below.setCell ?_ (by first | exact Nat.le_refl _ | (simp; omega) | (simp; done)) _ | with_reducible refine Below.on ?_ (by assumption)))⟩⟩
              case rest =>
                obtain ⟨q2, rfl, rfl, HZ⟩ := hcut
                clear OW
                have hk9 : N ≤ 93000 := by omega
                have IM1 := hid (sta_image HZ.out.1 (HQ.out.imOk (HTW.out.run.imOk hk9)) (by rw [HQ.out.img]; exact HTW.out.run.len hk9))
                obtain ⟨S2, hS2⟩ : ∃ S2, ofNats (imgB s) = S2 := ⟨_, rfl⟩
                have sb := beq_self S2
                rw [HQ.out.img, hS2] at IM1
                have HS2 := hid hS2
                clear hS2
                go_wp2_with fail
                refine IM1.out.mono ?_
                rintro e w8 ⟨rfl, hb8⟩
                have hB8 := Below.on HZ.out.2 hb8
                have IM2 := hid ((HTW.out.later hB8).image hk9)
                rw [HS2.out] at IM2
                have HB8 := hid (Below.on HBW.out hB8)
                clear hb8 hB8 IM1
                go_wp2_with fail
                refine IM2.out.mono ?_
                rintro e w9 ⟨rfl, hb9⟩
                have HB9 := hid (Below.on HB8.out hb9)
                clear hb9 IM2
                go_wp2_with fail
                go_ret
                exact ⟨rfl, HB9.out⟩
end Go.Proofs.YtofpaldolcnmiaaGreat.Ig
namespace Go.Proofs.YtofpaldolcnmiaaGreat
open Go.ChangeShapes Go.WideShapes Go.ChangeAt Go.RowKit Go.Deep Ig
set_option maxRecDepth 100000 in
theorem opened_stateFolds {H : Type} {enc : TypeId × Value → H} {W : World} {r : Reach} {b : Nat} {v : Value} {d : DataW H} {p : List MemPlace}
    (hv : Value.okWide Tryz.prog W r b 25 v) (h : DataW.Trod enc Tryz.prog W 0 (fun _ => true) true 25 v d p) (hk : Rows.uptoBulk d ≤ 1048576) :
    Calls Tryz.prog 4 #[v] W fun e w' => e = .returned (.bool true) ∧ Below W.heap.size W w' := by
  obtain ⟨x, rfl, h1, h2, h3, h4⟩ := open_log hv h hk
  exact folds_law h1 h2 h3 h4
end Go.Proofs.YtofpaldolcnmiaaGreat
