import Derived.Test.YtgplnbdankfobaaGreatDoorQRefT
import Derived.Test.YtgplnbdankfobaaGreatDoorStepCall
import Derived.Test.YtgplnbdankfobaaGreatDoorQFar
/- The document's Hold. -/
namespace Go.Proofs.YtgplnbdankfobaaGreatDoor.Lk
open Go.RowKit Go.Sort
set_option linter.unusedVariables false

/-- the row is gone on with -/
theorem RT.more {B q n c g cap : Nat} {wx w1 w2 : World} {a : Option Addr} {V : List Hv} {u : Hv} (R : RT B wx q a n c V) (hb : Below wx.heap.size wx w1) (hu : u.ok w1) (ht : u.typ w1) (hgrow : w1.grownBy w2 (Value.slice a n c).ownBlock)
    (hown : w2.ownsRow B 32 8 (.slice (some ⟨g, 0, none⟩) (n + 1) cap) (n + 1) (V.flatMap hcs ++ hcs u)) (hat : (Value.slice a n c).ownBlock = some g ∨ g = w1.heap.size) (hB : B ≤ wx.heap.size) :
    RT B (w2.setCell ⟨q, 0, none⟩ (.slice (some ⟨g, 0, none⟩) (n + 1) cap)) q (some ⟨g, 0, none⟩) (n + 1) cap (V ++ [u]) ∧ Onl (RIt q a n c) wx (w2.setCell ⟨q, 0, none⟩ (.slice (some ⟨g, 0, none⟩) (n + 1) cap)) ∧
      ∀ b, RIt q (some ⟨g, 0, none⟩) (n + 1) cap b → RIt q a n c b ∨ wx.heap.size ≤ b := by
  have R1 := R.later hb
  have o1 : Onl (RIt q a n c) w1 w2 := (grown_onl hgrow).mono (fun k hk => .inr hk)
  have hnq : (Value.slice a n c).ownBlock ≠ some q := fun e => by
    obtain ⟨cur, hc⟩ := own_type R1.row.own e
    have := cells_ne hc R1.blk
    revert this; decide
  have bq : w2.heap[q]? = some (.cells #[.slice a n c] 59) := (hgrow.block q R1.lt (fun e => hnq e.symm)).trans R1.blk
  have o2 : Onl (RIt q a n c) w1 (w2.setCell ⟨q, 0, none⟩ (.slice (some ⟨g, 0, none⟩) (n + 1) cap)) := o1.set (.inl rfl) _ _
  have hF := R1.foreign
  refine ⟨⟨heap_setCell_same _ _ _ _ _ _ bq, ⟨?_, by simp [R.row.len], fun v hv => ?_⟩, fun v hv => ?_⟩, (Onl.of_below hb).trans o2, fun b hb' => ?_⟩
  · unfold OwnH
    rw [List.flatMap_append]
    have : (List.flatMap hcs [u]) = hcs u := by simp
    rw [this]
    refine owns_keep hown fun g' hg' => Below.heap_setCell _ _ _ _ ?_
    show g' ≠ q
    rintro rfl
    obtain ⟨cur, hc⟩ := own_type hown hg'
    have := cells_ne hc bq
    revert this; decide
  · rcases List.mem_append.1 hv with hv | hv
    · exact (R1.row.ok v hv).typ_onl (R1.typ v hv) o2 hF
    · simp at hv; subst hv; exact hu.typ_onl ht o2 hF
  · rcases List.mem_append.1 hv with hv | hv
    · exact (R1.typ v hv).onl o2 hF
    · simp at hv; subst hv; exact ht.onl o2 hF
  · rcases hb' with rfl | hb'
    · exact .inl (.inl rfl)
    · simp [Value.ownBlock] at hb'
      subst hb'
      rcases hat with h | h
      · exact .inl (.inr h)
      · right; rw [h]; exact hb.size

theorem lit8 (w : World) (u : Hv) : ∀ j x, (hcs u)[j]? = some x → (w.alloc (.cells #[.int .u32 u.h.id.1, .int .u32 u.h.id.2, .int .u32 u.h.home, .int .u64 u.h.w, .int .u32 u.h.l, .int .u32 u.h.n, .slice u.ra u.h.rs.length u.rc, .slice u.wa u.h.ws.length u.wc] 32)).cell? ((⟨w.heap.size, 0, none⟩ : Addr).add j) = some x := fun j x hj => by
  rw [Addr.add_lit, Nat.zero_add]
  exact cell_of_obj (MapKept.heap_alloc _ _).1 (by simpa using hj)
theorem lit8d (w : World) (u : Hv) : ∀ j x, (hcs u)[j]? = some x → (w.alloc (.cells #[.int .u32 u.h.id.1, .int .u32 u.h.id.2, .int .u32 u.h.home, .int .u64 u.h.w, .int .u32 u.h.l, .int .u32 u.h.n, .slice u.ra u.h.rs.length u.rc, .slice u.wa u.h.ws.length u.wc] 32)).drew.cell? ((⟨w.heap.size, 0, none⟩ : Addr).add j) = some x := lit8 w u
set_option maxRecDepth 8000 in
set_option maxHeartbeats 4000000 in
theorem rholdF_is {B q n c : Nat} {w : World} {a : Option Addr} {V : List Hv} {v : Hv} (T : RT B w q a n c V) (hv : v.ok w) (hB : B ≤ w.heap.size) (hn : n + 1 ≤ 1759218604441) :
    Calls Tryz.prog 8 #[.pointer (some ⟨q, 0, none⟩), .agg #[.int .u32 v.h.id.1, .int .u32 v.h.id.2, .int .u32 v.h.home, .int .u64 v.h.w, .int .u32 v.h.l, .int .u32 v.h.n, .slice v.ra v.h.rs.length v.rc, .slice v.wa v.h.ws.length v.wc]] w fun e w' => e = .returned (.int .i64 (holdC (V.map Hv.h) v.h)) ∧
      ∃ a' n' c' V', Hid (RT B w' q a' n' c' V' ∧ V'.map Hv.h = holdM (V.map Hv.h) v.h ∧ Onl (RIt q a n c) w w' ∧ (∀ b, RIt q a' n' c' b → RIt q a n c b ∨ w.heap.size ≤ b) ∧ ∀ x ∈ V', x ∈ V ∨ x.low w.heap.size) := by
  obtain ⟨C, hC⟩ : ∃ C, C = holdC (V.map Hv.h) v.h := ⟨_, rfl⟩
  rw [← hC]
  obtain ⟨wx, hwx⟩ : ∃ wx, wx = w.alloc (.cells #[.int .u32 v.h.id.1, .int .u32 v.h.id.2, .int .u32 v.h.home, .int .u64 v.h.w, .int .u32 v.h.l, .int .u32 v.h.n, .slice v.ra v.h.rs.length v.rc, .slice v.wa v.h.ws.length v.wc] 32) := ⟨_, rfl⟩
  have HBX : Hid (Below w.heap.size w wx) := by rw [hwx]; exact Below.al (Below.refl _ _) _
  have HK : Hid (∀ o u, (hcs v)[o]? = some u → wx.cell? ⟨w.heap.size, o, none⟩ = some u) := box_cells (by rw [hwx]; exact (MapKept.heap_alloc _ _).1)
  have x0 := HK.out 0 _ rfl
  have x1 := HK.out 1 _ rfl
  have AT := hid (at_is (T.later HBX.out) v.h.id)
  have HT := hid T
  have HV := hid hv
  have HCC := hid hC
  have HN := hid hn
  have HBB := hid hB
  have hrl := hv.rl
  have hwl := hv.wl
  clear T hv hC hn hB
  go_enter Tryz.func8, Tryz.ntmps8
  go_upto_region 1 with fail
  rw [← hwx]
  clear hwx
  go_wp2_with fail
  refine AT.out.mono ?_
  rintro e w1 ⟨k, rfl, HPO, HB1⟩
  have HB01 : Hid (Below w.heap.size w w1) := Below.on HBX.out HB1.out
  clear AT x0 x1
  rcases HPO.out with ⟨rfl, hno⟩ | ⟨j, hj, rfl, hid', hyes⟩
  case inr =>
    obtain ⟨e1, e2⟩ := hold_there hyes
    have hC1 : C = 101 := HCC.out.trans e1
    subst hC1
    have HF : Hid (RT B w1 q a n c V ∧ V.map Hv.h = holdM (V.map Hv.h) v.h ∧ Onl (RIt q a n c) w w1 ∧ (∀ b, RIt q a n c b → RIt q a n c b ∨ w.heap.size ≤ b) ∧ ∀ x ∈ V, x ∈ V ∨ x.low w.heap.size) := ⟨HT.out.later HB01.out, e2.symm, Onl.of_below HB01.out, fun b hb => .inl hb, fun x hx => .inl hx⟩
    have hge : decide ((0 : Int) ≤ (j : Int)) = true := decide_eq_true (by omega)
    clear e1 e2 hyes hid' hj HPO
    go_wp2_with fail
    go_ret
    exact ⟨rfl, _, _, _, _, HF⟩
  case inl =>
    obtain ⟨u, hu⟩ : ∃ u, confl (V.map Hv.h) v.h.id v.h.rs v.h.ws = u := ⟨_, rfl⟩
    have CF := hid (rconf_is (rc := v.rc) (wc := v.wc) hu (HT.out.later HB01.out) ((HV.out.r).later HB01.out) ((HV.out.w).later HB01.out) (by omega) (by omega))
    have y0 := cell_later HB1.out (HK.out 0 _ rfl)
    have y1 := cell_later HB1.out (HK.out 1 _ rfl)
    have y6 := cell_later HB1.out (HK.out 6 _ rfl)
    have y7 := cell_later HB1.out (HK.out 7 _ rfl)
    have hni : v.h.id ∉ (V.map Hv.h).map Hd.id := by simpa [hasB] using hno
    cases u with
    | true =>
      have e1 : holdC (V.map Hv.h) v.h = 100 := by simp only [holdC, if_neg hni, hu, if_true]
      have e2 : holdM (V.map Hv.h) v.h = V.map Hv.h := by simp only [holdM, if_neg hni, hu, if_true]
      have hC1 : C = 100 := HCC.out.trans e1
      subst hC1
      have HE2 := hid e2
      clear e1 e2 hni hu hno HPO
      go_wp2_with fail
      refine CF.out.mono ?_
      rintro e w2 ⟨rfl, hw2⟩
      have HB02 : Hid (Below w.heap.size w w2) := Below.on HB01.out hw2
      have HF : Hid (RT B w2 q a n c V ∧ V.map Hv.h = holdM (V.map Hv.h) v.h ∧ Onl (RIt q a n c) w w2 ∧ (∀ b, RIt q a n c b → RIt q a n c b ∨ w.heap.size ≤ b) ∧ ∀ x ∈ V, x ∈ V ∨ x.low w.heap.size) := ⟨HT.out.later HB02.out, HE2.out.symm, Onl.of_below HB02.out, fun b hb => .inl hb, fun x hx => .inl hx⟩
      clear hw2
      go_wp2_with fail
      go_ret
      exact ⟨rfl, _, _, _, _, HF⟩
    | false =>
      have e1 : holdC (V.map Hv.h) v.h = 0 := by simp only [holdC, if_neg hni, hu, Bool.false_eq_true, if_false]
      have e2 : holdM (V.map Hv.h) v.h = V.map Hv.h ++ [v.h] := by simp only [holdM, if_neg hni, hu, Bool.false_eq_true, if_false]
      have hC1 : C = 0 := HCC.out.trans e1
      subst hC1
      have HE2 := hid e2
      obtain ⟨i0, hi, hz0, hz1, hz2⟩ := info_of infoHd
      clear e1 e2 hni hu hno HPO
      go_wp2_with fail
      refine CF.out.mono ?_
      rintro e w2 ⟨rfl, hw2⟩
      have HB02 : Hid (Below w.heap.size w w2) := Below.on HB01.out hw2
      have HX2 : Hid (Below wx.heap.size wx w2) := Below.on HB1.out hw2
      clear hw2 CF y0 y1 y6 y7
      have z0 := cell_later HX2.out (HK.out 0 _ rfl)
      have z1 := cell_later HX2.out (HK.out 1 _ rfl)
      have z2 := cell_later HX2.out (HK.out 2 _ rfl)
      have z3 := cell_later HX2.out (HK.out 3 _ rfl)
      have z4 := cell_later HX2.out (HK.out 4 _ rfl)
      have z5 := cell_later HX2.out (HK.out 5 _ rfl)
      have z6 := cell_later HX2.out (HK.out 6 _ rfl)
      have z7 := cell_later HX2.out (HK.out 7 _ rfl)
      have T2 := HT.out.later HB02.out
      have c0 := T2.c0
      have fz := T2.loose
      have HT2 := hid T2
      have hlt2 := T2.lt
      have CO : Hid (∀ W, Below w2.heap.size w2 W → Calls Tryz.prog 25 #[.agg #[.int .u32 v.h.id.1, .int .u32 v.h.id.2, .int .u32 v.h.home, .int .u64 v.h.w, .int .u32 v.h.l, .int .u32 v.h.n, .slice v.ra v.h.rs.length v.rc, .slice v.wa v.h.ws.length v.wc]] W fun e w' => ∃ u : Hv, e = .returned (.agg #[.int .u32 u.h.id.1, .int .u32 u.h.id.2, .int .u32 u.h.home, .int .u64 u.h.w, .int .u32 u.h.l, .int .u32 u.h.n, .slice u.ra u.h.rs.length u.rc, .slice u.wa u.h.ws.length u.wc]) ∧ Hid (u.h = v.h) ∧ Hid (u.fresh W.heap.size w') ∧ Hid (u.ok w') ∧ Below W.heap.size W w') := fun W hb => (rcopied_is ((HV.out.later HB02.out).later hb)).mono fun e w' ⟨u, h1, h2, h3, h4, h5⟩ => ⟨u, h1, h2, h3, h4, h5.out⟩
      clear T2
      go_upto_region 7 with fail
      have HOW : Hid (∀ W, Below w2.heap.size w2 W → W.ownsRow B 32 8 (.slice a n c) n (V.flatMap hcs)) := fun W hb => owns_keep HT2.out.row.own fun g hg => hb.block g (HT2.out.row.own.lt g hg).2
      have hGq : (Value.slice a n c).ownBlock ≠ some q := fun e => by
        obtain ⟨cur, hc⟩ := own_type HT2.out.row.own e
        have := cells_ne hc HT2.out.blk
        revert this; decide
      have hGb : ¬ RIt q a n c w.heap.size := fun e => by have := HT.out.its_lt e; omega
      have HN3 : Hid (n + 1 ≤ maxLen) := by have := HN.out; show _ ≤ _; unfold maxLen; omega
      have HN4 : Hid ((n + 1) * 80 ≤ 140737488355328) := by have := HN.out; show _ ≤ _; omega
      have HB2 : Hid (B ≤ w2.heap.size) := Nat.le_trans HBB.out HB02.out.size
      have HFZ := hid fz
      clear fz
      have ENT : Enters Tryz.prog 25 := enters_of Tryz.func25 (by kernel_rfl) rfl
      have CR : Hid (∀ W, Below w2.heap.size w2 W → Calls Tryz.prog 25 #[.agg #[.int .u32 v.h.id.1, .int .u32 v.h.id.2, .int .u32 v.h.home, .int .u64 v.h.w, .int .u32 v.h.l, .int .u32 v.h.n, .slice v.ra v.h.rs.length v.rc, .slice v.wa v.h.ws.length v.wc]] W fun e w' => ∃ x, e = .returned x ∧ ∃ u : Hv, x = .agg #[.int .u32 u.h.id.1, .int .u32 u.h.id.2, .int .u32 u.h.home, .int .u64 u.h.w, .int .u32 u.h.l, .int .u32 u.h.n, .slice u.ra u.h.rs.length u.rc, .slice u.wa u.h.ws.length u.wc] ∧ Hid (u.h = v.h) ∧ Hid (u.fresh W.heap.size w') ∧ Hid (u.ok w') ∧ Below W.heap.size W w') := fun W hb => (CO.out W hb).mono fun e w' ⟨u, h1, h2⟩ => ⟨_, h1, u, rfl, h2⟩
      go_region_law (first
          | (refine step_call (by rfl) 25 _ _ (by rfl) ENT #[.agg #[.int .u32 v.h.id.1, .int .u32 v.h.id.2, .int .u32 v.h.home, .int .u64 v.h.w, .int .u32 v.h.l, .int .u32 v.h.n, .slice v.ra v.h.rs.length v.rc, .slice v.wa v.h.ws.length v.wc]] (by simp [Act.eval]) _ (CR.out _ (by (repeat (first | exact Below.refl _ _ | assumption | refine Below.drew ?_ | refine Below.al ?_ _ | refine Below.setCell ?_ (by first | exact Nat.le_refl _ | (simp; omega) | (simp; done)) _ | refine Below.on ?_ (by assumption))))) ?_; intro xv w3 hxv; obtain ⟨u, hxe, HUH, HUF, HUO, hw3⟩ := hxv; subst hxe; have c03 : w3.cell? ⟨q, 0, none⟩ = some (.slice a n c) := cell_later (show Below w2.heap.size w2 w3 from (by (repeat (first | exact Below.refl _ _ | assumption | refine Below.drew ?_ | refine Below.al ?_ _ | refine Below.setCell ?_ (by first | exact Nat.le_refl _ | (simp; omega) | (simp; done)) _ | refine Below.on ?_ (by assumption))))) c0; have c03a := cell_later (Below.al (Below.refl w3.heap.size w3) (.cells #[.int .u32 u.h.id.1, .int .u32 u.h.id.2, .int .u32 u.h.home, .int .u64 u.h.w, .int .u32 u.h.l, .int .u32 u.h.n, .slice u.ra u.h.rs.length u.rc, .slice u.wa u.h.ws.length u.wc] 32)) c03)
          | (refine step_append_lies _ (by rfl) _ _ 22 (by rfl) B 32 i0 (Hv.val Hv.zero) 8 80 Tryz.underlying22 hi hz0 hz1 hz2 rfl (by decide) (.slice a n c) n (V.flatMap hcs) (by simp [Act.eval]) (HOW.out _ (by (repeat (first | exact Below.refl _ _ | assumption | refine Below.drew ?_ | refine Below.al ?_ _ | refine Below.setCell ?_ (by first | exact Nat.le_refl _ | (simp; omega) | (simp; done)) _ | refine Below.on ?_ (by assumption))))) ⟨w3.heap.size, 0, none⟩ 1 1 (hcs u) (by simp [Act.eval]) rfl (by first | exact lit8 _ u | exact lit8d _ u) (hcs_one u) (by decide) HN3.out HN4.out (Nat.le_trans HB2.out (Below.size (B := w2.heap.size) (by (repeat (first | exact Below.refl _ _ | assumption | refine Below.drew ?_ | refine Below.al ?_ _ | refine Below.setCell ?_ (by first | exact Nat.le_refl _ | (simp; omega) | (simp; done)) _ | refine Below.on ?_ (by assumption)))))) _ rfl ?_; intro g cap w4 hown hgrow hat hlt4; have hO4' : Onl (fun b => (Value.slice a n c).ownBlock = some b) w2 w4 := (Onl.of_below (by (repeat (first | exact Below.refl _ _ | assumption | refine Below.drew ?_ | refine Below.al ?_ _ | refine Below.setCell ?_ (by first | exact Nat.le_refl _ | (simp; omega) | (simp; done)) _ | refine Below.on ?_ (by assumption))))).trans (grown_onl hgrow); have k4 := hO4'.cell hGq c0; have f4 : ∀ o, w4.frozen? ⟨q, o, none⟩ = false := hO4'.loose hGq hlt2 HFZ.out; have HGR := hid hgrow; have HOWN := hid hown; have HAT := hid hat; clear hown hgrow hat))
      all_goals (try go_wp2_with fail)
      all_goals
        have hb23 : Below w2.heap.size w2 w3 := Below.on (Below.drew (Below.refl _ _)) hw3
        have hba : Below w3.heap.size w3 (w3.alloc (.cells #[.int .u32 u.h.id.1, .int .u32 u.h.id.2, .int .u32 u.h.home, .int .u64 u.h.w, .int .u32 u.h.l, .int .u32 u.h.n, .slice u.ra u.h.rs.length u.rc, .slice u.wa u.h.ws.length u.wc] 32)) := Below.al (Below.refl _ _) _
        obtain ⟨m1, m2, m3⟩ := HT2.out.more (Below.on hb23 hba) (HUO.out.later hba) (HUF.out.typ.later hba) HGR.out HOWN.out HAT.out HB2.out
        have HF : Hid (RT B (w4.setCell ⟨q, 0, none⟩ (.slice (some ⟨g, 0, none⟩) (n + 1) cap)) q (some ⟨g, 0, none⟩) (n + 1) cap (V ++ [u]) ∧ (V ++ [u]).map Hv.h = holdM (V.map Hv.h) v.h ∧ Onl (RIt q a n c) w (w4.setCell ⟨q, 0, none⟩ (.slice (some ⟨g, 0, none⟩) (n + 1) cap)) ∧ (∀ b, RIt q (some ⟨g, 0, none⟩) (n + 1) cap b → RIt q a n c b ∨ w.heap.size ≤ b) ∧ ∀ x ∈ V ++ [u], x ∈ V ∨ x.low w.heap.size) := by
          refine ⟨m1, by rw [HE2.out, List.map_append]; simp [HUH.out], (Onl.of_below HB02.out).trans m2, fun b hb => ?_, fun x hx => ?_⟩
          · rcases m3 b hb with h | h
            · exact .inl h
            · exact .inr (Nat.le_trans HB02.out.size h)
          · rcases List.mem_append.1 hx with hx | hx
            · exact .inl hx
            · simp at hx
              subst hx
              exact .inr (HUF.out.lowB HB02.out.size)
        clear m1 m2 m3 hb23 hba
        go_ret
        exact ⟨rfl, _, _, _, _, HF⟩
theorem rhold_is {B q n c : Nat} {w : World} {a : Option Addr} {V : List Hv} {v : Hv} (T : RT B w q a n c V) (hv : v.ok w) (hB : B ≤ w.heap.size) (hn : n + 1 ≤ 1759218604441) :
    Calls Tryz.prog 8 #[.pointer (some ⟨q, 0, none⟩), .agg #[.int .u32 v.h.id.1, .int .u32 v.h.id.2, .int .u32 v.h.home, .int .u64 v.h.w, .int .u32 v.h.l, .int .u32 v.h.n, .slice v.ra v.h.rs.length v.rc, .slice v.wa v.h.ws.length v.wc]] w fun e w' => e = .returned (.int .i64 (holdC (V.map Hv.h) v.h)) ∧
      ∃ a' n' c' V', Hid (RT B w' q a' n' c' V' ∧ V'.map Hv.h = holdM (V.map Hv.h) v.h ∧ Onl (RIt q a n c) w w' ∧ ∀ b, RIt q a' n' c' b → RIt q a n c b ∨ w.heap.size ≤ b) :=
  (rholdF_is T hv hB hn).mono fun e w' ⟨h1, a', n', c', V', h2, h3, h4, h5, _⟩ => ⟨h1, a', n', c', V', h2, h3, h4, h5⟩
end Go.Proofs.YtgplnbdankfobaaGreatDoor.Lk
