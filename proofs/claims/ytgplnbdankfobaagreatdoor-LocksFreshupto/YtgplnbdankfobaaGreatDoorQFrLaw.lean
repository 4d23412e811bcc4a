import Derived.Test.YtgplnbdankfobaaGreatDoorQFrT
import Derived.Test.YtgplnbdankfobaaGreatDoorQLists
import Derived.Lib.QuietBelow
import Derived.BigQuiet
import Derived.Deep.RegionWith
/- LocksFresh: the walk. -/
namespace Go.Proofs.YtgplnbdankfobaaGreatDoor.Lk
open Go.RowKit Go.Sort Go.Lib
set_option linter.unusedVariables false

theorem rm_okF {w0 w1 : World} {v : Hv} {g1 g2 : Nat} (hv : v.ok w0) (h1 : Rm2 w1 g1 v.h.rs) (h2 : RmW w1 g2 v.h.ws) : (v.roomy g1 g2).ok w1 := by
  obtain ⟨f, a1, a2, _⟩ := h1
  obtain ⟨g, b1, b2, _⟩ := h2
  refine ⟨fun i hi => ⟨g1, 0, rfl, ?_, ?_⟩, fun i hi => ⟨g2, 0, rfl, ?_, ?_, ?_⟩, hv.rl, hv.wl⟩
  · have hi' : i < v.h.rs.length := hi
    rw [Nat.zero_add, (a1 i (by omega)).1, a2 i hi']; rfl
  · have hi' : i < v.h.rs.length := hi
    rw [Nat.zero_add, (a1 i (by omega)).2, a2 i hi']; rfl
  · have hi' : i < v.h.ws.length := hi
    rw [Nat.zero_add, (b1 i (by omega)).1, b2 i hi']; rfl
  · have hi' : i < v.h.ws.length := hi
    rw [Nat.zero_add, (b1 i (by omega)).2.1, b2 i hi']; rfl
  · have hi' : i < v.h.ws.length := hi
    rw [Nat.zero_add, (b1 i (by omega)).2.2, b2 i hi']; rfl

/-- mark, at a list made on the spot -/
theorem mark_fr {W0 w wy : World} {B C : Nat} {us : List Hv} {z : Int} (ht : PowTab W0) (hW : Below W0.heap.size W0 w) (hB0 : W0.heap.size ≤ B) (hB : B ≤ w.heap.size) (hu : ∀ u ∈ us, u.fresh B w ∧ ∀ b, u.has b → b < C) (hf : us.Pairwise Hv.far) (hl : us.length ≤ 1048576) (hs : ∀ u ∈ us, u.h.rs.length ≤ 1073741824 ∧ u.h.ws.length ≤ 1073741824) (hz : 0 ≤ z ∧ z ≤ 4611686018427387904) (hb : Below (w.alloc (.cells (us.flatMap hcs).toArray 32)).heap.size (w.alloc (.cells (us.flatMap hcs).toArray 32)) wy) :
    Calls Tryz.prog 11 #[.slice (some ⟨w.heap.size, 0, none⟩) us.length us.length, .int .i64 z] wy fun e w' => e = .returned (.bool true) ∧ Hid (Onl (fun b => B ≤ b ∧ b < C) w w') := by
  have g := (gv_row (B := B) (w := w) (us := us) hB (fun u hu' => (hu u hu').1) hf hl).later hb
  have hal : Below w.heap.size w (w.alloc (.cells (us.flatMap hcs).toArray 32)) := Below.al (Below.refl _ _) _
  refine (markG_is ht (Below.on hW (Below.on hal hb)) hB0 (Nat.le_trans hB (Nat.le_trans hal.size hb.size)) g hs (by omega) hz).mono ?_
  rintro e w' ⟨rfl, ho⟩
  refine ⟨rfl, hid (Onl.fresh (Onl.of_below (Below.on hal hb)) ho.out fun b hb' => ?_)⟩
  rcases hb' with h1 | ⟨u, hu', h1⟩
  · right
    obtain ⟨ad, e, rfl⟩ := slice_own h1
    injection e with e
    rw [← e]
    exact Nat.le_refl _
  · exact .inl ⟨((hu u hu').1.has h1).1, (hu u hu').2 b h1⟩

/-- a store into a row of ids -/
theorem txn_put {w : World} {B n : Nat} {la : Option Addr} {lc : Nat} {hs : List Value} (h : w.ownsRow B 25 2 (.slice la n lc) n hs) {q : Nat} (hq : q < n) :
    ∃ g, la = some ⟨g, 0, none⟩ ∧ (∃ u, w.cell? ⟨g, q * 2, none⟩ = some u) ∧ (∃ u, w.cell? ⟨g, q * 2 + 1, none⟩ = some u) ∧ (∀ o, w.frozen? ⟨g, o, none⟩ = false) ∧
      Hid (∀ x y : Value, (∃ hs', ((w.setCell ⟨g, q * 2, none⟩ x).setCell ⟨g, q * 2 + 1, none⟩ y).ownsRow B 25 2 (.slice la n lc) n hs') ∧ Onl (fun b => (Value.slice la n lc).ownBlock = some b) w ((w.setCell ⟨g, q * 2, none⟩ x).setCell ⟨g, q * 2 + 1, none⟩ y)) := by
  have hl : hs.length = n * 2 := h.1
  obtain ⟨g, rfl, _, hc⟩ := own_cells h (by omega)
  refine ⟨g, rfl, ⟨_, hc _ _ (List.getElem?_eq_getElem (by omega))⟩, ⟨_, hc _ _ (List.getElem?_eq_getElem (by omega))⟩, own_loose h, hid fun x y => ?_⟩
  have h0 := World.ownsRow.stored h (q * 2) x
  have h1 := World.ownsRow.stored h0.1 (q * 2 + 1) y
  refine ⟨⟨_, h1.1⟩, ?_⟩
  have := (grown_onl h0.2).trans (grown_onl h1.2)
  exact this.mono fun k hk => by simpa [Value.ownBlock] using hk
theorem rowI_keep {F : Nat → Prop} {w w' : World} {B m c : Nat} {a : Option Addr} {D : List Ix} (h : OwnI B w (.slice a m c) m D) (hl : D.length = m) (ho : Onl F w w') (hF : ∀ b, F b → b < B) : RowI w' a D :=
  rowI_own (owns_keep h fun g hg => ho.block g (World.ownsRow.lt h g hg).2 (fun e => by have h1 := hF g e; have h2 := (World.ownsRow.lt h g hg).1; omega)) hl
theorem rowI_on {w w' : World} {a : Option Addr} {D : List Ix} (h : RowI w a D) (hb : Below w.heap.size w w') : RowI w' a D := fun i hi => by
  obtain ⟨b, off, e, hc⟩ := h i hi
  exact ⟨b, off, e, fun o v ho => cell_later hb (hc o v ho)⟩

set_option maxRecDepth 100000 in
set_option maxHeartbeats 16000000 in
theorem law_fresh {W : World} {a0 : Option Addr} {c0 : Nat} {L : List Hv} {v0 : Hv} {s : T2} {tw tl tn : Int} (h : RowL W a0 L) (hok : ∀ x ∈ L, x.ok W) (hl : L.length ≤ 1048576) (hsz : ∀ x ∈ L, x.h.rs.length ≤ 1048576 ∧ x.h.ws.length ≤ 1048576) (hsum : (L.map fun x => x.h.ws.length).sum ≤ 1048576) (ht : PowTab W) :
    Calls Tryz.prog 3 #[.agg (scs a0 c0 L v0 s tw tl tn).toArray] W fun e w' => e = .returned (.bool true) ∧ Below W.heap.size W w' := by
  obtain ⟨wx, hwx⟩ : ∃ wx, wx = W.alloc (.cells (scs a0 c0 L v0 s tw tl tn).toArray 36) := ⟨_, rfl⟩
  have HBX : Hid (Below W.heap.size W wx) := by rw [hwx]; exact Below.al (Below.refl _ _) _
  have hsx : wx.heap.size = W.heap.size + 1 := by rw [hwx]; simp
  have hx : ∀ o u, (scs a0 c0 L v0 s tw tl tn)[o]? = some u → wx.cell? ⟨W.heap.size, o, none⟩ = some u := fun o u ho => cell_of_obj (by rw [hwx]; exact (MapKept.heap_alloc _ _).1) (by simpa using ho)
  have HX := hid hx
  have HSX := hid hsx
  have HRL := hid h
  have HOK := hid hok
  have HSZ := hid hsz
  have HSM := hid hsum
  have HT := hid ht
  clear h hok hsz hsum ht hx hsx
  go_enter Tryz.func3, Tryz.ntmps3
  go_upto_region 1 with fail
  rw [← hwx]
  clear hwx
  go_wp2_with fail
  refine (new_is wx).mono ?_
  rintro e w1 ⟨rfl, hT1, hb1⟩
  have HT1 := hid hT1
  have HB1 := hid hb1
  clear hT1 hb1
  go_wp2_with fail
  refine (rnew_is w1).mono ?_
  rintro e w2 ⟨rfl, HR2, HB2⟩
  obtain ⟨p, hp⟩ : ∃ p, p = wx.heap.size := ⟨_, rfl⟩
  obtain ⟨B, hB⟩ : ∃ B, B = w1.heap.size := ⟨_, rfl⟩
  rw [← hp] at HT1 ⊢
  rw [← hB] at HR2 ⊢
  have HPX := hid hp
  have HBB : Hid (wx.heap.size ≤ B) := hid (by rw [hB]; exact HB1.out.size)
  have HBL : Hid (B ≤ w2.heap.size) := hid (by rw [hB]; exact HB2.out.size)
  have HWX : Hid (Below wx.heap.size wx w2) := hid (Below.on HB1.out HB2.out)
  have HFS : Hid (Fs B w2 p none none [] [] B none 0 0 [] none 0 0 []) := hid ⟨⟨HT1.out.later HB2.out, HR2.out, rfl, fun v hv => by simp at hv⟩, ⟨⟨rfl, .inl ⟨rfl, rfl⟩⟩, rfl, fun u hu => by simp at hu, List.Pairwise.nil⟩, fun b hb => by
    rcases hb with hb | ⟨u, hu, _⟩
    · cases hb
    · simp at hu⟩
  have HLB0 : Hid (∀ b, PB p none none [] B none 0 0 [] b → wx.heap.size ≤ b) := hid fun b hb => by
    rcases hb with (rfl | hb | hb) | (rfl | hb) | ⟨v, hv | hv, _⟩
    · exact Nat.le_of_eq HPX.out.symm
    · cases hb
    · cases hb
    · exact HBB.out
    · cases hb
    · simp at hv
    · simp at hv
  clear hp hB HT1 HB1 HR2 HB2
  go_wp2_with fail
  go_loopg [5, 6] L.length (fun gm s5 s6 wr => ∃ (i : Nat) (m1 m2 : Option Nat) (V : List Hv) (I : It) (a : Option Addr) (n c : Nat) (R : List Hv) (ga : Option Addr) (gc : Nat) (G : List Hv), i ≤ L.length ∧ gm = L.length - i ∧ s6 = .int .i64 i ∧ s5 = .slice ga i gc ∧ Hid (Fs B wr p m1 m2 V I B a n c R ga i gc G) ∧ Hid (G.map Hv.h = (L.take i).map Hv.h) ∧ Hid (V.map Hv.h = setM (L.take i)) ∧ Hid (Below wx.heap.size wx wr) ∧ Hid (B ≤ wr.heap.size) ∧ Hid (∀ b, PB p m1 m2 V B a n c R b → wx.heap.size ≤ b))
  case atStart => exact ⟨0, none, none, [], [], none, 0, 0, [], none, 0, [], by omega, by omega, rfl, rfl, HFS, hid rfl, hid rfl, HWX, HBL, HLB0⟩
  case round =>
    obtain ⟨i, m1, m2, V, I, a, n, c, R, ga, gc, G, hi, rfl, rfl, rfl, HF, HG, HV, HW, HBR, HLB⟩ := hrel
    clear HFS HWX HBL HLB0
    have y0 := cell_later HW.out (HX.out 0 _ rfl)
    by_cases hlt : i < L.length
    · have hI : (i : Int) < (L.length : Int) := by omega
      obtain ⟨lb, lo, rfl, hc⟩ := rowL_at HRL.out (Below.on HBX.out HW.out) hlt
      obtain ⟨v, hv⟩ : ∃ v, v = nthH L i := ⟨_, rfl⟩
      have HVM : Hid (v ∈ L) := hid (by rw [hv]; exact nthH_mem hlt)
      have HVE := hid hv
      rw [← hv] at hc
      have c0' := hc 0 _ rfl
      have c1' := hc 1 _ rfl
      have c2' := hc 2 _ rfl
      have c3' := hc 3 _ rfl
      have c4' := hc 4 _ rfl
      have c5' := hc 5 _ rfl
      have c6' := hc 6 _ rfl
      have c7' := hc 7 _ rfl
      rw [Nat.add_zero] at c0'
      have CO := hid (copied_is ((HOK.out v HVM.out).later (Below.on HBX.out HW.out)))
      simp only [Hv.val, Hv.roomy] at CO
      clear hc hv
      go_wp2_with fail
      refine CO.out.mono ?_
      rintro e w3 ⟨g1, g2, rfl, R1, R2⟩
      obtain ⟨w4, hw4⟩ : ∃ w4, w4 = w3.alloc (.cells #[.int .u32 v.h.id.1, .int .u32 v.h.id.2, .int .u32 v.h.home, .int .u64 v.h.w, .int .u32 v.h.l, .int .u32 v.h.n, .slice (some ⟨g1, 0, none⟩) v.h.rs.length (v.h.rs.length + 1), .slice (some ⟨g2, 0, none⟩) v.h.ws.length (v.h.ws.length + 1)] 32) := ⟨_, rfl⟩
      obtain ⟨zb, hzb⟩ : ∃ zb, zb = w3.heap.size := ⟨_, rfl⟩
      have hb34 : Below w3.heap.size w3 w4 := by rw [hw4]; exact Below.al (Below.refl _ _) _
      have hz : ∀ o u, (hcs (v.roomy g1 g2))[o]? = some u → w4.cell? ⟨zb, o, none⟩ = some u := fun o u ho => cell_of_obj (by rw [hw4, hzb]; exact (MapKept.heap_alloc _ _).1) (by simpa [Hv.roomy] using ho)
      have HB4 : Hid (Below wr.heap.size wr w4) := hid (Below.on R2.bl hb34)
      have HZL : Hid (wr.heap.size ≤ zb) := hid (by rw [hzb]; exact R2.bl.size)
      have HOV := hid (HOK.out v HVM.out)
      have HU4 : Hid ((v.roomy g1 g2).fresh wr.heap.size w4) := hid ((roomy_fresh ⟨HOV.out.rl, HOV.out.wl⟩ R1 R2).later hb34)
      have HM4 : Hid (Rm2 w4 g1 v.h.rs ∧ wr.heap.size ≤ g1) := hid (by obtain ⟨f, h1, h2, h3⟩ := R1.cells; exact ⟨⟨f, h1.later hb34, h2, h3⟩, R1.low⟩)
      have HN4 : Hid (RmW w4 g2 v.h.ws ∧ wr.heap.size ≤ g2) := hid (by obtain ⟨f, h1, h2, h3⟩ := R2.cells; exact ⟨⟨f, h1.later hb34, h2, h3⟩, R2.low⟩)
      have HUO := hid (rm_okF HOV.out HM4.out.1 HN4.out.1)
      have HZ4 := hid hz
      have F4 := hid (HF.out.later HB4.out)
      obtain ⟨C, hC⟩ : ∃ C, holdC (V.map Hv.h) v.h = C := ⟨_, rfl⟩
      have HD := hid (hold_is F4.out.pr.tb HUO.out)
      simp only [Hv.val, Hv.roomy] at HD
      rw [hC] at HD
      have HC := hid hC
      have HWX4 := hid (Below.on HW.out HB4.out)
      clear hz hb34 CO R1 R2 hC c0' c1' c2' c3' c4' c5' c6' c7' y0
      go_upto_region 10 with fail
      rw [← hw4, ← hzb]
      clear hw4 hzb
      have z0 := HZ4.out 0 _ rfl
      have z1 := HZ4.out 1 _ rfl
      have z2 := HZ4.out 2 _ rfl
      have z3 := HZ4.out 3 _ rfl
      have z4 := HZ4.out 4 _ rfl
      have z5 := HZ4.out 5 _ rfl
      have z6 := HZ4.out 6 _ rfl
      have z7 := HZ4.out 7 _ rfl
      simp only [Hv.roomy] at z0 z1 z2 z3 z4 z5 z6 z7
      go_wp2_with fail
      refine HD.out.mono ?_
      rintro e w5 ⟨rfl, m1', m2', V', I', hT5, hE5, ho5, hi5, hf5⟩
      have HNI : Hid (∀ b, wr.heap.size ≤ b → ¬ Its p m1 m2 b ∧ ¬ RIt B a n c b) := hid fun b hb => ⟨fun hI => by have := HF.out.pr.lt (.inl hI); omega, fun hI => by have := HF.out.pr.lt (.inr (.inl hI)); omega⟩
      have HWX5 : Hid (Below wx.heap.size wx w5) := hid (HWX4.out.trans (ho5.below (B := wx.heap.size) (fun b hb => HLB.out b (.inl hb)) HWX4.out.size))
      have hR5 := F4.out.pr.rt.prog F4.out.pr.tb ho5
      have hv5 : v.ok w5 := HOV.out.later (Below.on HBX.out HWX5.out)
      have hnn : n + 1 ≤ 1759218604441 := by
        have h1 := HF.out.pr.rt.row.len
        have h2 := congrArg List.length HF.out.pr.eq
        have h3 := congrArg List.length HV.out
        have h4 := setM_le i (L.take i) (by rw [List.length_take]; omega)
        simp only [List.length_map] at h2 h3
        omega
      have RH := hid (rholdF_is hR5 hv5 (Nat.le_trans HBR.out (Nat.le_trans HB4.out.size ho5.size)) hnn)
      rw [← HF.out.pr.eq, HC.out, HF.out.pr.eq] at RH
      have HZ5 : Hid (∀ o u, (hcs (v.roomy g1 g2))[o]? = some u → w5.cell? ⟨zb, o, none⟩ = some u) := hid fun o u ho => ho5.cell (HNI.out zb HZL.out).1 (HZ4.out o u ho)
      obtain ⟨lb', lo', ea, hc⟩ := rowL_at HRL.out (Below.on HBX.out HWX5.out) hlt
      injection ea with ea; injection ea with ea1 ea2
      subst ea1 ea2
      rw [← HVE.out] at hc
      have c0' := hc 0 _ rfl
      have c1' := hc 1 _ rfl
      have c2' := hc 2 _ rfl
      have c3' := hc 3 _ rfl
      have c4' := hc 4 _ rfl
      have c5' := hc 5 _ rfl
      have c6' := hc 6 _ rfl
      have c7' := hc 7 _ rfl
      rw [Nat.add_zero] at c0'
      have y0 := cell_later HWX5.out (HX.out 0 _ rfl)
      have HT5 := hid hT5; have HE5 := hid hE5; have HO5 := hid ho5; have HI5 := hid hi5; have HF5 := hid hf5
      clear hc hT5 hE5 ho5 hi5 hf5 hR5 hv5 hnn HD z0 z1 z2 z3 z4 z5 z6 z7
      go_wp2_with fail
      refine RH.out.mono ?_
      rintro e w6 ⟨rfl, a', n', c', R', H6⟩
      have ho6 := H6.out.2.2.1
      have HWX6 : Hid (Below wx.heap.size wx w6) := hid (HWX5.out.trans (ho6.below (B := wx.heap.size) (fun b hb => HLB.out b (.inr (.inl hb))) HWX5.out.size))
      have HZ6 : Hid (∀ o u, (hcs (v.roomy g1 g2))[o]? = some u → w6.cell? ⟨zb, o, none⟩ = some u) := hid fun o u ho => ho6.cell (HNI.out zb HZL.out).2 (HZ5.out o u ho)
      have HM6 : Hid (Rm2 w6 g1 v.h.rs) := hid (by
        obtain ⟨f, h1, h2, h3⟩ := HM4.out.1
        exact ⟨f, (h1.onl HO5.out (HNI.out g1 HM4.out.2).1).onl ho6 (HNI.out g1 HM4.out.2).2, h2, h3⟩)
      have HN6 : Hid (RmW w6 g2 v.h.ws) := hid (by
        obtain ⟨f, h1, h2, h3⟩ := HN4.out.1
        exact ⟨f, (h1.onl HO5.out (HNI.out g2 HN4.out.2).1).onl ho6 (HNI.out g2 HN4.out.2).2, h2, h3⟩)
      have HP6 := hid (Fs.held HF.out HB4.out HU4.out HT5.out HE5.out HO5.out HI5.out HF5.out H6.out.1 H6.out.2.1 ho6 H6.out.2.2.2.1 H6.out.2.2.2.2)
      have LF : Hid (∀ wz, Below w6.heap.size w6 wz → _) := hid fun wz hb => left_is ((HOV.out.later (Below.on HBX.out HWX6.out)).later hb) ((rm_okF HOV.out HM6.out HN6.out).later hb) (by obtain ⟨f, h1, h2, h3⟩ := HM6.out; exact ⟨f, h1.later hb, h2, h3⟩) (by obtain ⟨f, h1, h2, h3⟩ := HN6.out; exact ⟨f, h1.later hb, h2, h3⟩)
      clear c0' c1' c2' c3' c4' c5' c6' c7' y0 RH HT5 HI5 HF5
      obtain ⟨lb', lo', ea, hc⟩ := rowL_at HRL.out (Below.on HBX.out HWX6.out) hlt
      injection ea with ea; injection ea with ea1 ea2
      subst ea1 ea2
      rw [← HVE.out] at hc
      have c0' := cell_regrown (show w6.cell? ⟨lb, lo + i * 8, none⟩ = _ from hc 0 _ rfl)
      have c1' := cell_regrown (hc 1 _ rfl)
      have c2' := cell_regrown (hc 2 _ rfl)
      have c3' := cell_regrown (hc 3 _ rfl)
      have c4' := cell_regrown (hc 4 _ rfl)
      have c5' := cell_regrown (hc 5 _ rfl)
      have c6' := cell_regrown (hc 6 _ rfl)
      have c7' := cell_regrown (hc 7 _ rfl)
      have y0 := cell_regrown (cell_later HWX6.out (HX.out 0 _ rfl))
      have z0 := cell_regrown (HZ6.out 0 _ rfl)
      have z1 := cell_regrown (HZ6.out 1 _ rfl)
      have z2 := cell_regrown (HZ6.out 2 _ rfl)
      have z3 := cell_regrown (HZ6.out 3 _ rfl)
      have z4 := cell_regrown (HZ6.out 4 _ rfl)
      have z5 := cell_regrown (HZ6.out 5 _ rfl)
      have z6 := cell_regrown (HZ6.out 6 _ rfl)
      have z7 := cell_regrown (HZ6.out 7 _ rfl)
      simp only [Hv.roomy] at z0 z1 z2 z3 z4 z5 z6 z7
      have hCC : (C != C) = false := by simp
      clear hc ho6
      go_wp2_with fail
      refine wp_region_quiet_below (by kernel_rfl) (by kernel_rfl) ?_
      repeat (go_big_quiet_step (((go_at_call 9; exact Calls.regrown_of (LF.out _ (below_regrown _ _ _))))))
      refine wpQuiet_nil ?_
      intro w7 hw7
      replace hw7 := below_of_regrown hw7
      have HW7 := hid hw7
      have HZ7 : Hid (∀ o u, (hcs (v.roomy g1 g2))[o]? = some u → w7.cell? ⟨zb, o, none⟩ = some u) := hid fun o u ho => cell_later hw7 (HZ6.out o u ho)
      clear hw7 c0' c1' c2' c3' c4' c5' c6' c7' y0 z0 z1 z2 z3 z4 z5 z6 z7 LF hCC HZ6 HZ5 HZ4
      have z0 := HZ7.out 0 _ rfl
      have z1 := HZ7.out 1 _ rfl
      have z2 := HZ7.out 2 _ rfl
      have z3 := HZ7.out 3 _ rfl
      have z4 := HZ7.out 4 _ rfl
      have z5 := HZ7.out 5 _ rfl
      have z6 := HZ7.out 6 _ rfl
      have z7 := HZ7.out 7 _ rfl
      simp only [Hv.roomy] at z0 z1 z2 z3 z4 z5 z6 z7
      obtain ⟨i0, hi0, hz0, hs0, hb0⟩ := info_of infoHd
      have H78 : Hid (Below w7.heap.size w7 (w7.alloc (.cells #[.int .u32 v.h.id.1, .int .u32 v.h.id.2, .int .u32 v.h.home, .int .u64 v.h.w, .int .u32 v.h.l, .int .u32 v.h.n, .slice (some ⟨g1, 0, none⟩) v.h.rs.length (v.h.rs.length + 1), .slice (some ⟨g2, 0, none⟩) v.h.ws.length (v.h.ws.length + 1)] 32))) := hid (Below.al (Below.refl _ _) _)
      have HOW8 : Hid ((w7.alloc (.cells #[.int .u32 v.h.id.1, .int .u32 v.h.id.2, .int .u32 v.h.home, .int .u64 v.h.w, .int .u32 v.h.l, .int .u32 v.h.n, .slice (some ⟨g1, 0, none⟩) v.h.rs.length (v.h.rs.length + 1), .slice (some ⟨g2, 0, none⟩) v.h.ws.length (v.h.ws.length + 1)] 32)).ownsRow B 32 8 (.slice ga i gc) i (G.flatMap hcs)) := hid (((HP6.out.2.1.later HW7.out).later H78.out).own)
      have HNE : Hid (∀ j y, (hcs (v.roomy g1 g2))[j]? = some y → (w7.alloc (.cells #[.int .u32 v.h.id.1, .int .u32 v.h.id.2, .int .u32 v.h.home, .int .u64 v.h.w, .int .u32 v.h.l, .int .u32 v.h.n, .slice (some ⟨g1, 0, none⟩) v.h.rs.length (v.h.rs.length + 1), .slice (some ⟨g2, 0, none⟩) v.h.ws.length (v.h.ws.length + 1)] 32)).cell? ((⟨w7.heap.size, 0, none⟩ : Addr).add j) = some y) := hid (newC w7 (hcs (v.roomy g1 g2)) 32)
      have HN1 : Hid (i + 1 ≤ maxLen) := by show _ ≤ _; unfold maxLen; omega
      have HN2 : Hid ((i + 1) * 80 ≤ 140737488355328) := by show _ ≤ _; omega
      have HS68 : Hid (w6.heap.size ≤ (w7.alloc (.cells #[.int .u32 v.h.id.1, .int .u32 v.h.id.2, .int .u32 v.h.home, .int .u64 v.h.w, .int .u32 v.h.l, .int .u32 v.h.n, .slice (some ⟨g1, 0, none⟩) v.h.rs.length (v.h.rs.length + 1), .slice (some ⟨g2, 0, none⟩) v.h.ws.length (v.h.ws.length + 1)] 32)).heap.size) := hid (Nat.le_trans HW7.out.size H78.out.size)
      have HB46 : Hid (w4.heap.size ≤ w6.heap.size) := hid (Nat.le_trans HO5.out.size H6.out.2.2.1.size)
      have HBB8 : Hid (B ≤ (w7.alloc (.cells #[.int .u32 v.h.id.1, .int .u32 v.h.id.2, .int .u32 v.h.home, .int .u64 v.h.w, .int .u32 v.h.l, .int .u32 v.h.n, .slice (some ⟨g1, 0, none⟩) v.h.rs.length (v.h.rs.length + 1), .slice (some ⟨g2, 0, none⟩) v.h.ws.length (v.h.ws.length + 1)] 32)).heap.size) := hid (Nat.le_trans HBR.out (Nat.le_trans HB4.out.size (Nat.le_trans HB46.out HS68.out)))
      go_wp2_with (at_builtin; refine wpList_append_keep _ rfl _ _ 22 rfl B 32 i0 (Hv.val Hv.zero) 8 80 Tryz.underlying22 hi0 hz0 hs0 hb0 rfl (by decide) (.slice ga i gc) i (G.flatMap hcs) rfl HOW8.out ⟨w7.heap.size, 0, none⟩ 1 1 (hcs (v.roomy g1 g2)) rfl rfl HNE.out (hcs_one _) HN1.out HN2.out HBB8.out (by decide) ?_; intro v' w9 hown hgrow hold hnear; obtain ⟨ga', gc', e9, -⟩ := Fam.row_slice hown; subst e9; have HOWN := hid hown; have HGR := hid hgrow; have HNR := hid hnear; clear hown hgrow hold hnear)
      have HFin : Hid (Fs B w9 p m1' m2' V' I' B a' n' c' R' ga' (i + 1) gc' (G ++ [v.roomy g1 g2])) := hid (Fs.more HF.out HBR.out HB4.out.size HB46.out HU4.out HP6.out.1 HP6.out.2.1 HP6.out.2.2.1 HP6.out.2.2.2 (Below.on HW7.out H78.out) (by unfold OwnH; rw [List.flatMap_append]; simpa using HOWN.out) HGR.out HNR.out)
      have HG9 : Hid ((G ++ [v.roomy g1 g2]).map Hv.h = (L.take (i + 1)).map Hv.h) := hid (by rw [nthH_take hlt, List.map_append, List.map_append, HG.out, ← HVE.out]; rfl)
      have HV9 : Hid (V'.map Hv.h = setM (L.take (i + 1))) := hid (by rw [nthH_take hlt, setM_snoc, ← HV.out, ← HVE.out]; exact HE5.out)
      have HWX9 : Hid (Below wx.heap.size wx w9) := hid ((Below.on (Below.on HWX6.out HW7.out) H78.out).trans ((grown_onl HGR.out).below (B := wx.heap.size) (fun b hb => Nat.le_trans HBB.out (HOW8.out.lt b hb).1) (Nat.le_trans HWX6.out.size HS68.out)))
      have HBR9 : Hid (B ≤ w9.heap.size) := hid (Nat.le_trans HBB8.out (grown_onl HGR.out).size)
      have HLB9 : Hid (∀ b, PB p m1' m2' V' B a' n' c' R' b → wx.heap.size ≤ b) := hid fun b hb => by
        rcases HP6.out.2.2.2 b hb with h1 | h1
        · exact HLB.out b h1
        · exact Nat.le_trans HWX4.out.size h1
      clear HP6 H6 HOWN HGR HNR HOW8 HNE HZ7 z0 z1 z2 z3 z4 z5 z6 z7
      go_wp2_with fail
      go_roundg (L.length - (i + 1))
      case measure => omega
      case rel => exact ⟨i + 1, m1', m2', V', I', a', n', c', R', ga', gc', _, by omega, rfl, by go_num, rfl, HFin, HG9, HV9, HWX9, HBR9, HLB9⟩
    · obtain rfl : i = L.length := by omega
      clear hlt hi
      rw [List.take_length] at HG HV
      obtain ⟨Q, hQ⟩ := told_ex (V.map Hv.h)
      have HQ := hid hQ
      have HND : Hid (((V.map Hv.h).map Hd.id).Nodup) := hid HF.out.pr.tb.ok.ids
      have hnl : V.length = n ∧ n ≤ 1048576 ∧ R.length = n := by
        have h1 := HF.out.pr.rt.row.len
        have h2 := congrArg List.length HF.out.pr.eq
        have h3 := congrArg List.length HV.out
        have h4 := setM_le L.length L rfl
        simp only [List.length_map] at h2 h3
        omega
      have HNL := hid hnl
      have RA := hid (rallF_is HF.out.pr.rt (by have := HNL.out; omega) (by rw [← HF.out.pr.eq]; exact HND.out) (by rw [← HF.out.pr.eq]; exact HQ.out))
      have HLM : Hid (∀ h ∈ V.map Hv.h, h ∈ L.map Hv.h) := hid (by rw [HV.out]; exact fun h hh => setM_mem hh)
      clear hQ hnl
      go_wp2_with fail
      refine RA.out.mono ?_
      rintro e w3 ⟨ua, uc, U, rfl, HU, HUQ, HUT, HB3, HUL⟩
      have MK1 := hid (markG_is (z := 1) HT.out (Below.on HBX.out (Below.on HW.out HB3.out)) (Nat.le_trans HBX.out.size HBB.out) (Nat.le_trans HBR.out HB3.out.size) (HF.out.gv.later HB3.out) (fun u hu => mem_len (fun h hh => by rw [← HG.out]; exact hh) HSZ.out hu) (by omega) (by omega))
      clear RA y0
      go_wp2_with fail
      refine MK1.out.mono ?_
      rintro e wK ⟨rfl, HOK1⟩
      have HPK : Hid (Pr B wK p m1 m2 V I B a n c R) := hid ((HF.out.pr.later HB3.out).off HOK1.out HF.out.sep)
      have HUK : Hid (RowH wr.heap.size wK ua n uc U) := hid (rowH_off HU.out HUL.out HOK1.out (fun b hb => (HF.out.gv.lt hb).2))
      have HWK : Hid (Below wx.heap.size wx wK) := hid ((Below.on HW.out HB3.out).trans (HOK1.out.below (B := wx.heap.size) (fun b hb => Nat.le_trans HBB.out (HF.out.gv.lt hb).1) (Nat.le_trans HW.out.size HB3.out.size)))
      have HBK : Hid (B ≤ wK.heap.size) := hid (Nat.le_trans HBR.out (Nat.le_trans HB3.out.size HOK1.out.size))
      have A1 := hid (allF_is HPK.out.tb (by have := HNL.out; omega))
      clear MK1 HF HG HLB HUT HOK1 HU HUL
      go_wp2_with fail
      refine A1.out.mono ?_
      rintro e w4 ⟨fa, fn, fc, F1, rfl, hfl, hfo, hff, hfp, hfm, hfr, hfb⟩
      have HA1 : Hid (F1.length = fn ∧ OwnH wK.heap.size w4 (.slice fa fn fc) fn F1 ∧ (∀ u ∈ F1, u.fresh wK.heap.size w4 ∧ u.ok w4) ∧ F1.Pairwise Hv.far) := hid ⟨hfl, hfo, hff, hfp⟩
      have HQ1 : Hid (F1.map Hv.h = Q) := hid (Told.uniq HND.out ⟨hfm, hfr⟩ HQ.out)
      have HB4 := hid hfb
      clear hfl hfo hff hfp hfm hfr hfb A1
      have A2 := hid (allF_is (HPK.out.tb.later HB4.out) (by have := HNL.out; omega))
      go_wp2_with fail
      refine A2.out.mono ?_
      rintro e w5 ⟨sa, sn, sc, F2, rfl, hfl, hfo, hff, hfp, hfm, hfr, hfb⟩
      have HA2 : Hid (F2.length = sn ∧ OwnH w4.heap.size w5 (.slice sa sn sc) sn F2 ∧ (∀ u ∈ F2, u.fresh w4.heap.size w5 ∧ u.ok w5) ∧ F2.Pairwise Hv.far) := hid ⟨hfl, hfo, hff, hfp⟩
      have HQ2 : Hid (F2.map Hv.h = Q) := hid (Told.uniq HND.out ⟨hfm, hfr⟩ HQ.out)
      have HB5 := hid hfb
      clear hfl hfo hff hfp hfm hfr hfb A2
      have HF1 : Hid (RowH wK.heap.size w5 fa fn fc F1) := hid (RowH.later ⟨HA1.out.2.1, HA1.out.1, fun u hu => (HA1.out.2.2.1 u hu).2⟩ HB5.out)
      have SL1 := hid (sameList_is (u := true) (by rw [HQ1.out, HUQ.out]; simp) HF1.out (HUK.out.later (Below.on HB4.out HB5.out)))
      go_wp2_with fail
      refine SL1.out.mono ?_
      rintro e w6 ⟨rfl, hb6⟩
      have HB6 := hid hb6
      clear SL1 hb6 HF1
      have HQL : Hid (∀ h ∈ Q, h ∈ L.map Hv.h) := hid fun h hh => HLM.out h (HQ.out.perm.mem_iff.1 hh)
      have HFN : Hid (fn = n ∧ sn = n) := hid (by
        have h0 := HQ.out.len
        have h1 := congrArg List.length HQ1.out
        have h2 := congrArg List.length HQ2.out
        have h3 := HNL.out.1
        have h4 := HA1.out.1
        have h5 := HA2.out.1
        simp only [List.length_map] at h0 h1 h2
        omega)
      have HG1 : Hid (Gv wK.heap.size w4 fa fn fc F1) := hid ⟨HA1.out.2.1, HA1.out.1, fun u hu => (HA1.out.2.2.1 u hu).1, HA1.out.2.2.2⟩
      have HG2 : Hid (Gv w4.heap.size w5 sa sn sc F2) := hid ⟨HA2.out.2.1, HA2.out.1, fun u hu => (HA2.out.2.2.1 u hu).1, HA2.out.2.2.2⟩
      have HK6 : Hid (Below wK.heap.size wK w6) := hid (Below.on (Below.on HB4.out HB5.out) HB6.out)
      have HWW : Hid (∀ wz, Below wK.heap.size wK wz → Below W.heap.size W wz) := hid fun wz hb => Below.on HBX.out (Below.on HWK.out hb)
      have HWB : Hid (W.heap.size ≤ wK.heap.size) := hid (Nat.le_trans HBX.out.size HWK.out.size)
      have MK2 := hid (markG_is (z := 2) HT.out (HWW.out _ HK6.out) HWB.out HK6.out.size (HG1.out.later (Below.on HB5.out HB6.out)) (fun u hu => mem_len (fun h hh => by rw [HQ1.out] at hh; exact HQL.out h hh) HSZ.out hu) (by have := HFN.out; have := HNL.out; omega) (by omega))
      go_wp2_with fail
      refine MK2.out.mono ?_
      rintro e w7 ⟨rfl, HO7⟩
      have HK7 : Hid (Below wK.heap.size wK w7) := hid (HK6.out.trans (HO7.out.below (B := wK.heap.size) (fun b hb => (HG1.out.lt hb).1) HK6.out.size))
      have HG7 : Hid (Gv w4.heap.size w7 sa sn sc F2) := hid ((HG2.out.later HB6.out).off HO7.out (fun b h1 h2 => by have a1 := (HG1.out.lt h1).2; have a2 := (HG2.out.lt h2).1; omega))
      have HR7 : Hid (RowH w4.heap.size w7 sa sn sc F2) := hid (rowH_off (RowH.later ⟨HA2.out.2.1, HA2.out.1, fun u hu => (HA2.out.2.2.1 u hu).2⟩ HB6.out) (fun u hu => (HG2.out.fr u hu).lowB (Nat.le_refl _)) HO7.out (fun b hb => (HG1.out.lt hb).2))
      have SL2 := hid (sameList_is (u := true) (by rw [HQ2.out, HUQ.out]; simp) HR7.out (HUK.out.later HK7.out))
      clear MK2
      go_wp2_with fail
      refine SL2.out.mono ?_
      rintro e w8 ⟨rfl, hb8⟩
      have HB8 := hid hb8
      have HK8 : Hid (Below wK.heap.size wK w8) := hid (Below.on HK7.out hb8)
      have MK3 := hid (markG_is (z := 3) HT.out (HWW.out _ HK8.out) (Nat.le_trans HWB.out HB4.out.size) (Nat.le_trans HB5.out.size (Nat.le_trans HB6.out.size (Nat.le_trans HO7.out.size hb8.size))) (HG7.out.later hb8) (fun u hu => mem_len (fun h hh => by rw [HQ2.out] at hh; exact HQL.out h hh) HSZ.out hu) (by have := HFN.out; have := HNL.out; omega) (by omega))
      clear SL2 hb8
      go_wp2_with fail
      refine MK3.out.mono ?_
      rintro e w9 ⟨rfl, HO9⟩
      have HK9 : Hid (Below wK.heap.size wK w9) := hid (HK8.out.trans (HO9.out.below (B := wK.heap.size) (fun b hb => Nat.le_trans HB4.out.size (HG7.out.lt hb).1) HK8.out.size))
      clear MK3 HO9 HO7 HG7 HR7 HG1 HG2 HA1 HA2 HQ1 HQ2 HK6 HK7 HK8 HB8 HB6 HB5 HB4 HFN
      go_wp2_with fail
      go_loopg [13] n (fun gm s13 wr => ∃ i : Nat, i ≤ n ∧ gm = n - i ∧ s13 = .int .i64 i ∧ Hid (Below wK.heap.size wK wr))
      case atStart => exact ⟨0, by omega, by omega, rfl, HK9⟩
      case round =>
        obtain ⟨i, hi, rfl, rfl, HKR⟩ := hrel
        clear HK9
        by_cases hlt : i < n
        · have hI : (i : Int) < (n : Int) := by omega
          have HGT : Hid (∀ (wz : World) (k : Nat) (hk : Below wK.heap.size wK wz), k < n → ∃ g, ua = some ⟨g, 0, none⟩ ∧ ∀ o y, (hcs (nthH U k))[o]? = some y → wz.cell? ⟨g, k * 8 + o, none⟩ = some y) := hid fun wz k hk hkn => ownH_at (HUK.out.later hk).own HUK.out.len hkn
          have HGE : Hid (∀ (wz : World) (x : Hv) (hk : Below wK.heap.size wK wz), x ∈ U → Calls Tryz.prog 14 #[.pointer (some ⟨p, 0, none⟩), .agg #[.int .u32 x.h.id.1, .int .u32 x.h.id.2]] wz fun e w' => ∃ u : Hv, e = .returned (.tuple #[.agg #[.int .u32 u.h.id.1, .int .u32 u.h.id.2, .int .u32 u.h.home, .int .u64 u.h.w, .int .u32 u.h.l, .int .u32 u.h.n, .slice u.ra u.h.rs.length u.rc, .slice u.wa u.h.ws.length u.wc], .bool true]) ∧ Hid (u.h = x.h) ∧ Hid (u.fresh wz.heap.size w') ∧ Hid (u.ok w') ∧ Hid (Below wz.heap.size wz w')) := hid fun wz x hk hx => by
            have hxV : x.h ∈ V.map Hv.h := HQ.out.perm.mem_iff.1 (by rw [← HUQ.out]; exact List.mem_map.2 ⟨x, hx, rfl⟩)
            have hh : hasB (V.map Hv.h) x.h.id = true := by simp only [hasB, decide_eq_true_eq]; exact List.mem_map.2 ⟨_, hxV, rfl⟩
            have h := get_is (HPK.out.tb.later hk) x.h.id
            rw [hh] at h
            refine h.mono ?_
            rintro e w' ⟨u, h1, h2, _, h4, h5, h6⟩
            exact ⟨u, h1, hid (nodup_inj HND.out (h2.out rfl).1 hxV (h2.out rfl).2), h4, h5, h6⟩
          obtain ⟨g, rfl, hc⟩ := HGT.out wr i HKR.out hlt
          obtain ⟨x, hx⟩ : ∃ x, x = nthH U i := ⟨_, rfl⟩
          have HXU : Hid (x ∈ U) := hid (by rw [hx]; exact nthH_mem (by rw [HUK.out.len]; exact hlt))
          rw [← hx] at hc
          have HXE := hid hx
          have HGX : Hid (∀ (wz : World), Below wK.heap.size wK wz → ∀ o y, (hcs x)[o]? = some y → wz.cell? ⟨g, i * 8 + o, none⟩ = some y) := hid fun wz hk o y ho => by
            obtain ⟨g', e, hc'⟩ := HGT.out wz i hk hlt
            injection e with e; injection e with e
            subst e
            exact hc' o y (by rw [← HXE.out]; exact ho)
          have c0' : wr.cell? ⟨g, i * 8, none⟩ = some (.int .u32 x.h.id.1) := hc 0 _ rfl
          have c1' := hc 1 _ rfl
          have G1 := hid (HGE.out wr x HKR.out HXU.out)
          clear hc hx
          go_wp2_with fail
          refine G1.out.mono ?_
          rintro e w10 ⟨u1, rfl, HE1, HF1, HO1, HB10⟩
          have HK10 : Hid (Below wK.heap.size wK w10) := hid (Below.on HKR.out HB10.out)
          obtain ⟨w11, hw11⟩ : ∃ w11, w11 = w10.alloc (.cells #[.int .u32 u1.h.id.1, .int .u32 u1.h.id.2, .int .u32 u1.h.home, .int .u64 u1.h.w, .int .u32 u1.h.l, .int .u32 u1.h.n, .slice u1.ra u1.h.rs.length u1.rc, .slice u1.wa u1.h.ws.length u1.wc] 32) := ⟨_, rfl⟩
          obtain ⟨b1, hb1⟩ : ∃ b1, b1 = w10.heap.size := ⟨_, rfl⟩
          have HX1 : Hid (∀ o y, (hcs u1)[o]? = some y → w11.cell? ⟨b1, o, none⟩ = some y) := hid fun o y ho => cell_of_obj (by rw [hw11, hb1]; exact (MapKept.heap_alloc _ _).1) (by simpa using ho)
          have H1011 : Hid (Below w10.heap.size w10 w11) := hid (by rw [hw11]; exact Below.al (Below.refl _ _) _)
          have HK11 : Hid (Below wK.heap.size wK w11) := hid (Below.on HK10.out H1011.out)
          have HL1 : Hid (b1 = w10.heap.size) := hid hb1
          clear G1 c0' c1'
          go_upto_region 30 with fail
          rw [← hw11, ← hb1]
          clear hw11 hb1
          obtain ⟨j, hj⟩ : ∃ j, j = (i + 1) % n := ⟨_, rfl⟩
          have hjn : j < n := by rw [hj]; exact Nat.mod_lt _ (by omega)
          have hjm : ((i : Int) + 1).tmod (n : Int) = (j : Int) := by
            rw [hj, Int.tmod_eq_emod_of_nonneg (by omega), Int.natCast_emod]
            rfl
          have hnb : n ≤ 1048576 := HNL.out.2.1
          have hn0 : ((n : Int) == 0) = false := by rw [beq_eq_false_iff_ne]; omega
          have hJ : (j : Int) < (n : Int) := by omega
          obtain ⟨y, hy⟩ : ∃ y, y = nthH U j := ⟨_, rfl⟩
          have HYU : Hid (y ∈ U) := hid (by rw [hy]; exact nthH_mem (by rw [HUK.out.len]; exact hjn))
          have hcy : ∀ o z, (hcs y)[o]? = some z → w11.cell? ⟨g, j * 8 + o, none⟩ = some z := fun o z ho => by
            obtain ⟨g', e, hc'⟩ := HGT.out w11 j HK11.out hjn
            injection e with e; injection e with e
            subst e
            exact hc' o z (by rw [← hy]; exact ho)
          have d0 : w11.cell? ⟨g, j * 8, none⟩ = some (.int .u32 y.h.id.1) := hcy 0 _ rfl
          have d1 := hcy 1 _ rfl
          have d2 := hcy 2 _ rfl
          have d3 := hcy 3 _ rfl
          have d4 := hcy 4 _ rfl
          have d5 := hcy 5 _ rfl
          have d6 := hcy 6 _ rfl
          have d7 := hcy 7 _ rfl
          clear hj hy hcy
          go_upto_region 31 with fail
          obtain ⟨w12, hw12⟩ : ∃ w12, w12 = w11.alloc (.cells #[.int .u32 y.h.id.1, .int .u32 y.h.id.2, .int .u32 y.h.home, .int .u64 y.h.w, .int .u32 y.h.l, .int .u32 y.h.n, .slice y.ra y.h.rs.length y.rc, .slice y.wa y.h.ws.length y.wc] 32) := ⟨_, rfl⟩
          obtain ⟨b2, hb2⟩ : ∃ b2, b2 = w11.heap.size := ⟨_, rfl⟩
          have HX2 : Hid (∀ o z, (hcs y)[o]? = some z → w12.cell? ⟨b2, o, none⟩ = some z) := hid fun o z ho => cell_of_obj (by rw [hw12, hb2]; exact (MapKept.heap_alloc _ _).1) (by simpa using ho)
          have H1112 : Hid (Below w11.heap.size w11 w12) := hid (by rw [hw12]; exact Below.al (Below.refl _ _) _)
          have HK12 : Hid (Below wK.heap.size wK w12) := hid (Below.on HK11.out H1112.out)
          have HL2 : Hid (b2 = w11.heap.size) := hid hb2
          have G2 := hid (HGE.out w12 y HK12.out HYU.out)
          rw [← hw12, ← hb2]
          clear hw12 hb2 d0 d1 d2 d3 d4 d5 d6 d7 hjm hn0 hJ
          have d0 := HX2.out 0 _ rfl
          have d1 := HX2.out 1 _ rfl
          go_wp2_with fail
          refine G2.out.mono ?_
          rintro e w13 ⟨u2, rfl, HE2, HF2, HO2, HB13⟩
          have HK13 : Hid (Below wK.heap.size wK w13) := hid (Below.on HK12.out HB13.out)
          obtain ⟨w14, hw14⟩ : ∃ w14, w14 = w13.alloc (.cells #[.int .u32 u2.h.id.1, .int .u32 u2.h.id.2, .int .u32 u2.h.home, .int .u64 u2.h.w, .int .u32 u2.h.l, .int .u32 u2.h.n, .slice u2.ra u2.h.rs.length u2.rc, .slice u2.wa u2.h.ws.length u2.wc] 32) := ⟨_, rfl⟩
          obtain ⟨b3, hb3⟩ : ∃ b3, b3 = w13.heap.size := ⟨_, rfl⟩
          have HX3 : Hid (∀ o z, (hcs u2)[o]? = some z → w14.cell? ⟨b3, o, none⟩ = some z) := hid fun o z ho => cell_of_obj (by rw [hw14, hb3]; exact (MapKept.heap_alloc _ _).1) (by simpa using ho)
          have H1314 : Hid (Below w13.heap.size w13 w14) := hid (by rw [hw14]; exact Below.al (Below.refl _ _) _)
          have HK14 : Hid (Below wK.heap.size wK w14) := hid (Below.on HK13.out H1314.out)
          have HL3 : Hid (b3 = w13.heap.size) := hid hb3
          clear G2 d0 d1
          go_upto_region 32 with fail
          rw [← hw14, ← hb3]
          clear hw14 hb3
          have G3 := hid (HGE.out w14 x HK14.out HXU.out)
          have c0' : w14.cell? ⟨g, i * 8, none⟩ = some (.int .u32 x.h.id.1) := HGX.out w14 HK14.out 0 _ rfl
          have c1' := HGX.out w14 HK14.out 1 _ rfl
          go_wp2_with fail
          refine G3.out.mono ?_
          rintro e w15 ⟨u3, rfl, HE3, HF3, HO3, HB15⟩
          have HK15 : Hid (Below wK.heap.size wK w15) := hid (Below.on HK14.out HB15.out)
          obtain ⟨w16, hw16⟩ : ∃ w16, w16 = w15.alloc (.cells #[.int .u32 u3.h.id.1, .int .u32 u3.h.id.2, .int .u32 u3.h.home, .int .u64 u3.h.w, .int .u32 u3.h.l, .int .u32 u3.h.n, .slice u3.ra u3.h.rs.length u3.rc, .slice u3.wa u3.h.ws.length u3.wc] 32) := ⟨_, rfl⟩
          obtain ⟨b4, hb4⟩ : ∃ b4, b4 = w15.heap.size := ⟨_, rfl⟩
          have HX4 : Hid (∀ o z, (hcs u3)[o]? = some z → w16.cell? ⟨b4, o, none⟩ = some z) := hid fun o z ho => cell_of_obj (by rw [hw16, hb4]; exact (MapKept.heap_alloc _ _).1) (by simpa using ho)
          have H1516 : Hid (Below w15.heap.size w15 w16) := hid (by rw [hw16]; exact Below.al (Below.refl _ _) _)
          have HK16 : Hid (Below wK.heap.size wK w16) := hid (Below.on HK15.out H1516.out)
          have HL4 : Hid (b4 = w15.heap.size) := hid hb4
          clear G3 c0' c1'
          go_upto_region 33 with fail
          rw [← hw16, ← hb4]
          clear hw16 hb4
          have H1116 : Hid (Below w11.heap.size w11 w16) := hid (Below.on (Below.on (Below.on (Below.on H1112.out HB13.out) H1314.out) HB15.out) H1516.out)
          have H1216 : Hid (Below w12.heap.size w12 w16) := hid (Below.on (Below.on (Below.on HB13.out H1314.out) HB15.out) H1516.out)
          have H1416 : Hid (Below w14.heap.size w14 w16) := hid (Below.on HB15.out H1516.out)
          have H1016 : Hid (Below w10.heap.size w10 w16) := hid (Below.on H1011.out H1116.out)
          have H1316 : Hid (Below w13.heap.size w13 w16) := hid (Below.on H1314.out H1416.out)
          have SA : Hid (∀ wz, Below w16.heap.size w16 wz → _) := hid fun wz hb => same_is (u := true) (x := u1) (y := x) (by rw [HE1.out]; simp) ((HO1.out.later H1016.out).later hb) (((HUK.out.later HK16.out).ok x HXU.out).later hb)
          simp only [Hv.val] at SA
          have a0' := cell_regrown (cell_later H1116.out (HX1.out 0 _ rfl))
          have a1' := cell_regrown (cell_later H1116.out (HX1.out 1 _ rfl))
          have a2' := cell_regrown (cell_later H1116.out (HX1.out 2 _ rfl))
          have a3' := cell_regrown (cell_later H1116.out (HX1.out 3 _ rfl))
          have a4' := cell_regrown (cell_later H1116.out (HX1.out 4 _ rfl))
          have a5' := cell_regrown (cell_later H1116.out (HX1.out 5 _ rfl))
          have a6' := cell_regrown (cell_later H1116.out (HX1.out 6 _ rfl))
          have a7' := cell_regrown (cell_later H1116.out (HX1.out 7 _ rfl))
          have e0' := cell_regrown (show w16.cell? ⟨g, i * 8, none⟩ = some (.int .u32 x.h.id.1) from HGX.out w16 HK16.out 0 _ rfl)
          have e1' := cell_regrown (HGX.out w16 HK16.out 1 _ rfl)
          have e2' := cell_regrown (HGX.out w16 HK16.out 2 _ rfl)
          have e3' := cell_regrown (HGX.out w16 HK16.out 3 _ rfl)
          have e4' := cell_regrown (HGX.out w16 HK16.out 4 _ rfl)
          have e5' := cell_regrown (HGX.out w16 HK16.out 5 _ rfl)
          have e6' := cell_regrown (HGX.out w16 HK16.out 6 _ rfl)
          have e7' := cell_regrown (HGX.out w16 HK16.out 7 _ rfl)
          go_wp2_with fail
          refine wp_region_quiet_below (by kernel_rfl) (by kernel_rfl) ?_
          repeat (go_big_quiet_step (((go_at_call 15; exact Calls.regrown_of (SA.out _ (below_regrown _ _ _))))))
          refine wpQuiet_nil ?_
          intro w17 hw17
          replace hw17 := below_of_regrown hw17
          have H1617 := hid hw17
          clear hw17 a0' a1' a2' a3' a4' a5' a6' a7' e0' e1' e2' e3' e4' e5' e6' e7' SA
          go_upto_region 35 with fail
          have HK17 : Hid (Below wK.heap.size wK w17) := hid (Below.on HK16.out H1617.out)
          have HSS : Hid (wK.heap.size ≤ wr.heap.size ∧ wr.heap.size ≤ w10.heap.size ∧ w10.heap.size ≤ w11.heap.size ∧ w11.heap.size ≤ w12.heap.size ∧ w12.heap.size ≤ w13.heap.size ∧ w13.heap.size ≤ w14.heap.size ∧ w14.heap.size ≤ w15.heap.size ∧ w15.heap.size ≤ w16.heap.size ∧ w16.heap.size ≤ w17.heap.size) := hid ⟨HKR.out.size, HB10.out.size, H1011.out.size, H1112.out.size, HB13.out.size, H1314.out.size, HB15.out.size, H1516.out.size, H1617.out.size⟩
          have HUL2 : Hid (∀ u ∈ U, u.h.rs.length ≤ 1073741824 ∧ u.h.ws.length ≤ 1073741824) := hid fun u hu => mem_len (fun h hh => by rw [HUQ.out] at hh; exact HQL.out h hh) HSZ.out hu
          have HW4 : Hid (IntKind.i64.wrap (4 + (i : Int)) = 4 + (i : Int)) := hid (by rw [IntKind.wrap_i64]; omega)
          have MKA : Hid (Calls Tryz.prog 11 #[.slice (some ⟨w17.heap.size, 0, none⟩) 1 1, .int .i64 (IntKind.i64.wrap (4 + (i : Int)))] (w17.alloc (.cells #[.int .u32 u1.h.id.1, .int .u32 u1.h.id.2, .int .u32 u1.h.home, .int .u64 u1.h.w, .int .u32 u1.h.l, .int .u32 u1.h.n, .slice u1.ra u1.h.rs.length u1.rc, .slice u1.wa u1.h.ws.length u1.wc] 32)).drew fun e w' => e = .returned (.bool true) ∧ Hid (Onl (fun b => wr.heap.size ≤ b ∧ b < w10.heap.size) w17 w')) := hid (mark_fr (us := [u1]) HT.out (HWW.out _ HK17.out) (by have := HWB.out; have := HSS.out; omega) (by have := HSS.out; omega) (fun u hu => by
            obtain rfl := List.mem_singleton.1 hu
            exact ⟨(HF1.out.later H1016.out).later H1617.out, fun b hb => (HF1.out.has hb).2⟩) (List.pairwise_singleton _ _) (by simp) (fun u hu => by
            obtain rfl := List.mem_singleton.1 hu
            rw [HE1.out]
            exact HUL2.out x HXU.out) (by rw [HW4.out]; omega) (Below.drew (Below.refl _ _)))
          have HP : Hid (∀ wz, Onl (fun b => wr.heap.size ≤ b ∧ b < w10.heap.size) w17 wz → (∀ o z, (hcs u2)[o]? = some z → wz.cell? ⟨b3, o, none⟩ = some z) ∧ (∀ o z, (hcs y)[o]? = some z → wz.cell? ⟨b2, o, none⟩ = some z) ∧ (∀ o z, (hcs u3)[o]? = some z → wz.cell? ⟨b4, o, none⟩ = some z) ∧ (∀ o z, (hcs x)[o]? = some z → wz.cell? ⟨g, i * 8 + o, none⟩ = some z) ∧ u2.fresh w12.heap.size wz ∧ u3.fresh w14.heap.size wz ∧ u2.ok wz ∧ y.ok wz ∧ u3.ok wz ∧ x.ok wz ∧ Below wK.heap.size wK wz) := hid fun wz ho => by
            have hs := HSS.out
            have hk : Below wK.heap.size wK wz := HK17.out.trans (ho.below (B := wK.heap.size) (fun b hb => by omega) HK17.out.size)
            refine ⟨fun o z h => ho.cell (by have := HL3.out; omega) (cell_later H1617.out (cell_later H1416.out (HX3.out o z h))), fun o z h => ho.cell (by have := HL2.out; omega) (cell_later H1617.out (cell_later H1216.out (HX2.out o z h))), fun o z h => ho.cell (by have := HL4.out; omega) (cell_later H1617.out (HX4.out o z h)), HGX.out wz hk, ((HF2.out.later H1316.out).later H1617.out).off ho (fun b hb => ?_), ((HF3.out.later H1516.out).later H1617.out).off ho (fun b hb => ?_), ((HO2.out.later H1316.out).later H1617.out).off ho (fun b hb => ?_), (HUK.out.later hk).ok y HYU.out, ((HO3.out.later H1516.out).later H1617.out).off ho (fun b hb => ?_), (HUK.out.later hk).ok x HXU.out, hk⟩
            · have := (HF2.out.has hb).1; omega
            · have := (HF3.out.has hb).1; omega
            · have := (HF2.out.has hb).1; omega
            · have := (HF3.out.has hb).1; omega
          have SB : Hid (∀ wz, Onl (fun b => wr.heap.size ≤ b ∧ b < w10.heap.size) w17 wz → _) := hid fun wz ho => same_is (u := true) (x := u2) (y := y) (by rw [HE2.out]; simp) (HP.out wz ho).2.2.2.2.2.2.1 (HP.out wz ho).2.2.2.2.2.2.2.1
          have SC : Hid (∀ wz, Onl (fun b => wr.heap.size ≤ b ∧ b < w10.heap.size) w17 wz → _) := hid fun wz ho => same_is (u := true) (x := u3) (y := x) (by rw [HE3.out]; simp) (HP.out wz ho).2.2.2.2.2.2.2.2.1 (HP.out wz ho).2.2.2.2.2.2.2.2.2.1
          simp only [Hv.val] at SB SC
          have a0 := cell_later H1617.out (cell_later H1116.out (HX1.out 0 _ rfl))
          have a1 := cell_later H1617.out (cell_later H1116.out (HX1.out 1 _ rfl))
          have a2 := cell_later H1617.out (cell_later H1116.out (HX1.out 2 _ rfl))
          have a3 := cell_later H1617.out (cell_later H1116.out (HX1.out 3 _ rfl))
          have a4 := cell_later H1617.out (cell_later H1116.out (HX1.out 4 _ rfl))
          have a5 := cell_later H1617.out (cell_later H1116.out (HX1.out 5 _ rfl))
          have a6 := cell_later H1617.out (cell_later H1116.out (HX1.out 6 _ rfl))
          have a7 := cell_later H1617.out (cell_later H1116.out (HX1.out 7 _ rfl))
          go_wp2_with fail
          go_region_with (first
            | (go_at_call 11; refine MKA.out.mono ?_; rintro e w18 ⟨rfl, HO18⟩; clear MKA a0 a1 a2 a3 a4 a5 a6 a7; have p0 := (HP.out _ HO18.out).1 0 _ rfl; have p1 := (HP.out _ HO18.out).1 1 _ rfl; have p2 := (HP.out _ HO18.out).1 2 _ rfl; have p3 := (HP.out _ HO18.out).1 3 _ rfl; have p4 := (HP.out _ HO18.out).1 4 _ rfl; have p5 := (HP.out _ HO18.out).1 5 _ rfl; have p6 := (HP.out _ HO18.out).1 6 _ rfl; have p7 := (HP.out _ HO18.out).1 7 _ rfl; have q0 := (HP.out _ HO18.out).2.1 0 _ rfl; have q1 := (HP.out _ HO18.out).2.1 1 _ rfl; have q2 := (HP.out _ HO18.out).2.1 2 _ rfl; have q3 := (HP.out _ HO18.out).2.1 3 _ rfl; have q4 := (HP.out _ HO18.out).2.1 4 _ rfl; have q5 := (HP.out _ HO18.out).2.1 5 _ rfl; have q6 := (HP.out _ HO18.out).2.1 6 _ rfl; have q7 := (HP.out _ HO18.out).2.1 7 _ rfl)
            | (go_at_call_of 15 (Value.slice u2.ra u2.h.rs.length u2.rc); refine (SB.out _ HO18.out).mono ?_; rintro e w19 ⟨rfl, hb19⟩; have HO19 := hid (HO18.out.on hb19); clear hb19 p0 p1 p2 p3 p4 p5 p6 p7 q0 q1 q2 q3 q4 q5 q6 q7; have r0 := (HP.out _ HO19.out).2.2.1 0 _ rfl; have r1 := (HP.out _ HO19.out).2.2.1 1 _ rfl; have r2 := (HP.out _ HO19.out).2.2.1 2 _ rfl; have r3 := (HP.out _ HO19.out).2.2.1 3 _ rfl; have r4 := (HP.out _ HO19.out).2.2.1 4 _ rfl; have r5 := (HP.out _ HO19.out).2.2.1 5 _ rfl; have r6 := (HP.out _ HO19.out).2.2.1 6 _ rfl; have r7 := (HP.out _ HO19.out).2.2.1 7 _ rfl; have t0 : w19.cell? ⟨g, i * 8, none⟩ = some (.int .u32 x.h.id.1) := (HP.out _ HO19.out).2.2.2.1 0 _ rfl; have t1 := (HP.out _ HO19.out).2.2.2.1 1 _ rfl; have t2 := (HP.out _ HO19.out).2.2.2.1 2 _ rfl; have t3 := (HP.out _ HO19.out).2.2.2.1 3 _ rfl; have t4 := (HP.out _ HO19.out).2.2.2.1 4 _ rfl; have t5 := (HP.out _ HO19.out).2.2.2.1 5 _ rfl; have t6 := (HP.out _ HO19.out).2.2.2.1 6 _ rfl; have t7 := (HP.out _ HO19.out).2.2.2.1 7 _ rfl)
            | (go_at_call_of 15 (Value.slice u3.ra u3.h.rs.length u3.rc); refine (SC.out _ HO19.out).mono ?_; rintro e w20 ⟨rfl, hb20⟩; have HO20 := hid (HO19.out.on hb20); clear hb20 HO18 HO19 r0 r1 r2 r3 r4 r5 r6 r7 t0 t1 t2 t3 t4 t5 t6 t7))
          all_goals (
            have HK20 : Hid (Below wK.heap.size wK w20) := hid (HP.out _ HO20.out).2.2.2.2.2.2.2.2.2.2
            have HW5 : Hid (IntKind.i64.wrap (5 + (i : Int)) = 5 + (i : Int)) := hid (by rw [IntKind.wrap_i64]; omega)
            have HS20 := hid HO20.out.size
            have p0 := (HP.out _ HO20.out).1 0 _ rfl
            have p1 := (HP.out _ HO20.out).1 1 _ rfl
            have p2 := (HP.out _ HO20.out).1 2 _ rfl
            have p3 := (HP.out _ HO20.out).1 3 _ rfl
            have p4 := (HP.out _ HO20.out).1 4 _ rfl
            have p5 := (HP.out _ HO20.out).1 5 _ rfl
            have p6 := (HP.out _ HO20.out).1 6 _ rfl
            have p7 := (HP.out _ HO20.out).1 7 _ rfl
            have r0 := (HP.out _ HO20.out).2.2.1 0 _ rfl
            have r1 := (HP.out _ HO20.out).2.2.1 1 _ rfl
            have r2 := (HP.out _ HO20.out).2.2.1 2 _ rfl
            have r3 := (HP.out _ HO20.out).2.2.1 3 _ rfl
            have r4 := (HP.out _ HO20.out).2.2.1 4 _ rfl
            have r5 := (HP.out _ HO20.out).2.2.1 5 _ rfl
            have r6 := (HP.out _ HO20.out).2.2.1 6 _ rfl
            have r7 := (HP.out _ HO20.out).2.2.1 7 _ rfl
            have MKB : Hid (∀ k : Int, k = 5 + (i : Int) → _) := hid fun k hk => mark_fr (w := w20) (C := w20.heap.size) (us := [u2, u3]) (z := k) HT.out (HWW.out _ HK20.out) (B := w12.heap.size) (by have := HWB.out; have := HSS.out; omega) (by have := HSS.out; have := HS20.out; omega) (fun u hu => by
              have e2 := (HP.out _ HO20.out).2.2.2.2.1
              have e3 := (HP.out _ HO20.out).2.2.2.2.2.1
              rcases List.mem_cons.1 hu with rfl | hu
              · exact ⟨e2, fun b hb => (e2.has hb).2⟩
              · obtain rfl := List.mem_singleton.1 hu
                exact ⟨e3.base (by have := HSS.out; omega), fun b hb => (e3.has hb).2⟩) (List.pairwise_pair.2 (Hv.far_of HF2.out HF3.out (by have := HSS.out; omega))) (by simp) (fun u hu => by
              rcases List.mem_cons.1 hu with rfl | hu
              · rw [HE2.out]; exact HUL2.out y HYU.out
              · obtain rfl := List.mem_singleton.1 hu
                rw [HE3.out]; exact HUL2.out x HXU.out) (by omega) (Below.refl _ _)
            go_wp2_with fail
            refine (MKB.out _ (by first | rfl | exact HW5.out)).mono ?_
            rintro e w21 ⟨rfl, HO21⟩
            have HK21 : Hid (Below wK.heap.size wK w21) := hid (HK20.out.trans (HO21.out.below (B := wK.heap.size) (fun b hb => by have := HSS.out; omega) HK20.out.size))
            clear HP MKB SB SC
            go_wp2_with fail
            go_roundg (n - (i + 1))
            case measure => omega
            case rel => exact ⟨i + 1, by omega, rfl, by go_num, HK21⟩)
        · obtain rfl : i = n := by omega
          clear hlt hi
          have HXR : Hid (∀ wz, Below wK.heap.size wK wz → ∀ o u, (scs a0 c0 L v0 s tw tl tn)[o]? = some u → wz.cell? ⟨W.heap.size, o, none⟩ = some u) := hid fun wz hk o u ho => cell_later hk (cell_later HWK.out (HX.out o u ho))
          have HIL : Hid (I.length ≤ 33554432) := hid (by
            have h1 := ints_le HPK.out.tb.ok
            rw [HV.out] at h1
            have h2 := setM_sum _ L rfl
            have h3 := HSM.out
            omega)
          have BL : Hid (∀ wz, Below wK.heap.size wK wz → _) := hid fun wz hk => blocksF_is (s := s) (aw := tw) (al := tl) (an := tn) (HPK.out.tb.later hk) HIL.out
          have HTP : Hid (∀ D : List Ix, D.Pairwise (fun x y => ltI x y = true) → (∀ i, i ∈ D ↔ ∃ h ∈ V.map Hv.h, h.id = i ∧ blkB s tw tl tn h = true) → D = (Q.filter (blkB s tw tl tn)).map Hd.id) := hid fun D hp hm => told_pick (HQ.out.lt HND.out) hp (fun i => by
            rw [hm i]
            constructor
            · rintro ⟨h, hh, e⟩; exact ⟨h, HQ.out.perm.mem_iff.2 hh, e⟩
            · rintro ⟨h, hh, e⟩; exact ⟨h, HQ.out.perm.mem_iff.1 hh, e⟩)
          have HDN : Hid (((Q.filter (blkB s tw tl tn)).map Hd.id).length ≤ i) := hid (by
            rw [List.length_map]
            have h1 := List.length_filter_le (blkB s tw tl tn) Q
            have h2 := HQ.out.len
            have h3 := HNL.out.1
            rw [List.length_map] at h2
            omega)
          have hib : i ≤ 1048576 := HNL.out.2.1
          have y9 := HXR.out wr HKR.out 9 _ rfl
          have y10 := HXR.out wr HKR.out 10 _ rfl
          have y11 := HXR.out wr HKR.out 11 _ rfl
          have y12 := HXR.out wr HKR.out 12 _ rfl
          have y13 := HXR.out wr HKR.out 13 _ rfl
          go_wp2_with fail
          refine (BL.out _ HKR.out).mono ?_
          rintro e v1 ⟨a1, k1, c1, D1, rfl, HL1, HR1, HP1, HM1, HB1, HO1⟩
          have HK1 := hid (Below.on HKR.out HB1.out)
          have HD1 := hid (HTP.out D1 HP1.out HM1.out)
          have hk1 : k1 ≤ i := by rw [← HL1.out, HD1.out]; exact HDN.out
          clear y9 y10 y11 y12 y13
          have y9 := HXR.out v1 HK1.out 9 _ rfl
          have y10 := HXR.out v1 HK1.out 10 _ rfl
          have y11 := HXR.out v1 HK1.out 11 _ rfl
          have y12 := HXR.out v1 HK1.out 12 _ rfl
          have y13 := HXR.out v1 HK1.out 13 _ rfl
          go_wp2_with fail
          refine (BL.out _ HK1.out).mono ?_
          rintro e v2 ⟨a2, k2, c2, D2, rfl, HL2, HR2, HP2, HM2, HB2, HO2⟩
          have HK2 := hid (Below.on HK1.out HB2.out)
          have HD2 := hid (HTP.out D2 HP2.out HM2.out)
          obtain rfl : k1 = k2 := by rw [← HL1.out, ← HL2.out, HD1.out, HD2.out]
          have HF3 : Hid (∀ b, (Value.slice a1 k1 c1).ownBlock = some b → wr.heap.size ≤ b ∧ b < v1.heap.size) := hid fun b hb => World.ownsRow.lt HO1.out b hb
          have HO12 : Hid (∃ xs, v2.ownsRow wr.heap.size 25 2 (.slice a1 k1 c1) k1 xs) := hid ⟨_, owns_keep HO1.out fun g hg => HB2.out.block g (World.ownsRow.lt HO1.out g hg).2⟩
          clear y9 y10 y11 y12 y13 HP1 HM1 HP2 HM2
          go_wp2_with fail
          go_loopg [23] k1 (fun gm s23 wz => ∃ j : Nat, j ≤ k1 ∧ gm = k1 - j ∧ s23 = .int .i64 j ∧ Hid (∃ xs, wz.ownsRow wr.heap.size 25 2 (.slice a1 k1 c1) k1 xs) ∧ Hid (Onl (fun b => (Value.slice a1 k1 c1).ownBlock = some b) v2 wz))
          case atStart => exact ⟨0, by omega, by omega, rfl, HO12, hid (Onl.refl _ _)⟩
          case round =>
            obtain ⟨j, hj, rfl, rfl, HOJ, HNJ⟩ := hrel
            rename World => wz
            by_cases hlt : j < k1
            · have hJ : (j : Int) < (k1 : Int) := by omega
              obtain ⟨xs, hxs⟩ := HOJ.out
              obtain ⟨g3, rfl, ⟨q0, c0'⟩, ⟨q1, c1'⟩, hfz, HPUT⟩ := txn_put hxs hlt
              have f0 := hfz (j * 2)
              have f1 := hfz (j * 2 + 1)
              clear hfz hxs
              go_wp2_with fail
              go_roundg (k1 - (j + 1))
              case measure => omega
              case rel => exact ⟨j + 1, by omega, rfl, by go_num, hid (HPUT.out _ _).1, hid (HNJ.out.trans (HPUT.out _ _).2)⟩
            · obtain rfl : j = k1 := by omega
              clear hlt hj
              obtain ⟨i0, hi0, hz0, hs0, hb0⟩ := info_of infoTx
              have HSZ1 : Hid (wr.heap.size ≤ v1.heap.size ∧ v1.heap.size ≤ v2.heap.size) := hid ⟨HB1.out.size, HB2.out.size⟩
              go_wp2_with fail
              go_loopg [24, 25] 70 (fun gm s24 s25 wz => ∃ (k : Nat) (ma : Option Addr) (mc : Nat), k ≤ 70 ∧ gm = 70 - k ∧ s25 = .int .i64 k ∧ s24 = .slice ma (j + k) mc ∧ Hid (∃ xs, wz.ownsRow wr.heap.size 25 2 (.slice ma (j + k) mc) (j + k) xs) ∧ Hid (Onl (fun b => (Value.slice a1 j c1).ownBlock = some b) v2 wz) ∧ Hid (∀ b, (Value.slice ma (j + k) mc).ownBlock = some b → (Value.slice a1 j c1).ownBlock = some b ∨ v2.heap.size ≤ b))
              case atStart => exact ⟨0, a1, c1, by omega, by omega, rfl, rfl, HOJ, HNJ, hid fun b hb => .inl hb⟩
              case round =>
                obtain ⟨k, ma, mc, hk, rfl, rfl, rfl, HOK3, HNK, HBK3⟩ := hrel
                clear HOJ HNJ
                rename World => wy
                by_cases hlt : k < 70
                · have hK' : (k : Int) < 70 := by omega
                  obtain ⟨xs, hxs⟩ := HOK3.out
                  obtain ⟨cv, hcv⟩ : ∃ cv : Int, cv = IntKind.u32.wrap (k : Int) := ⟨_, rfl⟩
                  have HXS := hid hxs
                  have HAL : Hid (∀ o, Below wy.heap.size wy (wy.alloc o)) := hid fun o => Below.al (Below.refl _ _) _
                  have HWR : Hid (wr.heap.size ≤ wy.heap.size) := hid (by have h1 := HSZ1.out; have h2 := HNK.out.size; omega)
                  have HOX : Hid (∀ o, (wy.alloc o).ownsRow wr.heap.size 25 2 (.slice ma (j + k) mc) (j + k) xs) := hid fun o => owns_keep HXS.out fun g hg => (HAL.out o).block g (World.ownsRow.lt HXS.out g hg).2
                  have HNT : Hid (∀ x y : Int, ∀ i u, (ics (x, y))[i]? = some u → (wy.alloc (.cells #[.int .u32 x, .int .u32 y] 25)).cell? ((⟨wy.heap.size, 0, none⟩ : Addr).add i) = some u) := hid fun x y => newC wy (ics (x, y)) 25
                  have HM1 : Hid (j + k + 1 ≤ maxLen) := by show _ ≤ _; unfold maxLen; omega
                  have HM2 : Hid ((j + k + 1) * 8 ≤ 140737488355328) := by show _ ≤ _; omega
                  clear hxs hcv
                  go_wp2_with (at_builtin; refine wpList_append_keep _ rfl _ _ 50 rfl wr.heap.size 25 i0 (.agg #[.int .u32 0, .int .u32 0]) 2 8 Tryz.underlying50 hi0 hz0 hs0 hb0 rfl (by decide) (.slice ma (j + k) mc) (j + k) xs rfl (HOX.out _) ⟨wy.heap.size, 0, none⟩ 1 1 (ics (_, _)) rfl rfl (HNT.out _ _) (ics_one _) HM1.out HM2.out (Nat.le_trans HWR.out (HAL.out _).size) (by decide) ?_; intro v' wq hown hgrow hold hnear; obtain ⟨ma', mc', e9, -⟩ := Fam.row_slice hown; subst e9; have HOWN := hid hown; have HGR := hid hgrow; have HNR := hid hnear; clear hown hgrow hold hnear)
                  have HN9 : Hid (Onl (fun b => (Value.slice a1 j c1).ownBlock = some b) v2 wq) := hid (Onl.fresh (HNK.out.al _) (grown_onl HGR.out) (fun b hb => HBK3.out b hb))
                  have HB9 : Hid (∀ b, (Value.slice ma' (j + k + 1) mc').ownBlock = some b → (Value.slice a1 j c1).ownBlock = some b ∨ v2.heap.size ≤ b) := hid fun b hb => by
                    rcases HNR.out with e | ⟨b', e, h1⟩
                    · exact HBK3.out b (e.symm.trans hb)
                    · have : b = b' := by have := hb.symm.trans e; injection this
                      right; rw [this]; exact Nat.le_trans (Nat.le_trans HNK.out.size (HAL.out _).size) h1
                  have HO9 : Hid (∃ xs, wq.ownsRow wr.heap.size 25 2 (.slice ma' (j + k + 1) mc') (j + k + 1) xs) := hid ⟨_, HOWN.out⟩
                  clear HOWN HGR HNR HOX HNT
                  go_wp2_with fail
                  go_roundg (70 - (k + 1))
                  case measure => omega
                  case rel => exact ⟨k + 1, ma', mc', by omega, rfl, by go_num, rfl, HO9, HN9, HB9⟩
                · obtain rfl : k = 70 := by omega
                  clear hlt hk
                  have HKY : Hid (Below wK.heap.size wK wy) := hid (HK2.out.trans (HNK.out.below (B := wK.heap.size) (fun b hb => Nat.le_trans HKR.out.size (HF3.out b hb).1) HK2.out.size))
                  have HR2Y : Hid (RowI wy a2 D2) := hid (rowI_keep HO2.out HL2.out HNK.out (fun b hb => (HF3.out b hb).2))
                  have RB := hid (rblocks_is (s := s) (aw := tw) (al := tl) (an := tn) (HPK.out.rt.later HKY.out) (by have := HNL.out; omega) (by rw [← HPK.out.eq]; exact HND.out) (by rw [← HPK.out.eq]; exact HQ.out))
                  have y9 := HXR.out wy HKY.out 9 _ rfl
                  have y10 := HXR.out wy HKY.out 10 _ rfl
                  have y11 := HXR.out wy HKY.out 11 _ rfl
                  have y12 := HXR.out wy HKY.out 12 _ rfl
                  have y13 := HXR.out wy HKY.out 13 _ rfl
                  have hlen : ((j : Int) + 70 == (j : Int) + 70) = true := by simp
                  go_wp2_with fail
                  refine RB.out.mono ?_
                  rintro e v5 ⟨a5, k5, c5, D5, rfl, HL5, HR5, HD5, HB5⟩
                  have HDD : Hid (D5 = D2) := hid (HD5.out.trans HD2.out.symm)
                  obtain rfl : k5 = j := by rw [← HL5.out, HDD.out, HL2.out]
                  have HK5 := hid (Below.on HKY.out HB5.out)
                  have S5 := hid (sameids_is (w := v5) (a := a2) (a' := a5) (c := c2) (c' := c5) HL2.out (rowI_on HR2Y.out HB5.out) (by rw [← HDD.out]; exact HR5.out) (by omega))
                  clear RB y9 y10 y11 y12 y13
                  go_wp2_with fail
                  refine S5.out.mono ?_
                  rintro e v6 ⟨rfl, hb6⟩
                  have HB6 := hid hb6
                  have HK6 := hid (Below.on HK5.out hb6)
                  clear hb6 S5
                  have y9 := HXR.out v6 HK6.out 9 _ rfl
                  have y10 := HXR.out v6 HK6.out 10 _ rfl
                  have y11 := HXR.out v6 HK6.out 11 _ rfl
                  have y12 := HXR.out v6 HK6.out 12 _ rfl
                  have y13 := HXR.out v6 HK6.out 13 _ rfl
                  go_wp2_with fail
                  refine (BL.out _ HK6.out).mono ?_
                  rintro e v7 ⟨a7, k7, c7, D7, rfl, HL7, HR7, HP7, HM7, HB7, HO7⟩
                  have HDE : Hid (D7 = D2) := hid ((HTP.out D7 HP7.out HM7.out).trans HD2.out.symm)
                  obtain rfl : k7 = k5 := by rw [← HL7.out, HDE.out, HL2.out]
                  have HK7 := hid (Below.on HK6.out HB7.out)
                  have S7 := hid (sameids_is (w := v7) (a := a7) (a' := a2) (c := c7) (c' := c2) HL2.out (by rw [← HDE.out]; exact HR7.out) (rowI_on HR2Y.out (Below.on (Below.on HB5.out HB6.out) HB7.out)) (by omega))
                  clear y9 y10 y11 y12 y13 BL
                  go_wp2_with fail
                  refine S7.out.mono ?_
                  rintro e v8 ⟨rfl, hb8⟩
                  have HK8 := hid (Below.on HK7.out hb8)
                  have A8 := hid (allF_is (HPK.out.tb.later HK8.out) (by have := HNL.out; omega))
                  clear hb8 S7
                  go_wp2_with fail
                  refine A8.out.mono ?_
                  rintro e v9 ⟨fa', fn', fc', F9, rfl, hfl, hfo, hff, hfp, hfm, hfr, hfb⟩
                  have HK9 := hid (Below.on HK8.out hfb)
                  have S9 := hid (sameList_is (u := true) (by rw [Told.uniq HND.out ⟨hfm, hfr⟩ HQ.out, HUQ.out]; simp) (⟨hfo, hfl, fun u hu => (hff u hu).2⟩ : RowH _ v9 fa' fn' fc' F9) (HUK.out.later HK9.out))
                  clear A8 hfl hfo hff hfp hfm hfr hfb
                  go_wp2_with fail
                  refine S9.out.mono ?_
                  rintro e v10 ⟨rfl, hb10⟩
                  have HEnd := hid (HWW.out _ (Below.on HK9.out hb10))
                  clear hb10 S9
                  go_wp2_with fail
                  go_ret
                  exact ⟨rfl, HEnd.out⟩
end Go.Proofs.YtgplnbdankfobaaGreatDoor.Lk
