import Derived.Test.YtmbmagfdeadibaaDDurPlain
namespace Go.Proofs.Ytmbmagfdeadibaa
open Go.RowKit Go.Sort
set_option linter.unusedVariables false
variable {R : World → (Nat → Prop) → Nat → Dk → Prop}

/-- a disk and, apart from it, a block of two texts -/
structure OneB (R : World → (Nat → Prop) → Nat → Dk → Prop) (wb wr : World) (F : Nat → Prop) (p : Nat) (d : Dk) (q : Nat) (t0 t1 : List Nat) : Prop where
  at' : R wr F p d
  low : ∀ k, F k → wb.heap.size ≤ k
  bl : Below wb.heap.size wb wr
  nq : ¬ F q
  lq : wb.heap.size ≤ q
  c0 : wr.cell? ⟨q, 0, none⟩ = some (.string (ofNats t0))
  c1 : wr.cell? ⟨q, 1, none⟩ = some (.string (ofNats t1))
  loose : Loose wr q
theorem OneB.ltq {wb wr : World} {F : Nat → Prop} {p : Nat} {d : Dk} {q : Nat} {t0 t1 : List Nat} (h : OneB R wb wr F p d q t0 t1) : q < wr.heap.size := World.block_lt_of_cell? _ _ h.c0
theorem OneB.later (I : Face R) {wb wr w' : World} {F : Nat → Prop} {p : Nat} {d : Dk} {q : Nat} {t0 t1 : List Nat} (h : OneB R wb wr F p d q t0 t1) (hb : Below wr.heap.size wr w') : OneB R wb w' F p d q t0 t1 :=
  ⟨I.later h.at' hb, h.low, Below.on h.bl hb, h.nq, h.lq, cell_later hb h.c0, cell_later hb h.c1, h.loose.later hb h.ltq⟩
theorem OneB.move {wb wr w' : World} {F : Nat → Prop} {p : Nat} {d d' : Dk} {q : Nat} {t0 t1 : List Nat} (h : OneB R wb wr F p d q t0 t1) (m : Moved R wr w' F p d') : ∃ F', OneB R wb w' F' p d' q t0 t1 := by
  have hq := h.ltq
  obtain ⟨F', h1, h2, h3, h4, h5⟩ := m.new h.bl h.low
  exact ⟨F', h1, h2, h3, fun hk => by
    rcases h5 q hk with h6 | h6
    · exact h.nq h6
    · omega, h.lq, h4.cell h.nq h.c0, h4.cell h.nq h.c1, h4.loose h.nq hq h.loose⟩
theorem OneB.set0 (I : Face R) {wb wr : World} {F : Nat → Prop} {p : Nat} {d : Dk} {q : Nat} {t0 t1 t : List Nat} (h : OneB R wb wr F p d q t0 t1) : OneB R wb (wr.setCell ⟨q, 0, none⟩ (.string (ofNats t))) F p d q t t1 := by
  have ho : Onl (fun k => k = q) wr (wr.setCell ⟨q, 0, none⟩ (.string (ofNats t))) := (Onl.refl (fun k => k = q) wr).set (p := q) rfl _ _
  exact ⟨I.keep h.at' ho (fun k hk e => h.nq (e ▸ hk)), h.low, h.bl.trans (ho.below (fun k e => e ▸ h.lq) h.bl.size), h.nq, h.lq, World.cell?_setCell_same _ _ _ h.c0, cell_setc (by simp) h.c1, h.loose.setc _ _⟩
theorem OneB.set1 (I : Face R) {wb wr : World} {F : Nat → Prop} {p : Nat} {d : Dk} {q : Nat} {t0 t1 t : List Nat} (h : OneB R wb wr F p d q t0 t1) : OneB R wb (wr.setCell ⟨q, 1, none⟩ (.string (ofNats t))) F p d q t0 t := by
  have ho : Onl (fun k => k = q) wr (wr.setCell ⟨q, 1, none⟩ (.string (ofNats t))) := (Onl.refl (fun k => k = q) wr).set (p := q) rfl _ _
  exact ⟨I.keep h.at' ho (fun k hk e => h.nq (e ▸ hk)), h.low, h.bl.trans (ho.below (fun k e => e ▸ h.lq) h.bl.size), h.nq, h.lq, cell_setc (by simp) h.c0, World.cell?_setCell_same _ _ _ h.c1, h.loose.setc _ _⟩

set_option maxHeartbeats 8000000 in
set_option maxRecDepth 8000 in
theorem durable_law (I : Face R) {w : World} {c : Int} {a1 a2 : Option Addr} {k1 k2 : Nat} {xs ys : List Stp} (hc : I64 c) (hx : RowS w a1 xs) (hy : RowS w a2 ys) (hxl : xs.length ≤ 9223372036854775807) (hyl : ys.length ≤ 9223372036854775807) :
    Calls Try.prog 4 #[.agg #[.int .i64 c, .slice a1 xs.length k1, .slice a2 ys.length k2]] w fun e w' => e = .returned (.bool true) ∧ Below w.heap.size w w' := by
  have hbox := boxT w c a1 a2 xs.length k1 ys.length k2 24
  obtain ⟨wb, hwb⟩ : ∃ wb, wb = w.alloc (.cells #[.int .i64 c, .slice a1 xs.length k1, .slice a2 ys.length k2] 24) := ⟨_, rfl⟩
  have hb0 : Below w.heap.size w wb := by rw [hwb]; exact Below.al (Below.refl _ _) _
  rw [← hwb] at hbox
  have HI := hid I
  have HX := hid (hx.below rfl hb0)
  have HY := hid (hy.below rfl hb0)
  have HC := hid hc
  have HBX := hid hbox
  have HB0 := hid hb0
  have HWB := hid hwb
  clear I hx hy hc hbox hb0 hwb
  go_enter Try.func4, Try.ntmps4
  go_wp2_with fail
  rw [← HWB.out]
  refine (HI.out.new c wb HC.out).mono ?_
  rintro e w1 ⟨p, F, rfl, hR, hF, hb1⟩
  have c0 := (HBX.out.later rfl hb1).c0
  have H1 : Hid (R w1 F p (Dk.new c) ∧ (∀ k, F k → wb.heap.size ≤ k) ∧ Below wb.heap.size wb w1) := ⟨hR, hF, hb1⟩
  clear hR hF hb1
  by_cases hpos : 0 < c
  · have hp' : decide (0 < c) = true := decide_eq_true hpos
    have HE := hid (new_app hpos 0 (.inl rfl) 115)
    have HD : Hid (durable0 c = (Dk.new c).app 0 [115]) := by show _ = _; unfold durable0; rw [if_pos hpos]
    have HBY : Hid (ofNats (((Dk.new c).app 0 [115]).bytes 0) = ⟨#[115]⟩) := by
      show _ = _
      have hf : ([115] : List Nat).length ≤ (Dk.new c).free := by
        have := fit_pos hpos
        simp [Dk.new, Dk.free, Dk.used]; omega
      unfold Dk.app
      rw [if_pos hf]
      rfl
    clear hpos
    go_wp2_with fail
    refine (HI.out.append H1.out.1 0 (t := [115]) ⟨by omega, by omega⟩ (B8.one (by omega))).mono ?_
    rintro e w2 ⟨rfl, hm⟩
    rw [HE.out]
    have hO2 : One R wb w2 p ((Dk.new c).app 0 [115]) := One.move H1.out.2.1 H1.out.2.2 hm
    obtain ⟨F2, hR2, hF2, hb2⟩ := hO2
    have H2 : Hid (R w2 F2 p ((Dk.new c).app 0 [115]) ∧ (∀ k, F2 k → wb.heap.size ≤ k) ∧ Below wb.heap.size wb w2) := ⟨hR2, hF2, hb2⟩
    clear hm hR2 hF2 hb2
    go_wp2_with fail
    refine (HI.out.bytes H2.out.1 0 ⟨by omega, by omega⟩).mono ?_
    rintro e w3 ⟨rfl, hb3⟩
    rw [HBY.out]
    have HO : Hid (One R wb w3 p (durable0 c)) := by show One R wb w3 p _; rw [HD.out]; exact ⟨F2, HI.out.later H2.out.1 hb3, H2.out.2.1, Below.on H2.out.2.2 hb3⟩
    clear hb3 H1 H2 HE HBY
    go_wp2_with fail
    go_loopg [4] xs.length (fun g s4 wr => ∃ k : Nat, k ≤ xs.length ∧ g = xs.length - k ∧ s4 = .int .i64 k ∧ Hid (One R wb wr p ((durable0 c).acts (xs.take k))))
    case atStart => exact ⟨0, by omega, by omega, rfl, HO⟩
    case round =>
      obtain ⟨k, hk, rfl, rfl, HK⟩ := hrel
      obtain ⟨F1, hR1, hF1, hb1⟩ := HK.out
      have c1 := (HBX.out.later rfl hb1).c1
      have H1 : Hid (R wr F1 p ((durable0 c).acts (xs.take k)) ∧ (∀ k, F1 k → wb.heap.size ≤ k) ∧ Below wb.heap.size wb wr) := ⟨hR1, hF1, hb1⟩
      by_cases hlt : k < xs.length
      · obtain ⟨hok, b, off, rfl, d0, d1, d2, d3, d4, d5⟩ := (HX.out.below rfl hb1) k hlt
        have hs : (durable0 c).acts (xs.take (k + 1)) = ((durable0 c).acts (xs.take k)).act (nthS xs k) := by rw [nthS_take hlt, acts_snoc]
        have HS := hid hs
        have HOK := hid hok
        clear hR1 hF1 hb1 hs hok
        go_wp2_with fail
        refine (act_any HI.out (x := nthS xs k) H1.out.1 HOK.out).mono ?_
        rintro e w2 ⟨rfl, hm⟩
        have HO2 : Hid (One R wb w2 p ((durable0 c).acts (xs.take (k + 1)))) := by show One R wb w2 p _; rw [HS.out]; exact One.move H1.out.2.1 H1.out.2.2 hm
        clear hm d0 d1 d2 d3 d4 d5 c1
        go_wp2_with fail
        go_roundg (xs.length - (k + 1))
        case measure => omega
        case rel => exact ⟨k + 1, by omega, rfl, by go_num, HO2⟩
      · obtain rfl : k = xs.length := by omega
        obtain ⟨de, hde⟩ : ∃ de, de = (durable0 c).acts (xs.take xs.length) := ⟨_, rfl⟩
        rw [← hde] at H1
        clear hR1 hF1 hb1 hde HK HO
        go_wp2_with fail
        refine (HI.out.sync H1.out.1).mono ?_
        rintro e w2 ⟨rfl, hm⟩
        obtain ⟨F2, hR2, hF2, hb2⟩ : One R wb w2 p de.sync := One.move H1.out.2.1 H1.out.2.2 hm
        have H2 : Hid (R w2 F2 p de.sync ∧ (∀ k, F2 k → wb.heap.size ≤ k) ∧ Below wb.heap.size wb w2) := ⟨hR2, hF2, hb2⟩
        clear hm hR2 hF2 hb2 H1
        obtain ⟨wz, hwz⟩ : ∃ wz, wz = w2.alloc (.cells #[.string ⟨#[]⟩, .string ⟨#[]⟩] 35) := ⟨_, rfl⟩
        obtain ⟨q, hq⟩ : ∃ q, q = w2.heap.size := ⟨_, rfl⟩
        have HZ : Hid (OneB R wb wz F2 p de.sync q [] []) := by
          have hb : Below w2.heap.size w2 wz := by rw [hwz]; exact Below.al (Below.refl _ _) _
          refine ⟨HI.out.later H2.out.1 hb, H2.out.2.1, Below.on H2.out.2.2 hb, fun h => by have := HI.out.lt H2.out.1 _ h; omega, by rw [hq]; exact H2.out.2.2.size, ?_, ?_, fun o => ?_⟩
          · rw [hwz, hq]; simp [go_sem]; rfl
          · rw [hwz, hq]; simp [go_sem]; rfl
          · rw [hwz, hq]; simp [go_sem]
        have HWZ := hid hwz
        have HQ := hid hq
        clear H2 hwz hq
        go_wp2_with fail
        rw [← HWZ.out, ← HQ.out]
        clear HWZ HQ
        obtain ⟨ds, hds⟩ : ∃ ds, ds = de.sync := ⟨_, rfl⟩
        have HDS : Hid (∃ de : Dk, ds = de.sync) := ⟨de, hds⟩
        rw [← hds] at HZ
        clear hds
        go_loopg [6] 2 (fun g s6 wr => ∃ k : Nat, k ≤ 2 ∧ g = 2 - k ∧ s6 = .int .i64 k ∧ ∃ F2, Hid (OneB R wb wr F2 p ds q (if k = 0 then [] else ds.x.b) (if k ≤ 1 then [] else ds.y.b)))
        case atStart => exact ⟨0, by omega, by omega, rfl, _, HZ⟩
        case round =>
          obtain ⟨k, hk, rfl, rfl, F3, HK⟩ := hrel
          obtain rfl | rfl | rfl : k = 0 ∨ k = 1 ∨ k = 2 := by omega
          · go_wp2_with fail
            refine (HI.out.bytes HK.out.at' 0 ⟨by omega, by omega⟩).mono ?_
            rintro e w3 ⟨rfl, hb3⟩
            have HK3 := hid (HK.out.later HI.out hb3)
            have d0 := HK3.out.c0
            have f0 := HK3.out.loose 0
            clear hb3
            go_wp2_with fail
            have HK4 := hid (HK3.out.set0 HI.out (t := ds.bytes 0))
            obtain ⟨w4, hw4⟩ : ∃ w4, w4 = w3.setCell ⟨q, 0, none⟩ (.string (ofNats (ds.bytes 0))) := ⟨_, rfl⟩
            rw [← hw4] at HK4 ⊢
            have g0 := cell_regrown HK4.out.c0
            have hsz : (ofNats (ds.bytes 0)).size = ds.synced 0 := by
              obtain ⟨de', hde'⟩ := HDS.out
              rw [ofNats_size, hde']; rfl
            clear d0 f0 hw4
            refine wp_region_quiet_below (by kernel_rfl) (by kernel_rfl) ?_
            repeat (go_big_quiet_step ((go_at_call 15; exact Calls.regrown_of (HI.out.synced (HI.out.later HK4.out.at' (below_regrown _ _ _)) 0 ⟨by omega, by omega⟩))))
            refine wpQuiet_nil ?_
            intro w5 hw5
            replace hw5 := below_of_regrown hw5
            have HK5 := hid (HK4.out.later HI.out hw5)
            clear hw5 g0
            go_wp2_with fail
            go_roundg 1
            case measure => omega
            case rel => exact ⟨1, by omega, rfl, by go_num, _, HK5⟩
          · go_wp2_with fail
            refine (HI.out.bytes HK.out.at' 1 ⟨by omega, by omega⟩).mono ?_
            rintro e w3 ⟨rfl, hb3⟩
            have HK3 := hid (HK.out.later HI.out hb3)
            have d0 := HK3.out.c1
            have f0 := HK3.out.loose 1
            clear hb3
            go_wp2_with fail
            have HK4 := hid (HK3.out.set1 HI.out (t := ds.bytes 1))
            obtain ⟨w4, hw4⟩ : ∃ w4, w4 = w3.setCell ⟨q, 1, none⟩ (.string (ofNats (ds.bytes 1))) := ⟨_, rfl⟩
            rw [← hw4] at HK4 ⊢
            have g0 := cell_regrown HK4.out.c1
            have hsz : (ofNats (ds.bytes 1)).size = ds.synced 1 := by
              obtain ⟨de', hde'⟩ := HDS.out
              rw [ofNats_size, hde']; rfl
            clear d0 f0 hw4
            refine wp_region_quiet_below (by kernel_rfl) (by kernel_rfl) ?_
            repeat (go_big_quiet_step ((go_at_call 15; exact Calls.regrown_of (HI.out.synced (HI.out.later HK4.out.at' (below_regrown _ _ _)) 1 ⟨by omega, by omega⟩))))
            refine wpQuiet_nil ?_
            intro w5 hw5
            replace hw5 := below_of_regrown hw5
            have HK5 := hid (HK4.out.later HI.out hw5)
            clear hw5 g0
            go_wp2_with fail
            go_roundg 0
            case measure => omega
            case rel => exact ⟨2, by omega, rfl, by go_num, _, HK5⟩
          · have HS : Hid (OneB R wb wr F3 p ds q ds.x.b ds.y.b ∧ StandsD ds ds) := ⟨HK.out, by obtain ⟨de', hde'⟩ := HDS.out; rw [hde']; exact StandsD.start de'⟩
            clear HZ HK HDS c1
            go_wp2_with fail
            go_loopg [7] ys.length (fun g s7 wr => ∃ k : Nat, k ≤ ys.length ∧ g = ys.length - k ∧ s7 = .int .i64 k ∧ ∃ F4 e, Hid (OneB R wb wr F4 p e q ds.x.b ds.y.b ∧ StandsD ds e))
            case atStart => exact ⟨0, by omega, by omega, rfl, _, _, HS⟩
            case round =>
              obtain ⟨k, hk, rfl, rfl, F4, e, HE⟩ := hrel
              clear HS
              have c2 := (HBX.out.later rfl HE.out.1.bl).c2
              by_cases hlt : k < ys.length
              · obtain ⟨hok, b, off, rfl, d0, d1, d2, d3, d4, d5⟩ := (HY.out.below rfl HE.out.1.bl) k hlt
                have HOK := hid hok
                obtain ⟨x, hx⟩ : ∃ x, x = nthS ys k := ⟨_, rfl⟩
                rw [← hx] at HOK d0 d1 d2 d3 d4 d5
                clear hok hx
                obtain ⟨wc, hwc⟩ : ∃ wc, wc = wr.alloc (.cells x.cells 29) := ⟨_, rfl⟩
                have hbc : Below wr.heap.size wr wc := by rw [hwc]; exact Below.al (Below.refl _ _) _
                have hs2 : wc.cell? ⟨wr.heap.size, 2, none⟩ = some (.int .i64 x.s) := by rw [hwc]; simp [go_sem, Stp.cells]
                have HW := hid hwc
                have HE1 : Hid (OneB R wb wc F4 p e q ds.x.b ds.y.b) := HE.out.1.later HI.out hbc
                obtain ⟨u, hu⟩ : ∃ u, cutsB x = u := ⟨_, rfl⟩
                have hb : ∀ i, wc.cell? ⟨wr.heap.size, i, none⟩ = x.cells[i]? := fun i => by rw [hwc]; simp [go_sem]
                go_wp2_with fail
                rw [← HW.out]
                refine (cuts_is hu _).mono ?_
                rintro e' w2 ⟨rfl, hb2⟩
                have HE2 := hid (HE1.out.later HI.out hb2)
                have b0 : w2.cell? ⟨wr.heap.size, 0, none⟩ = some (.int .i64 x.k) := cell_later hb2 (hb 0)
                have b1 : w2.cell? ⟨wr.heap.size, 1, none⟩ = some (.int .i64 x.o) := cell_later hb2 (hb 1)
                have b2 : w2.cell? ⟨wr.heap.size, 2, none⟩ = some (.int .i64 x.s) := cell_later hb2 (hb 2)
                have b3 : w2.cell? ⟨wr.heap.size, 3, none⟩ = some (.int .i64 x.n) := cell_later hb2 (hb 3)
                have b4 : w2.cell? ⟨wr.heap.size, 4, none⟩ = some (.int .i64 x.m) := cell_later hb2 (hb 4)
                have b5 : w2.cell? ⟨wr.heap.size, 5, none⟩ = some (.string (ofNats x.t)) := cell_later hb2 (hb 5)
                clear hb2 hb hbc hwc HW HE1 hs2 d0 d1 d2 d3 d4 d5
                by_cases hs0 : x.s = 0
                · have q0 : (x.s == 0) = true := by rw [hs0]; rfl
                  cases u
                  · have HC : Hid (¬ (cutsB x = true ∧ (x.s = 0 ∨ x.s = 1))) := fun h => by rw [hu] at h; exact absurd h.1 (by decide)
                    clear hu hs0
                    go_wp2_with fail
                    refine (act_any HI.out (x := x) HE2.out.at' HOK.out).mono ?_
                    rintro e' w3 ⟨rfl, hm⟩
                    obtain ⟨F5, h5⟩ := HE2.out.move hm
                    have hst := HE.out.2.act (HI.out.ok HE2.out.at') HC.out
                    obtain ⟨e1, he1⟩ : ∃ e1, e1 = e.act x := ⟨_, rfl⟩
                    rw [← he1] at h5 hst
                    have HE5 := hid h5
                    have HST := hid hst
                    clear hm h5 hst he1 b0 b1 b2 b3 b4 b5 c2 HE2 HE HC
                    go_wp2_with fail
                    go_loopg [9] 2 (fun g s9 wr => ∃ j : Nat, j ≤ 2 ∧ g = 2 - j ∧ s9 = .int .i64 j ∧ Hid (OneB R wb wr F5 p e1 q ds.x.b ds.y.b))
                    case atStart => exact ⟨0, by omega, by omega, rfl, HE5⟩
                    case round =>
                      obtain ⟨j, hj, rfl, rfl, HJ⟩ := hrel
                      clear HE5
                      obtain rfl | rfl | rfl : j = 0 ∨ j = 1 ∨ j = 2 := by omega
                      · obtain ⟨⟨r, hr0⟩, hle0⟩ := HST.out.at (j := 0) (by omega)
                        have hr : e1.bytes 0 = ds.bytes 0 ++ r := hr0
                        have hle : (ds.bytes 0).length ≤ e1.synced 0 := hle0
                        have d0 := HJ.out.c0
                        obtain ⟨T, hT⟩ : ∃ T, T = ofNats (ds.bytes 0) := ⟨_, rfl⟩
                        obtain ⟨N, hN⟩ : ∃ N, N = ofNats (e1.bytes 0) := ⟨_, rfl⟩
                        obtain ⟨sy, hsy⟩ : ∃ sy, sy = e1.synced 0 := ⟨_, rfl⟩
                        have hTs : T.size = (ds.bytes 0).length := by rw [hT, ofNats_size]
                        have hNs : N.size = (ds.bytes 0).length + r.length := by rw [hN, ofNats_size, hr, List.length_append]
                        have hb8 : B8 (e1.bytes 0) := (HI.out.ok HJ.out.at').bx
                        have hex : N.extract 0 T.size = T := by
                          rw [hN, ofNats_extract hb8, hTs, hr, hT, List.take_left, List.drop_zero]
                        have l1 : T.size ≤ N.size := by omega
                        have l2 : decide (N.size < T.size) = false := decide_eq_false (by omega)
                        have l3 : decide (sy < T.size) = false := decide_eq_false (by rw [hsy, hTs]; omega)
                        have d0' : wr.cell? ⟨q, 0, none⟩ = some (.string T) := by rw [hT]; exact d0
                        have HBY := hid (HI.out.bytes HJ.out.at' 0 ⟨by omega, by omega⟩)
                        rw [← hN] at HBY
                        have HSY : Hid (∀ w', Below wr.heap.size wr w' → Calls Try.prog 15 #[ptr p, .int .i64 0] w' fun e w'' => e = .returned (.int .i64 (sy : Int)) ∧ Below w'.heap.size w' w'') := fun w' hb => by
                          rw [hsy]; exact HI.out.synced (HI.out.later HJ.out.at' hb) 0 ⟨by omega, by omega⟩
                        clear hr hr0 hle hle0 hT hN hsy hTs hNs hb8 d0
                        go_wp2_with fail
                        refine HBY.out.mono ?_
                        rintro e' w4 ⟨rfl, hb4⟩
                        have HB4 := hid hb4
                        have g0 := cell_regrown (cell_later hb4 d0')
                        clear hb4 HBY
                        go_wp2_with fail
                        refine wp_region_quiet_below (by kernel_rfl) (by kernel_rfl) ?_
                        repeat (go_big_quiet_step ((go_at_call 15; exact Calls.regrown_of (HSY.out _ (Below.on HB4.out (below_regrown _ _ _))))))
                        refine wpQuiet_nil ?_
                        intro w5 hw5
                        replace hw5 := below_of_regrown hw5
                        have HJ5 := hid (HJ.out.later HI.out (Below.on HB4.out hw5))
                        clear hw5 g0 d0'
                        go_wp2_with fail
                        go_roundg 1
                        case measure => omega
                        case rel => exact ⟨1, by omega, rfl, by go_num, HJ5⟩
                      · obtain ⟨⟨r, hr0⟩, hle0⟩ := HST.out.at (j := 1) (by omega)
                        have hr : e1.bytes 1 = ds.bytes 1 ++ r := hr0
                        have hle : (ds.bytes 1).length ≤ e1.synced 1 := hle0
                        have d0 := HJ.out.c1
                        obtain ⟨T, hT⟩ : ∃ T, T = ofNats (ds.bytes 1) := ⟨_, rfl⟩
                        obtain ⟨N, hN⟩ : ∃ N, N = ofNats (e1.bytes 1) := ⟨_, rfl⟩
                        obtain ⟨sy, hsy⟩ : ∃ sy, sy = e1.synced 1 := ⟨_, rfl⟩
                        have hTs : T.size = (ds.bytes 1).length := by rw [hT, ofNats_size]
                        have hNs : N.size = (ds.bytes 1).length + r.length := by rw [hN, ofNats_size, hr, List.length_append]
                        have hb8 : B8 (e1.bytes 1) := (HI.out.ok HJ.out.at').by'
                        have hex : N.extract 0 T.size = T := by
                          rw [hN, ofNats_extract hb8, hTs, hr, hT, List.take_left, List.drop_zero]
                        have l1 : T.size ≤ N.size := by omega
                        have l2 : decide (N.size < T.size) = false := decide_eq_false (by omega)
                        have l3 : decide (sy < T.size) = false := decide_eq_false (by rw [hsy, hTs]; omega)
                        have d0' : wr.cell? ⟨q, 1, none⟩ = some (.string T) := by rw [hT]; exact d0
                        have HBY := hid (HI.out.bytes HJ.out.at' 1 ⟨by omega, by omega⟩)
                        rw [← hN] at HBY
                        have HSY : Hid (∀ w', Below wr.heap.size wr w' → Calls Try.prog 15 #[ptr p, .int .i64 1] w' fun e w'' => e = .returned (.int .i64 (sy : Int)) ∧ Below w'.heap.size w' w'') := fun w' hb => by
                          rw [hsy]; exact HI.out.synced (HI.out.later HJ.out.at' hb) 1 ⟨by omega, by omega⟩
                        clear hr hr0 hle hle0 hT hN hsy hTs hNs hb8 d0
                        go_wp2_with fail
                        refine HBY.out.mono ?_
                        rintro e' w4 ⟨rfl, hb4⟩
                        have HB4 := hid hb4
                        have g0 := cell_regrown (cell_later hb4 d0')
                        clear hb4 HBY
                        go_wp2_with fail
                        refine wp_region_quiet_below (by kernel_rfl) (by kernel_rfl) ?_
                        repeat (go_big_quiet_step ((go_at_call 15; exact Calls.regrown_of (HSY.out _ (Below.on HB4.out (below_regrown _ _ _))))))
                        refine wpQuiet_nil ?_
                        intro w5 hw5
                        replace hw5 := below_of_regrown hw5
                        have HJ5 := hid (HJ.out.later HI.out (Below.on HB4.out hw5))
                        clear hw5 g0 d0'
                        go_wp2_with fail
                        go_roundg 0
                        case measure => omega
                        case rel => exact ⟨2, by omega, rfl, by go_num, HJ5⟩
                      · go_wp2_with fail
                        go_roundg (ys.length - (k + 1))
                        case measure => omega
                        case rel => exact ⟨k + 1, by omega, rfl, by go_num, F5, e1, ⟨HJ.out, HST.out⟩⟩
                  · clear hu hs0
                    go_wp2_with fail
                    go_roundg (ys.length - (k + 1))
                    case measure => omega
                    case rel => exact ⟨k + 1, by omega, rfl, by go_num, _, _, ⟨HE2.out, HE.out.2⟩⟩
                · have q0 : (x.s == 0) = false := beq_eq_false_iff_ne.2 hs0
                  by_cases hs1 : x.s = 1
                  · have q1 : (x.s == 1) = true := by rw [hs1]; rfl
                    cases u
                    · have HC : Hid (¬ (cutsB x = true ∧ (x.s = 0 ∨ x.s = 1))) := fun h => by rw [hu] at h; exact absurd h.1 (by decide)
                      clear hu hs0 hs1
                      go_wp2_with fail
                      refine (act_any HI.out (x := x) HE2.out.at' HOK.out).mono ?_
                      rintro e' w3 ⟨rfl, hm⟩
                      obtain ⟨F5, h5⟩ := HE2.out.move hm
                      have hst := HE.out.2.act (HI.out.ok HE2.out.at') HC.out
                      obtain ⟨e1, he1⟩ : ∃ e1, e1 = e.act x := ⟨_, rfl⟩
                      rw [← he1] at h5 hst
                      have HE5 := hid h5
                      have HST := hid hst
                      clear hm h5 hst he1 b0 b1 b2 b3 b4 b5 c2 HE2 HE HC
                      go_wp2_with fail
                      go_loopg [9] 2 (fun g s9 wr => ∃ j : Nat, j ≤ 2 ∧ g = 2 - j ∧ s9 = .int .i64 j ∧ Hid (OneB R wb wr F5 p e1 q ds.x.b ds.y.b))
                      case atStart => exact ⟨0, by omega, by omega, rfl, HE5⟩
                      case round =>
                        obtain ⟨j, hj, rfl, rfl, HJ⟩ := hrel
                        clear HE5
                        obtain rfl | rfl | rfl : j = 0 ∨ j = 1 ∨ j = 2 := by omega
                        · obtain ⟨⟨r, hr0⟩, hle0⟩ := HST.out.at (j := 0) (by omega)
                          have hr : e1.bytes 0 = ds.bytes 0 ++ r := hr0
                          have hle : (ds.bytes 0).length ≤ e1.synced 0 := hle0
                          have d0 := HJ.out.c0
                          obtain ⟨T, hT⟩ : ∃ T, T = ofNats (ds.bytes 0) := ⟨_, rfl⟩
                          obtain ⟨N, hN⟩ : ∃ N, N = ofNats (e1.bytes 0) := ⟨_, rfl⟩
                          obtain ⟨sy, hsy⟩ : ∃ sy, sy = e1.synced 0 := ⟨_, rfl⟩
                          have hTs : T.size = (ds.bytes 0).length := by rw [hT, ofNats_size]
                          have hNs : N.size = (ds.bytes 0).length + r.length := by rw [hN, ofNats_size, hr, List.length_append]
                          have hb8 : B8 (e1.bytes 0) := (HI.out.ok HJ.out.at').bx
                          have hex : N.extract 0 T.size = T := by
                            rw [hN, ofNats_extract hb8, hTs, hr, hT, List.take_left, List.drop_zero]
                          have l1 : T.size ≤ N.size := by omega
                          have l2 : decide (N.size < T.size) = false := decide_eq_false (by omega)
                          have l3 : decide (sy < T.size) = false := decide_eq_false (by rw [hsy, hTs]; omega)
                          have d0' : wr.cell? ⟨q, 0, none⟩ = some (.string T) := by rw [hT]; exact d0
                          have HBY := hid (HI.out.bytes HJ.out.at' 0 ⟨by omega, by omega⟩)
                          rw [← hN] at HBY
                          have HSY : Hid (∀ w', Below wr.heap.size wr w' → Calls Try.prog 15 #[ptr p, .int .i64 0] w' fun e w'' => e = .returned (.int .i64 (sy : Int)) ∧ Below w'.heap.size w' w'') := fun w' hb => by
                            rw [hsy]; exact HI.out.synced (HI.out.later HJ.out.at' hb) 0 ⟨by omega, by omega⟩
                          clear hr hr0 hle hle0 hT hN hsy hTs hNs hb8 d0
                          go_wp2_with fail
                          refine HBY.out.mono ?_
                          rintro e' w4 ⟨rfl, hb4⟩
                          have HB4 := hid hb4
                          have g0 := cell_regrown (cell_later hb4 d0')
                          clear hb4 HBY
                          go_wp2_with fail
                          refine wp_region_quiet_below (by kernel_rfl) (by kernel_rfl) ?_
                          repeat (go_big_quiet_step ((go_at_call 15; exact Calls.regrown_of (HSY.out _ (Below.on HB4.out (below_regrown _ _ _))))))
                          refine wpQuiet_nil ?_
                          intro w5 hw5
                          replace hw5 := below_of_regrown hw5
                          have HJ5 := hid (HJ.out.later HI.out (Below.on HB4.out hw5))
                          clear hw5 g0 d0'
                          go_wp2_with fail
                          go_roundg 1
                          case measure => omega
                          case rel => exact ⟨1, by omega, rfl, by go_num, HJ5⟩
                        · obtain ⟨⟨r, hr0⟩, hle0⟩ := HST.out.at (j := 1) (by omega)
                          have hr : e1.bytes 1 = ds.bytes 1 ++ r := hr0
                          have hle : (ds.bytes 1).length ≤ e1.synced 1 := hle0
                          have d0 := HJ.out.c1
                          obtain ⟨T, hT⟩ : ∃ T, T = ofNats (ds.bytes 1) := ⟨_, rfl⟩
                          obtain ⟨N, hN⟩ : ∃ N, N = ofNats (e1.bytes 1) := ⟨_, rfl⟩
                          obtain ⟨sy, hsy⟩ : ∃ sy, sy = e1.synced 1 := ⟨_, rfl⟩
                          have hTs : T.size = (ds.bytes 1).length := by rw [hT, ofNats_size]
                          have hNs : N.size = (ds.bytes 1).length + r.length := by rw [hN, ofNats_size, hr, List.length_append]
                          have hb8 : B8 (e1.bytes 1) := (HI.out.ok HJ.out.at').by'
                          have hex : N.extract 0 T.size = T := by
                            rw [hN, ofNats_extract hb8, hTs, hr, hT, List.take_left, List.drop_zero]
                          have l1 : T.size ≤ N.size := by omega
                          have l2 : decide (N.size < T.size) = false := decide_eq_false (by omega)
                          have l3 : decide (sy < T.size) = false := decide_eq_false (by rw [hsy, hTs]; omega)
                          have d0' : wr.cell? ⟨q, 1, none⟩ = some (.string T) := by rw [hT]; exact d0
                          have HBY := hid (HI.out.bytes HJ.out.at' 1 ⟨by omega, by omega⟩)
                          rw [← hN] at HBY
                          have HSY : Hid (∀ w', Below wr.heap.size wr w' → Calls Try.prog 15 #[ptr p, .int .i64 1] w' fun e w'' => e = .returned (.int .i64 (sy : Int)) ∧ Below w'.heap.size w' w'') := fun w' hb => by
                            rw [hsy]; exact HI.out.synced (HI.out.later HJ.out.at' hb) 1 ⟨by omega, by omega⟩
                          clear hr hr0 hle hle0 hT hN hsy hTs hNs hb8 d0
                          go_wp2_with fail
                          refine HBY.out.mono ?_
                          rintro e' w4 ⟨rfl, hb4⟩
                          have HB4 := hid hb4
                          have g0 := cell_regrown (cell_later hb4 d0')
                          clear hb4 HBY
                          go_wp2_with fail
                          refine wp_region_quiet_below (by kernel_rfl) (by kernel_rfl) ?_
                          repeat (go_big_quiet_step ((go_at_call 15; exact Calls.regrown_of (HSY.out _ (Below.on HB4.out (below_regrown _ _ _))))))
                          refine wpQuiet_nil ?_
                          intro w5 hw5
                          replace hw5 := below_of_regrown hw5
                          have HJ5 := hid (HJ.out.later HI.out (Below.on HB4.out hw5))
                          clear hw5 g0 d0'
                          go_wp2_with fail
                          go_roundg 0
                          case measure => omega
                          case rel => exact ⟨2, by omega, rfl, by go_num, HJ5⟩
                        · go_wp2_with fail
                          go_roundg (ys.length - (k + 1))
                          case measure => omega
                          case rel => exact ⟨k + 1, by omega, rfl, by go_num, F5, e1, ⟨HJ.out, HST.out⟩⟩
                    · clear hu hs0 hs1
                      go_wp2_with fail
                      go_roundg (ys.length - (k + 1))
                      case measure => omega
                      case rel => exact ⟨k + 1, by omega, rfl, by go_num, _, _, ⟨HE2.out, HE.out.2⟩⟩
                  · have q1 : (x.s == 1) = false := beq_eq_false_iff_ne.2 hs1
                    have HC : Hid (¬ (cutsB x = true ∧ (x.s = 0 ∨ x.s = 1))) := fun h => h.2.elim hs0 hs1
                    clear hu hs0 hs1
                    cases u
                    · skip
                      go_wp2_with fail
                      refine (act_any HI.out (x := x) HE2.out.at' HOK.out).mono ?_
                      rintro e' w3 ⟨rfl, hm⟩
                      obtain ⟨F5, h5⟩ := HE2.out.move hm
                      have hst := HE.out.2.act (HI.out.ok HE2.out.at') HC.out
                      obtain ⟨e1, he1⟩ : ∃ e1, e1 = e.act x := ⟨_, rfl⟩
                      rw [← he1] at h5 hst
                      have HE5 := hid h5
                      have HST := hid hst
                      clear hm h5 hst he1 b0 b1 b2 b3 b4 b5 c2 HE2 HE HC
                      go_wp2_with fail
                      go_loopg [9] 2 (fun g s9 wr => ∃ j : Nat, j ≤ 2 ∧ g = 2 - j ∧ s9 = .int .i64 j ∧ Hid (OneB R wb wr F5 p e1 q ds.x.b ds.y.b))
                      case atStart => exact ⟨0, by omega, by omega, rfl, HE5⟩
                      case round =>
                        obtain ⟨j, hj, rfl, rfl, HJ⟩ := hrel
                        clear HE5
                        obtain rfl | rfl | rfl : j = 0 ∨ j = 1 ∨ j = 2 := by omega
                        · obtain ⟨⟨r, hr0⟩, hle0⟩ := HST.out.at (j := 0) (by omega)
                          have hr : e1.bytes 0 = ds.bytes 0 ++ r := hr0
                          have hle : (ds.bytes 0).length ≤ e1.synced 0 := hle0
                          have d0 := HJ.out.c0
                          obtain ⟨T, hT⟩ : ∃ T, T = ofNats (ds.bytes 0) := ⟨_, rfl⟩
                          obtain ⟨N, hN⟩ : ∃ N, N = ofNats (e1.bytes 0) := ⟨_, rfl⟩
                          obtain ⟨sy, hsy⟩ : ∃ sy, sy = e1.synced 0 := ⟨_, rfl⟩
                          have hTs : T.size = (ds.bytes 0).length := by rw [hT, ofNats_size]
                          have hNs : N.size = (ds.bytes 0).length + r.length := by rw [hN, ofNats_size, hr, List.length_append]
                          have hb8 : B8 (e1.bytes 0) := (HI.out.ok HJ.out.at').bx
                          have hex : N.extract 0 T.size = T := by
                            rw [hN, ofNats_extract hb8, hTs, hr, hT, List.take_left, List.drop_zero]
                          have l1 : T.size ≤ N.size := by omega
                          have l2 : decide (N.size < T.size) = false := decide_eq_false (by omega)
                          have l3 : decide (sy < T.size) = false := decide_eq_false (by rw [hsy, hTs]; omega)
                          have d0' : wr.cell? ⟨q, 0, none⟩ = some (.string T) := by rw [hT]; exact d0
                          have HBY := hid (HI.out.bytes HJ.out.at' 0 ⟨by omega, by omega⟩)
                          rw [← hN] at HBY
                          have HSY : Hid (∀ w', Below wr.heap.size wr w' → Calls Try.prog 15 #[ptr p, .int .i64 0] w' fun e w'' => e = .returned (.int .i64 (sy : Int)) ∧ Below w'.heap.size w' w'') := fun w' hb => by
                            rw [hsy]; exact HI.out.synced (HI.out.later HJ.out.at' hb) 0 ⟨by omega, by omega⟩
                          clear hr hr0 hle hle0 hT hN hsy hTs hNs hb8 d0
                          go_wp2_with fail
                          refine HBY.out.mono ?_
                          rintro e' w4 ⟨rfl, hb4⟩
                          have HB4 := hid hb4
                          have g0 := cell_regrown (cell_later hb4 d0')
                          clear hb4 HBY
                          go_wp2_with fail
                          refine wp_region_quiet_below (by kernel_rfl) (by kernel_rfl) ?_
                          repeat (go_big_quiet_step ((go_at_call 15; exact Calls.regrown_of (HSY.out _ (Below.on HB4.out (below_regrown _ _ _))))))
                          refine wpQuiet_nil ?_
                          intro w5 hw5
                          replace hw5 := below_of_regrown hw5
                          have HJ5 := hid (HJ.out.later HI.out (Below.on HB4.out hw5))
                          clear hw5 g0 d0'
                          go_wp2_with fail
                          go_roundg 1
                          case measure => omega
                          case rel => exact ⟨1, by omega, rfl, by go_num, HJ5⟩
                        · obtain ⟨⟨r, hr0⟩, hle0⟩ := HST.out.at (j := 1) (by omega)
                          have hr : e1.bytes 1 = ds.bytes 1 ++ r := hr0
                          have hle : (ds.bytes 1).length ≤ e1.synced 1 := hle0
                          have d0 := HJ.out.c1
                          obtain ⟨T, hT⟩ : ∃ T, T = ofNats (ds.bytes 1) := ⟨_, rfl⟩
                          obtain ⟨N, hN⟩ : ∃ N, N = ofNats (e1.bytes 1) := ⟨_, rfl⟩
                          obtain ⟨sy, hsy⟩ : ∃ sy, sy = e1.synced 1 := ⟨_, rfl⟩
                          have hTs : T.size = (ds.bytes 1).length := by rw [hT, ofNats_size]
                          have hNs : N.size = (ds.bytes 1).length + r.length := by rw [hN, ofNats_size, hr, List.length_append]
                          have hb8 : B8 (e1.bytes 1) := (HI.out.ok HJ.out.at').by'
                          have hex : N.extract 0 T.size = T := by
                            rw [hN, ofNats_extract hb8, hTs, hr, hT, List.take_left, List.drop_zero]
                          have l1 : T.size ≤ N.size := by omega
                          have l2 : decide (N.size < T.size) = false := decide_eq_false (by omega)
                          have l3 : decide (sy < T.size) = false := decide_eq_false (by rw [hsy, hTs]; omega)
                          have d0' : wr.cell? ⟨q, 1, none⟩ = some (.string T) := by rw [hT]; exact d0
                          have HBY := hid (HI.out.bytes HJ.out.at' 1 ⟨by omega, by omega⟩)
                          rw [← hN] at HBY
                          have HSY : Hid (∀ w', Below wr.heap.size wr w' → Calls Try.prog 15 #[ptr p, .int .i64 1] w' fun e w'' => e = .returned (.int .i64 (sy : Int)) ∧ Below w'.heap.size w' w'') := fun w' hb => by
                            rw [hsy]; exact HI.out.synced (HI.out.later HJ.out.at' hb) 1 ⟨by omega, by omega⟩
                          clear hr hr0 hle hle0 hT hN hsy hTs hNs hb8 d0
                          go_wp2_with fail
                          refine HBY.out.mono ?_
                          rintro e' w4 ⟨rfl, hb4⟩
                          have HB4 := hid hb4
                          have g0 := cell_regrown (cell_later hb4 d0')
                          clear hb4 HBY
                          go_wp2_with fail
                          refine wp_region_quiet_below (by kernel_rfl) (by kernel_rfl) ?_
                          repeat (go_big_quiet_step ((go_at_call 15; exact Calls.regrown_of (HSY.out _ (Below.on HB4.out (below_regrown _ _ _))))))
                          refine wpQuiet_nil ?_
                          intro w5 hw5
                          replace hw5 := below_of_regrown hw5
                          have HJ5 := hid (HJ.out.later HI.out (Below.on HB4.out hw5))
                          clear hw5 g0 d0'
                          go_wp2_with fail
                          go_roundg 0
                          case measure => omega
                          case rel => exact ⟨2, by omega, rfl, by go_num, HJ5⟩
                        · go_wp2_with fail
                          go_roundg (ys.length - (k + 1))
                          case measure => omega
                          case rel => exact ⟨k + 1, by omega, rfl, by go_num, F5, e1, ⟨HJ.out, HST.out⟩⟩
                    · skip
                      go_wp2_with fail
                      refine (act_any HI.out (x := x) HE2.out.at' HOK.out).mono ?_
                      rintro e' w3 ⟨rfl, hm⟩
                      obtain ⟨F5, h5⟩ := HE2.out.move hm
                      have hst := HE.out.2.act (HI.out.ok HE2.out.at') HC.out
                      obtain ⟨e1, he1⟩ : ∃ e1, e1 = e.act x := ⟨_, rfl⟩
                      rw [← he1] at h5 hst
                      have HE5 := hid h5
                      have HST := hid hst
                      clear hm h5 hst he1 b0 b1 b2 b3 b4 b5 c2 HE2 HE HC
                      go_wp2_with fail
                      go_loopg [9] 2 (fun g s9 wr => ∃ j : Nat, j ≤ 2 ∧ g = 2 - j ∧ s9 = .int .i64 j ∧ Hid (OneB R wb wr F5 p e1 q ds.x.b ds.y.b))
                      case atStart => exact ⟨0, by omega, by omega, rfl, HE5⟩
                      case round =>
                        obtain ⟨j, hj, rfl, rfl, HJ⟩ := hrel
                        clear HE5
                        obtain rfl | rfl | rfl : j = 0 ∨ j = 1 ∨ j = 2 := by omega
                        · obtain ⟨⟨r, hr0⟩, hle0⟩ := HST.out.at (j := 0) (by omega)
                          have hr : e1.bytes 0 = ds.bytes 0 ++ r := hr0
                          have hle : (ds.bytes 0).length ≤ e1.synced 0 := hle0
                          have d0 := HJ.out.c0
                          obtain ⟨T, hT⟩ : ∃ T, T = ofNats (ds.bytes 0) := ⟨_, rfl⟩
                          obtain ⟨N, hN⟩ : ∃ N, N = ofNats (e1.bytes 0) := ⟨_, rfl⟩
                          obtain ⟨sy, hsy⟩ : ∃ sy, sy = e1.synced 0 := ⟨_, rfl⟩
                          have hTs : T.size = (ds.bytes 0).length := by rw [hT, ofNats_size]
                          have hNs : N.size = (ds.bytes 0).length + r.length := by rw [hN, ofNats_size, hr, List.length_append]
                          have hb8 : B8 (e1.bytes 0) := (HI.out.ok HJ.out.at').bx
                          have hex : N.extract 0 T.size = T := by
                            rw [hN, ofNats_extract hb8, hTs, hr, hT, List.take_left, List.drop_zero]
                          have l1 : T.size ≤ N.size := by omega
                          have l2 : decide (N.size < T.size) = false := decide_eq_false (by omega)
                          have l3 : decide (sy < T.size) = false := decide_eq_false (by rw [hsy, hTs]; omega)
                          have d0' : wr.cell? ⟨q, 0, none⟩ = some (.string T) := by rw [hT]; exact d0
                          have HBY := hid (HI.out.bytes HJ.out.at' 0 ⟨by omega, by omega⟩)
                          rw [← hN] at HBY
                          have HSY : Hid (∀ w', Below wr.heap.size wr w' → Calls Try.prog 15 #[ptr p, .int .i64 0] w' fun e w'' => e = .returned (.int .i64 (sy : Int)) ∧ Below w'.heap.size w' w'') := fun w' hb => by
                            rw [hsy]; exact HI.out.synced (HI.out.later HJ.out.at' hb) 0 ⟨by omega, by omega⟩
                          clear hr hr0 hle hle0 hT hN hsy hTs hNs hb8 d0
                          go_wp2_with fail
                          refine HBY.out.mono ?_
                          rintro e' w4 ⟨rfl, hb4⟩
                          have HB4 := hid hb4
                          have g0 := cell_regrown (cell_later hb4 d0')
                          clear hb4 HBY
                          go_wp2_with fail
                          refine wp_region_quiet_below (by kernel_rfl) (by kernel_rfl) ?_
                          repeat (go_big_quiet_step ((go_at_call 15; exact Calls.regrown_of (HSY.out _ (Below.on HB4.out (below_regrown _ _ _))))))
                          refine wpQuiet_nil ?_
                          intro w5 hw5
                          replace hw5 := below_of_regrown hw5
                          have HJ5 := hid (HJ.out.later HI.out (Below.on HB4.out hw5))
                          clear hw5 g0 d0'
                          go_wp2_with fail
                          go_roundg 1
                          case measure => omega
                          case rel => exact ⟨1, by omega, rfl, by go_num, HJ5⟩
                        · obtain ⟨⟨r, hr0⟩, hle0⟩ := HST.out.at (j := 1) (by omega)
                          have hr : e1.bytes 1 = ds.bytes 1 ++ r := hr0
                          have hle : (ds.bytes 1).length ≤ e1.synced 1 := hle0
                          have d0 := HJ.out.c1
                          obtain ⟨T, hT⟩ : ∃ T, T = ofNats (ds.bytes 1) := ⟨_, rfl⟩
                          obtain ⟨N, hN⟩ : ∃ N, N = ofNats (e1.bytes 1) := ⟨_, rfl⟩
                          obtain ⟨sy, hsy⟩ : ∃ sy, sy = e1.synced 1 := ⟨_, rfl⟩
                          have hTs : T.size = (ds.bytes 1).length := by rw [hT, ofNats_size]
                          have hNs : N.size = (ds.bytes 1).length + r.length := by rw [hN, ofNats_size, hr, List.length_append]
                          have hb8 : B8 (e1.bytes 1) := (HI.out.ok HJ.out.at').by'
                          have hex : N.extract 0 T.size = T := by
                            rw [hN, ofNats_extract hb8, hTs, hr, hT, List.take_left, List.drop_zero]
                          have l1 : T.size ≤ N.size := by omega
                          have l2 : decide (N.size < T.size) = false := decide_eq_false (by omega)
                          have l3 : decide (sy < T.size) = false := decide_eq_false (by rw [hsy, hTs]; omega)
                          have d0' : wr.cell? ⟨q, 1, none⟩ = some (.string T) := by rw [hT]; exact d0
                          have HBY := hid (HI.out.bytes HJ.out.at' 1 ⟨by omega, by omega⟩)
                          rw [← hN] at HBY
                          have HSY : Hid (∀ w', Below wr.heap.size wr w' → Calls Try.prog 15 #[ptr p, .int .i64 1] w' fun e w'' => e = .returned (.int .i64 (sy : Int)) ∧ Below w'.heap.size w' w'') := fun w' hb => by
                            rw [hsy]; exact HI.out.synced (HI.out.later HJ.out.at' hb) 1 ⟨by omega, by omega⟩
                          clear hr hr0 hle hle0 hT hN hsy hTs hNs hb8 d0
                          go_wp2_with fail
                          refine HBY.out.mono ?_
                          rintro e' w4 ⟨rfl, hb4⟩
                          have HB4 := hid hb4
                          have g0 := cell_regrown (cell_later hb4 d0')
                          clear hb4 HBY
                          go_wp2_with fail
                          refine wp_region_quiet_below (by kernel_rfl) (by kernel_rfl) ?_
                          repeat (go_big_quiet_step ((go_at_call 15; exact Calls.regrown_of (HSY.out _ (Below.on HB4.out (below_regrown _ _ _))))))
                          refine wpQuiet_nil ?_
                          intro w5 hw5
                          replace hw5 := below_of_regrown hw5
                          have HJ5 := hid (HJ.out.later HI.out (Below.on HB4.out hw5))
                          clear hw5 g0 d0'
                          go_wp2_with fail
                          go_roundg 0
                          case measure => omega
                          case rel => exact ⟨2, by omega, rfl, by go_num, HJ5⟩
                        · go_wp2_with fail
                          go_roundg (ys.length - (k + 1))
                          case measure => omega
                          case rel => exact ⟨k + 1, by omega, rfl, by go_num, F5, e1, ⟨HJ.out, HST.out⟩⟩
              · obtain rfl : k = ys.length := by omega
                go_wp2_with fail
                go_ret
                exact ⟨rfl, Below.on HB0.out HE.out.1.bl⟩
  · have hp' : decide (0 < c) = false := decide_eq_false hpos
    have HD : Hid (durable0 c = Dk.new c) := by show _ = _; unfold durable0; rw [if_neg hpos]
    have HO : Hid (One R wb w1 p (durable0 c)) := by show One R wb w1 p _; rw [HD.out]; exact ⟨F, H1.out.1, H1.out.2.1, H1.out.2.2⟩
    clear H1 hpos
    go_wp2_with fail
    go_loopg [4] xs.length (fun g s4 wr => ∃ k : Nat, k ≤ xs.length ∧ g = xs.length - k ∧ s4 = .int .i64 k ∧ Hid (One R wb wr p ((durable0 c).acts (xs.take k))))
    case atStart => exact ⟨0, by omega, by omega, rfl, HO⟩
    case round =>
      obtain ⟨k, hk, rfl, rfl, HK⟩ := hrel
      obtain ⟨F1, hR1, hF1, hb1⟩ := HK.out
      have c1 := (HBX.out.later rfl hb1).c1
      have H1 : Hid (R wr F1 p ((durable0 c).acts (xs.take k)) ∧ (∀ k, F1 k → wb.heap.size ≤ k) ∧ Below wb.heap.size wb wr) := ⟨hR1, hF1, hb1⟩
      by_cases hlt : k < xs.length
      · obtain ⟨hok, b, off, rfl, d0, d1, d2, d3, d4, d5⟩ := (HX.out.below rfl hb1) k hlt
        have hs : (durable0 c).acts (xs.take (k + 1)) = ((durable0 c).acts (xs.take k)).act (nthS xs k) := by rw [nthS_take hlt, acts_snoc]
        have HS := hid hs
        have HOK := hid hok
        clear hR1 hF1 hb1 hs hok
        go_wp2_with fail
        refine (act_any HI.out (x := nthS xs k) H1.out.1 HOK.out).mono ?_
        rintro e w2 ⟨rfl, hm⟩
        have HO2 : Hid (One R wb w2 p ((durable0 c).acts (xs.take (k + 1)))) := by show One R wb w2 p _; rw [HS.out]; exact One.move H1.out.2.1 H1.out.2.2 hm
        clear hm d0 d1 d2 d3 d4 d5 c1
        go_wp2_with fail
        go_roundg (xs.length - (k + 1))
        case measure => omega
        case rel => exact ⟨k + 1, by omega, rfl, by go_num, HO2⟩
      · obtain rfl : k = xs.length := by omega
        obtain ⟨de, hde⟩ : ∃ de, de = (durable0 c).acts (xs.take xs.length) := ⟨_, rfl⟩
        rw [← hde] at H1
        clear hR1 hF1 hb1 hde HK HO
        go_wp2_with fail
        refine (HI.out.sync H1.out.1).mono ?_
        rintro e w2 ⟨rfl, hm⟩
        obtain ⟨F2, hR2, hF2, hb2⟩ : One R wb w2 p de.sync := One.move H1.out.2.1 H1.out.2.2 hm
        have H2 : Hid (R w2 F2 p de.sync ∧ (∀ k, F2 k → wb.heap.size ≤ k) ∧ Below wb.heap.size wb w2) := ⟨hR2, hF2, hb2⟩
        clear hm hR2 hF2 hb2 H1
        obtain ⟨wz, hwz⟩ : ∃ wz, wz = w2.alloc (.cells #[.string ⟨#[]⟩, .string ⟨#[]⟩] 35) := ⟨_, rfl⟩
        obtain ⟨q, hq⟩ : ∃ q, q = w2.heap.size := ⟨_, rfl⟩
        have HZ : Hid (OneB R wb wz F2 p de.sync q [] []) := by
          have hb : Below w2.heap.size w2 wz := by rw [hwz]; exact Below.al (Below.refl _ _) _
          refine ⟨HI.out.later H2.out.1 hb, H2.out.2.1, Below.on H2.out.2.2 hb, fun h => by have := HI.out.lt H2.out.1 _ h; omega, by rw [hq]; exact H2.out.2.2.size, ?_, ?_, fun o => ?_⟩
          · rw [hwz, hq]; simp [go_sem]; rfl
          · rw [hwz, hq]; simp [go_sem]; rfl
          · rw [hwz, hq]; simp [go_sem]
        have HWZ := hid hwz
        have HQ := hid hq
        clear H2 hwz hq
        go_wp2_with fail
        rw [← HWZ.out, ← HQ.out]
        clear HWZ HQ
        obtain ⟨ds, hds⟩ : ∃ ds, ds = de.sync := ⟨_, rfl⟩
        have HDS : Hid (∃ de : Dk, ds = de.sync) := ⟨de, hds⟩
        rw [← hds] at HZ
        clear hds
        go_loopg [6] 2 (fun g s6 wr => ∃ k : Nat, k ≤ 2 ∧ g = 2 - k ∧ s6 = .int .i64 k ∧ ∃ F2, Hid (OneB R wb wr F2 p ds q (if k = 0 then [] else ds.x.b) (if k ≤ 1 then [] else ds.y.b)))
        case atStart => exact ⟨0, by omega, by omega, rfl, _, HZ⟩
        case round =>
          obtain ⟨k, hk, rfl, rfl, F3, HK⟩ := hrel
          obtain rfl | rfl | rfl : k = 0 ∨ k = 1 ∨ k = 2 := by omega
          · go_wp2_with fail
            refine (HI.out.bytes HK.out.at' 0 ⟨by omega, by omega⟩).mono ?_
            rintro e w3 ⟨rfl, hb3⟩
            have HK3 := hid (HK.out.later HI.out hb3)
            have d0 := HK3.out.c0
            have f0 := HK3.out.loose 0
            clear hb3
            go_wp2_with fail
            have HK4 := hid (HK3.out.set0 HI.out (t := ds.bytes 0))
            obtain ⟨w4, hw4⟩ : ∃ w4, w4 = w3.setCell ⟨q, 0, none⟩ (.string (ofNats (ds.bytes 0))) := ⟨_, rfl⟩
            rw [← hw4] at HK4 ⊢
            have g0 := cell_regrown HK4.out.c0
            have hsz : (ofNats (ds.bytes 0)).size = ds.synced 0 := by
              obtain ⟨de', hde'⟩ := HDS.out
              rw [ofNats_size, hde']; rfl
            clear d0 f0 hw4
            refine wp_region_quiet_below (by kernel_rfl) (by kernel_rfl) ?_
            repeat (go_big_quiet_step ((go_at_call 15; exact Calls.regrown_of (HI.out.synced (HI.out.later HK4.out.at' (below_regrown _ _ _)) 0 ⟨by omega, by omega⟩))))
            refine wpQuiet_nil ?_
            intro w5 hw5
            replace hw5 := below_of_regrown hw5
            have HK5 := hid (HK4.out.later HI.out hw5)
            clear hw5 g0
            go_wp2_with fail
            go_roundg 1
            case measure => omega
            case rel => exact ⟨1, by omega, rfl, by go_num, _, HK5⟩
          · go_wp2_with fail
            refine (HI.out.bytes HK.out.at' 1 ⟨by omega, by omega⟩).mono ?_
            rintro e w3 ⟨rfl, hb3⟩
            have HK3 := hid (HK.out.later HI.out hb3)
            have d0 := HK3.out.c1
            have f0 := HK3.out.loose 1
            clear hb3
            go_wp2_with fail
            have HK4 := hid (HK3.out.set1 HI.out (t := ds.bytes 1))
            obtain ⟨w4, hw4⟩ : ∃ w4, w4 = w3.setCell ⟨q, 1, none⟩ (.string (ofNats (ds.bytes 1))) := ⟨_, rfl⟩
            rw [← hw4] at HK4 ⊢
            have g0 := cell_regrown HK4.out.c1
            have hsz : (ofNats (ds.bytes 1)).size = ds.synced 1 := by
              obtain ⟨de', hde'⟩ := HDS.out
              rw [ofNats_size, hde']; rfl
            clear d0 f0 hw4
            refine wp_region_quiet_below (by kernel_rfl) (by kernel_rfl) ?_
            repeat (go_big_quiet_step ((go_at_call 15; exact Calls.regrown_of (HI.out.synced (HI.out.later HK4.out.at' (below_regrown _ _ _)) 1 ⟨by omega, by omega⟩))))
            refine wpQuiet_nil ?_
            intro w5 hw5
            replace hw5 := below_of_regrown hw5
            have HK5 := hid (HK4.out.later HI.out hw5)
            clear hw5 g0
            go_wp2_with fail
            go_roundg 0
            case measure => omega
            case rel => exact ⟨2, by omega, rfl, by go_num, _, HK5⟩
          · have HS : Hid (OneB R wb wr F3 p ds q ds.x.b ds.y.b ∧ StandsD ds ds) := ⟨HK.out, by obtain ⟨de', hde'⟩ := HDS.out; rw [hde']; exact StandsD.start de'⟩
            clear HZ HK HDS c1
            go_wp2_with fail
            go_loopg [7] ys.length (fun g s7 wr => ∃ k : Nat, k ≤ ys.length ∧ g = ys.length - k ∧ s7 = .int .i64 k ∧ ∃ F4 e, Hid (OneB R wb wr F4 p e q ds.x.b ds.y.b ∧ StandsD ds e))
            case atStart => exact ⟨0, by omega, by omega, rfl, _, _, HS⟩
            case round =>
              obtain ⟨k, hk, rfl, rfl, F4, e, HE⟩ := hrel
              clear HS
              have c2 := (HBX.out.later rfl HE.out.1.bl).c2
              by_cases hlt : k < ys.length
              · obtain ⟨hok, b, off, rfl, d0, d1, d2, d3, d4, d5⟩ := (HY.out.below rfl HE.out.1.bl) k hlt
                have HOK := hid hok
                obtain ⟨x, hx⟩ : ∃ x, x = nthS ys k := ⟨_, rfl⟩
                rw [← hx] at HOK d0 d1 d2 d3 d4 d5
                clear hok hx
                obtain ⟨wc, hwc⟩ : ∃ wc, wc = wr.alloc (.cells x.cells 29) := ⟨_, rfl⟩
                have hbc : Below wr.heap.size wr wc := by rw [hwc]; exact Below.al (Below.refl _ _) _
                have hs2 : wc.cell? ⟨wr.heap.size, 2, none⟩ = some (.int .i64 x.s) := by rw [hwc]; simp [go_sem, Stp.cells]
                have HW := hid hwc
                have HE1 : Hid (OneB R wb wc F4 p e q ds.x.b ds.y.b) := HE.out.1.later HI.out hbc
                obtain ⟨u, hu⟩ : ∃ u, cutsB x = u := ⟨_, rfl⟩
                have hb : ∀ i, wc.cell? ⟨wr.heap.size, i, none⟩ = x.cells[i]? := fun i => by rw [hwc]; simp [go_sem]
                go_wp2_with fail
                rw [← HW.out]
                refine (cuts_is hu _).mono ?_
                rintro e' w2 ⟨rfl, hb2⟩
                have HE2 := hid (HE1.out.later HI.out hb2)
                have b0 : w2.cell? ⟨wr.heap.size, 0, none⟩ = some (.int .i64 x.k) := cell_later hb2 (hb 0)
                have b1 : w2.cell? ⟨wr.heap.size, 1, none⟩ = some (.int .i64 x.o) := cell_later hb2 (hb 1)
                have b2 : w2.cell? ⟨wr.heap.size, 2, none⟩ = some (.int .i64 x.s) := cell_later hb2 (hb 2)
                have b3 : w2.cell? ⟨wr.heap.size, 3, none⟩ = some (.int .i64 x.n) := cell_later hb2 (hb 3)
                have b4 : w2.cell? ⟨wr.heap.size, 4, none⟩ = some (.int .i64 x.m) := cell_later hb2 (hb 4)
                have b5 : w2.cell? ⟨wr.heap.size, 5, none⟩ = some (.string (ofNats x.t)) := cell_later hb2 (hb 5)
                clear hb2 hb hbc hwc HW HE1 hs2 d0 d1 d2 d3 d4 d5
                by_cases hs0 : x.s = 0
                · have q0 : (x.s == 0) = true := by rw [hs0]; rfl
                  cases u
                  · have HC : Hid (¬ (cutsB x = true ∧ (x.s = 0 ∨ x.s = 1))) := fun h => by rw [hu] at h; exact absurd h.1 (by decide)
                    clear hu hs0
                    go_wp2_with fail
                    refine (act_any HI.out (x := x) HE2.out.at' HOK.out).mono ?_
                    rintro e' w3 ⟨rfl, hm⟩
                    obtain ⟨F5, h5⟩ := HE2.out.move hm
                    have hst := HE.out.2.act (HI.out.ok HE2.out.at') HC.out
                    obtain ⟨e1, he1⟩ : ∃ e1, e1 = e.act x := ⟨_, rfl⟩
                    rw [← he1] at h5 hst
                    have HE5 := hid h5
                    have HST := hid hst
                    clear hm h5 hst he1 b0 b1 b2 b3 b4 b5 c2 HE2 HE HC
                    go_wp2_with fail
                    go_loopg [9] 2 (fun g s9 wr => ∃ j : Nat, j ≤ 2 ∧ g = 2 - j ∧ s9 = .int .i64 j ∧ Hid (OneB R wb wr F5 p e1 q ds.x.b ds.y.b))
                    case atStart => exact ⟨0, by omega, by omega, rfl, HE5⟩
                    case round =>
                      obtain ⟨j, hj, rfl, rfl, HJ⟩ := hrel
                      clear HE5
                      obtain rfl | rfl | rfl : j = 0 ∨ j = 1 ∨ j = 2 := by omega
                      · obtain ⟨⟨r, hr0⟩, hle0⟩ := HST.out.at (j := 0) (by omega)
                        have hr : e1.bytes 0 = ds.bytes 0 ++ r := hr0
                        have hle : (ds.bytes 0).length ≤ e1.synced 0 := hle0
                        have d0 := HJ.out.c0
                        obtain ⟨T, hT⟩ : ∃ T, T = ofNats (ds.bytes 0) := ⟨_, rfl⟩
                        obtain ⟨N, hN⟩ : ∃ N, N = ofNats (e1.bytes 0) := ⟨_, rfl⟩
                        obtain ⟨sy, hsy⟩ : ∃ sy, sy = e1.synced 0 := ⟨_, rfl⟩
                        have hTs : T.size = (ds.bytes 0).length := by rw [hT, ofNats_size]
                        have hNs : N.size = (ds.bytes 0).length + r.length := by rw [hN, ofNats_size, hr, List.length_append]
                        have hb8 : B8 (e1.bytes 0) := (HI.out.ok HJ.out.at').bx
                        have hex : N.extract 0 T.size = T := by
                          rw [hN, ofNats_extract hb8, hTs, hr, hT, List.take_left, List.drop_zero]
                        have l1 : T.size ≤ N.size := by omega
                        have l2 : decide (N.size < T.size) = false := decide_eq_false (by omega)
                        have l3 : decide (sy < T.size) = false := decide_eq_false (by rw [hsy, hTs]; omega)
                        have d0' : wr.cell? ⟨q, 0, none⟩ = some (.string T) := by rw [hT]; exact d0
                        have HBY := hid (HI.out.bytes HJ.out.at' 0 ⟨by omega, by omega⟩)
                        rw [← hN] at HBY
                        have HSY : Hid (∀ w', Below wr.heap.size wr w' → Calls Try.prog 15 #[ptr p, .int .i64 0] w' fun e w'' => e = .returned (.int .i64 (sy : Int)) ∧ Below w'.heap.size w' w'') := fun w' hb => by
                          rw [hsy]; exact HI.out.synced (HI.out.later HJ.out.at' hb) 0 ⟨by omega, by omega⟩
                        clear hr hr0 hle hle0 hT hN hsy hTs hNs hb8 d0
                        go_wp2_with fail
                        refine HBY.out.mono ?_
                        rintro e' w4 ⟨rfl, hb4⟩
                        have HB4 := hid hb4
                        have g0 := cell_regrown (cell_later hb4 d0')
                        clear hb4 HBY
                        go_wp2_with fail
                        refine wp_region_quiet_below (by kernel_rfl) (by kernel_rfl) ?_
                        repeat (go_big_quiet_step ((go_at_call 15; exact Calls.regrown_of (HSY.out _ (Below.on HB4.out (below_regrown _ _ _))))))
                        refine wpQuiet_nil ?_
                        intro w5 hw5
                        replace hw5 := below_of_regrown hw5
                        have HJ5 := hid (HJ.out.later HI.out (Below.on HB4.out hw5))
                        clear hw5 g0 d0'
                        go_wp2_with fail
                        go_roundg 1
                        case measure => omega
                        case rel => exact ⟨1, by omega, rfl, by go_num, HJ5⟩
                      · obtain ⟨⟨r, hr0⟩, hle0⟩ := HST.out.at (j := 1) (by omega)
                        have hr : e1.bytes 1 = ds.bytes 1 ++ r := hr0
                        have hle : (ds.bytes 1).length ≤ e1.synced 1 := hle0
                        have d0 := HJ.out.c1
                        obtain ⟨T, hT⟩ : ∃ T, T = ofNats (ds.bytes 1) := ⟨_, rfl⟩
                        obtain ⟨N, hN⟩ : ∃ N, N = ofNats (e1.bytes 1) := ⟨_, rfl⟩
                        obtain ⟨sy, hsy⟩ : ∃ sy, sy = e1.synced 1 := ⟨_, rfl⟩
                        have hTs : T.size = (ds.bytes 1).length := by rw [hT, ofNats_size]
                        have hNs : N.size = (ds.bytes 1).length + r.length := by rw [hN, ofNats_size, hr, List.length_append]
                        have hb8 : B8 (e1.bytes 1) := (HI.out.ok HJ.out.at').by'
                        have hex : N.extract 0 T.size = T := by
                          rw [hN, ofNats_extract hb8, hTs, hr, hT, List.take_left, List.drop_zero]
                        have l1 : T.size ≤ N.size := by omega
                        have l2 : decide (N.size < T.size) = false := decide_eq_false (by omega)
                        have l3 : decide (sy < T.size) = false := decide_eq_false (by rw [hsy, hTs]; omega)
                        have d0' : wr.cell? ⟨q, 1, none⟩ = some (.string T) := by rw [hT]; exact d0
                        have HBY := hid (HI.out.bytes HJ.out.at' 1 ⟨by omega, by omega⟩)
                        rw [← hN] at HBY
                        have HSY : Hid (∀ w', Below wr.heap.size wr w' → Calls Try.prog 15 #[ptr p, .int .i64 1] w' fun e w'' => e = .returned (.int .i64 (sy : Int)) ∧ Below w'.heap.size w' w'') := fun w' hb => by
                          rw [hsy]; exact HI.out.synced (HI.out.later HJ.out.at' hb) 1 ⟨by omega, by omega⟩
                        clear hr hr0 hle hle0 hT hN hsy hTs hNs hb8 d0
                        go_wp2_with fail
                        refine HBY.out.mono ?_
                        rintro e' w4 ⟨rfl, hb4⟩
                        have HB4 := hid hb4
                        have g0 := cell_regrown (cell_later hb4 d0')
                        clear hb4 HBY
                        go_wp2_with fail
                        refine wp_region_quiet_below (by kernel_rfl) (by kernel_rfl) ?_
                        repeat (go_big_quiet_step ((go_at_call 15; exact Calls.regrown_of (HSY.out _ (Below.on HB4.out (below_regrown _ _ _))))))
                        refine wpQuiet_nil ?_
                        intro w5 hw5
                        replace hw5 := below_of_regrown hw5
                        have HJ5 := hid (HJ.out.later HI.out (Below.on HB4.out hw5))
                        clear hw5 g0 d0'
                        go_wp2_with fail
                        go_roundg 0
                        case measure => omega
                        case rel => exact ⟨2, by omega, rfl, by go_num, HJ5⟩
                      · go_wp2_with fail
                        go_roundg (ys.length - (k + 1))
                        case measure => omega
                        case rel => exact ⟨k + 1, by omega, rfl, by go_num, F5, e1, ⟨HJ.out, HST.out⟩⟩
                  · clear hu hs0
                    go_wp2_with fail
                    go_roundg (ys.length - (k + 1))
                    case measure => omega
                    case rel => exact ⟨k + 1, by omega, rfl, by go_num, _, _, ⟨HE2.out, HE.out.2⟩⟩
                · have q0 : (x.s == 0) = false := beq_eq_false_iff_ne.2 hs0
                  by_cases hs1 : x.s = 1
                  · have q1 : (x.s == 1) = true := by rw [hs1]; rfl
                    cases u
                    · have HC : Hid (¬ (cutsB x = true ∧ (x.s = 0 ∨ x.s = 1))) := fun h => by rw [hu] at h; exact absurd h.1 (by decide)
                      clear hu hs0 hs1
                      go_wp2_with fail
                      refine (act_any HI.out (x := x) HE2.out.at' HOK.out).mono ?_
                      rintro e' w3 ⟨rfl, hm⟩
                      obtain ⟨F5, h5⟩ := HE2.out.move hm
                      have hst := HE.out.2.act (HI.out.ok HE2.out.at') HC.out
                      obtain ⟨e1, he1⟩ : ∃ e1, e1 = e.act x := ⟨_, rfl⟩
                      rw [← he1] at h5 hst
                      have HE5 := hid h5
                      have HST := hid hst
                      clear hm h5 hst he1 b0 b1 b2 b3 b4 b5 c2 HE2 HE HC
                      go_wp2_with fail
                      go_loopg [9] 2 (fun g s9 wr => ∃ j : Nat, j ≤ 2 ∧ g = 2 - j ∧ s9 = .int .i64 j ∧ Hid (OneB R wb wr F5 p e1 q ds.x.b ds.y.b))
                      case atStart => exact ⟨0, by omega, by omega, rfl, HE5⟩
                      case round =>
                        obtain ⟨j, hj, rfl, rfl, HJ⟩ := hrel
                        clear HE5
                        obtain rfl | rfl | rfl : j = 0 ∨ j = 1 ∨ j = 2 := by omega
                        · obtain ⟨⟨r, hr0⟩, hle0⟩ := HST.out.at (j := 0) (by omega)
                          have hr : e1.bytes 0 = ds.bytes 0 ++ r := hr0
                          have hle : (ds.bytes 0).length ≤ e1.synced 0 := hle0
                          have d0 := HJ.out.c0
                          obtain ⟨T, hT⟩ : ∃ T, T = ofNats (ds.bytes 0) := ⟨_, rfl⟩
                          obtain ⟨N, hN⟩ : ∃ N, N = ofNats (e1.bytes 0) := ⟨_, rfl⟩
                          obtain ⟨sy, hsy⟩ : ∃ sy, sy = e1.synced 0 := ⟨_, rfl⟩
                          have hTs : T.size = (ds.bytes 0).length := by rw [hT, ofNats_size]
                          have hNs : N.size = (ds.bytes 0).length + r.length := by rw [hN, ofNats_size, hr, List.length_append]
                          have hb8 : B8 (e1.bytes 0) := (HI.out.ok HJ.out.at').bx
                          have hex : N.extract 0 T.size = T := by
                            rw [hN, ofNats_extract hb8, hTs, hr, hT, List.take_left, List.drop_zero]
                          have l1 : T.size ≤ N.size := by omega
                          have l2 : decide (N.size < T.size) = false := decide_eq_false (by omega)
                          have l3 : decide (sy < T.size) = false := decide_eq_false (by rw [hsy, hTs]; omega)
                          have d0' : wr.cell? ⟨q, 0, none⟩ = some (.string T) := by rw [hT]; exact d0
                          have HBY := hid (HI.out.bytes HJ.out.at' 0 ⟨by omega, by omega⟩)
                          rw [← hN] at HBY
                          have HSY : Hid (∀ w', Below wr.heap.size wr w' → Calls Try.prog 15 #[ptr p, .int .i64 0] w' fun e w'' => e = .returned (.int .i64 (sy : Int)) ∧ Below w'.heap.size w' w'') := fun w' hb => by
                            rw [hsy]; exact HI.out.synced (HI.out.later HJ.out.at' hb) 0 ⟨by omega, by omega⟩
                          clear hr hr0 hle hle0 hT hN hsy hTs hNs hb8 d0
                          go_wp2_with fail
                          refine HBY.out.mono ?_
                          rintro e' w4 ⟨rfl, hb4⟩
                          have HB4 := hid hb4
                          have g0 := cell_regrown (cell_later hb4 d0')
                          clear hb4 HBY
                          go_wp2_with fail
                          refine wp_region_quiet_below (by kernel_rfl) (by kernel_rfl) ?_
                          repeat (go_big_quiet_step ((go_at_call 15; exact Calls.regrown_of (HSY.out _ (Below.on HB4.out (below_regrown _ _ _))))))
                          refine wpQuiet_nil ?_
                          intro w5 hw5
                          replace hw5 := below_of_regrown hw5
                          have HJ5 := hid (HJ.out.later HI.out (Below.on HB4.out hw5))
                          clear hw5 g0 d0'
                          go_wp2_with fail
                          go_roundg 1
                          case measure => omega
                          case rel => exact ⟨1, by omega, rfl, by go_num, HJ5⟩
                        · obtain ⟨⟨r, hr0⟩, hle0⟩ := HST.out.at (j := 1) (by omega)
                          have hr : e1.bytes 1 = ds.bytes 1 ++ r := hr0
                          have hle : (ds.bytes 1).length ≤ e1.synced 1 := hle0
                          have d0 := HJ.out.c1
                          obtain ⟨T, hT⟩ : ∃ T, T = ofNats (ds.bytes 1) := ⟨_, rfl⟩
                          obtain ⟨N, hN⟩ : ∃ N, N = ofNats (e1.bytes 1) := ⟨_, rfl⟩
                          obtain ⟨sy, hsy⟩ : ∃ sy, sy = e1.synced 1 := ⟨_, rfl⟩
                          have hTs : T.size = (ds.bytes 1).length := by rw [hT, ofNats_size]
                          have hNs : N.size = (ds.bytes 1).length + r.length := by rw [hN, ofNats_size, hr, List.length_append]
                          have hb8 : B8 (e1.bytes 1) := (HI.out.ok HJ.out.at').by'
                          have hex : N.extract 0 T.size = T := by
                            rw [hN, ofNats_extract hb8, hTs, hr, hT, List.take_left, List.drop_zero]
                          have l1 : T.size ≤ N.size := by omega
                          have l2 : decide (N.size < T.size) = false := decide_eq_false (by omega)
                          have l3 : decide (sy < T.size) = false := decide_eq_false (by rw [hsy, hTs]; omega)
                          have d0' : wr.cell? ⟨q, 1, none⟩ = some (.string T) := by rw [hT]; exact d0
                          have HBY := hid (HI.out.bytes HJ.out.at' 1 ⟨by omega, by omega⟩)
                          rw [← hN] at HBY
                          have HSY : Hid (∀ w', Below wr.heap.size wr w' → Calls Try.prog 15 #[ptr p, .int .i64 1] w' fun e w'' => e = .returned (.int .i64 (sy : Int)) ∧ Below w'.heap.size w' w'') := fun w' hb => by
                            rw [hsy]; exact HI.out.synced (HI.out.later HJ.out.at' hb) 1 ⟨by omega, by omega⟩
                          clear hr hr0 hle hle0 hT hN hsy hTs hNs hb8 d0
                          go_wp2_with fail
                          refine HBY.out.mono ?_
                          rintro e' w4 ⟨rfl, hb4⟩
                          have HB4 := hid hb4
                          have g0 := cell_regrown (cell_later hb4 d0')
                          clear hb4 HBY
                          go_wp2_with fail
                          refine wp_region_quiet_below (by kernel_rfl) (by kernel_rfl) ?_
                          repeat (go_big_quiet_step ((go_at_call 15; exact Calls.regrown_of (HSY.out _ (Below.on HB4.out (below_regrown _ _ _))))))
                          refine wpQuiet_nil ?_
                          intro w5 hw5
                          replace hw5 := below_of_regrown hw5
                          have HJ5 := hid (HJ.out.later HI.out (Below.on HB4.out hw5))
                          clear hw5 g0 d0'
                          go_wp2_with fail
                          go_roundg 0
                          case measure => omega
                          case rel => exact ⟨2, by omega, rfl, by go_num, HJ5⟩
                        · go_wp2_with fail
                          go_roundg (ys.length - (k + 1))
                          case measure => omega
                          case rel => exact ⟨k + 1, by omega, rfl, by go_num, F5, e1, ⟨HJ.out, HST.out⟩⟩
                    · clear hu hs0 hs1
                      go_wp2_with fail
                      go_roundg (ys.length - (k + 1))
                      case measure => omega
                      case rel => exact ⟨k + 1, by omega, rfl, by go_num, _, _, ⟨HE2.out, HE.out.2⟩⟩
                  · have q1 : (x.s == 1) = false := beq_eq_false_iff_ne.2 hs1
                    have HC : Hid (¬ (cutsB x = true ∧ (x.s = 0 ∨ x.s = 1))) := fun h => h.2.elim hs0 hs1
                    clear hu hs0 hs1
                    cases u
                    · skip
                      go_wp2_with fail
                      refine (act_any HI.out (x := x) HE2.out.at' HOK.out).mono ?_
                      rintro e' w3 ⟨rfl, hm⟩
                      obtain ⟨F5, h5⟩ := HE2.out.move hm
                      have hst := HE.out.2.act (HI.out.ok HE2.out.at') HC.out
                      obtain ⟨e1, he1⟩ : ∃ e1, e1 = e.act x := ⟨_, rfl⟩
                      rw [← he1] at h5 hst
                      have HE5 := hid h5
                      have HST := hid hst
                      clear hm h5 hst he1 b0 b1 b2 b3 b4 b5 c2 HE2 HE HC
                      go_wp2_with fail
                      go_loopg [9] 2 (fun g s9 wr => ∃ j : Nat, j ≤ 2 ∧ g = 2 - j ∧ s9 = .int .i64 j ∧ Hid (OneB R wb wr F5 p e1 q ds.x.b ds.y.b))
                      case atStart => exact ⟨0, by omega, by omega, rfl, HE5⟩
                      case round =>
                        obtain ⟨j, hj, rfl, rfl, HJ⟩ := hrel
                        clear HE5
                        obtain rfl | rfl | rfl : j = 0 ∨ j = 1 ∨ j = 2 := by omega
                        · obtain ⟨⟨r, hr0⟩, hle0⟩ := HST.out.at (j := 0) (by omega)
                          have hr : e1.bytes 0 = ds.bytes 0 ++ r := hr0
                          have hle : (ds.bytes 0).length ≤ e1.synced 0 := hle0
                          have d0 := HJ.out.c0
                          obtain ⟨T, hT⟩ : ∃ T, T = ofNats (ds.bytes 0) := ⟨_, rfl⟩
                          obtain ⟨N, hN⟩ : ∃ N, N = ofNats (e1.bytes 0) := ⟨_, rfl⟩
                          obtain ⟨sy, hsy⟩ : ∃ sy, sy = e1.synced 0 := ⟨_, rfl⟩
                          have hTs : T.size = (ds.bytes 0).length := by rw [hT, ofNats_size]
                          have hNs : N.size = (ds.bytes 0).length + r.length := by rw [hN, ofNats_size, hr, List.length_append]
                          have hb8 : B8 (e1.bytes 0) := (HI.out.ok HJ.out.at').bx
                          have hex : N.extract 0 T.size = T := by
                            rw [hN, ofNats_extract hb8, hTs, hr, hT, List.take_left, List.drop_zero]
                          have l1 : T.size ≤ N.size := by omega
                          have l2 : decide (N.size < T.size) = false := decide_eq_false (by omega)
                          have l3 : decide (sy < T.size) = false := decide_eq_false (by rw [hsy, hTs]; omega)
                          have d0' : wr.cell? ⟨q, 0, none⟩ = some (.string T) := by rw [hT]; exact d0
                          have HBY := hid (HI.out.bytes HJ.out.at' 0 ⟨by omega, by omega⟩)
                          rw [← hN] at HBY
                          have HSY : Hid (∀ w', Below wr.heap.size wr w' → Calls Try.prog 15 #[ptr p, .int .i64 0] w' fun e w'' => e = .returned (.int .i64 (sy : Int)) ∧ Below w'.heap.size w' w'') := fun w' hb => by
                            rw [hsy]; exact HI.out.synced (HI.out.later HJ.out.at' hb) 0 ⟨by omega, by omega⟩
                          clear hr hr0 hle hle0 hT hN hsy hTs hNs hb8 d0
                          go_wp2_with fail
                          refine HBY.out.mono ?_
                          rintro e' w4 ⟨rfl, hb4⟩
                          have HB4 := hid hb4
                          have g0 := cell_regrown (cell_later hb4 d0')
                          clear hb4 HBY
                          go_wp2_with fail
                          refine wp_region_quiet_below (by kernel_rfl) (by kernel_rfl) ?_
                          repeat (go_big_quiet_step ((go_at_call 15; exact Calls.regrown_of (HSY.out _ (Below.on HB4.out (below_regrown _ _ _))))))
                          refine wpQuiet_nil ?_
                          intro w5 hw5
                          replace hw5 := below_of_regrown hw5
                          have HJ5 := hid (HJ.out.later HI.out (Below.on HB4.out hw5))
                          clear hw5 g0 d0'
                          go_wp2_with fail
                          go_roundg 1
                          case measure => omega
                          case rel => exact ⟨1, by omega, rfl, by go_num, HJ5⟩
                        · obtain ⟨⟨r, hr0⟩, hle0⟩ := HST.out.at (j := 1) (by omega)
                          have hr : e1.bytes 1 = ds.bytes 1 ++ r := hr0
                          have hle : (ds.bytes 1).length ≤ e1.synced 1 := hle0
                          have d0 := HJ.out.c1
                          obtain ⟨T, hT⟩ : ∃ T, T = ofNats (ds.bytes 1) := ⟨_, rfl⟩
                          obtain ⟨N, hN⟩ : ∃ N, N = ofNats (e1.bytes 1) := ⟨_, rfl⟩
                          obtain ⟨sy, hsy⟩ : ∃ sy, sy = e1.synced 1 := ⟨_, rfl⟩
                          have hTs : T.size = (ds.bytes 1).length := by rw [hT, ofNats_size]
                          have hNs : N.size = (ds.bytes 1).length + r.length := by rw [hN, ofNats_size, hr, List.length_append]
                          have hb8 : B8 (e1.bytes 1) := (HI.out.ok HJ.out.at').by'
                          have hex : N.extract 0 T.size = T := by
                            rw [hN, ofNats_extract hb8, hTs, hr, hT, List.take_left, List.drop_zero]
                          have l1 : T.size ≤ N.size := by omega
                          have l2 : decide (N.size < T.size) = false := decide_eq_false (by omega)
                          have l3 : decide (sy < T.size) = false := decide_eq_false (by rw [hsy, hTs]; omega)
                          have d0' : wr.cell? ⟨q, 1, none⟩ = some (.string T) := by rw [hT]; exact d0
                          have HBY := hid (HI.out.bytes HJ.out.at' 1 ⟨by omega, by omega⟩)
                          rw [← hN] at HBY
                          have HSY : Hid (∀ w', Below wr.heap.size wr w' → Calls Try.prog 15 #[ptr p, .int .i64 1] w' fun e w'' => e = .returned (.int .i64 (sy : Int)) ∧ Below w'.heap.size w' w'') := fun w' hb => by
                            rw [hsy]; exact HI.out.synced (HI.out.later HJ.out.at' hb) 1 ⟨by omega, by omega⟩
                          clear hr hr0 hle hle0 hT hN hsy hTs hNs hb8 d0
                          go_wp2_with fail
                          refine HBY.out.mono ?_
                          rintro e' w4 ⟨rfl, hb4⟩
                          have HB4 := hid hb4
                          have g0 := cell_regrown (cell_later hb4 d0')
                          clear hb4 HBY
                          go_wp2_with fail
                          refine wp_region_quiet_below (by kernel_rfl) (by kernel_rfl) ?_
                          repeat (go_big_quiet_step ((go_at_call 15; exact Calls.regrown_of (HSY.out _ (Below.on HB4.out (below_regrown _ _ _))))))
                          refine wpQuiet_nil ?_
                          intro w5 hw5
                          replace hw5 := below_of_regrown hw5
                          have HJ5 := hid (HJ.out.later HI.out (Below.on HB4.out hw5))
                          clear hw5 g0 d0'
                          go_wp2_with fail
                          go_roundg 0
                          case measure => omega
                          case rel => exact ⟨2, by omega, rfl, by go_num, HJ5⟩
                        · go_wp2_with fail
                          go_roundg (ys.length - (k + 1))
                          case measure => omega
                          case rel => exact ⟨k + 1, by omega, rfl, by go_num, F5, e1, ⟨HJ.out, HST.out⟩⟩
                    · skip
                      go_wp2_with fail
                      refine (act_any HI.out (x := x) HE2.out.at' HOK.out).mono ?_
                      rintro e' w3 ⟨rfl, hm⟩
                      obtain ⟨F5, h5⟩ := HE2.out.move hm
                      have hst := HE.out.2.act (HI.out.ok HE2.out.at') HC.out
                      obtain ⟨e1, he1⟩ : ∃ e1, e1 = e.act x := ⟨_, rfl⟩
                      rw [← he1] at h5 hst
                      have HE5 := hid h5
                      have HST := hid hst
                      clear hm h5 hst he1 b0 b1 b2 b3 b4 b5 c2 HE2 HE HC
                      go_wp2_with fail
                      go_loopg [9] 2 (fun g s9 wr => ∃ j : Nat, j ≤ 2 ∧ g = 2 - j ∧ s9 = .int .i64 j ∧ Hid (OneB R wb wr F5 p e1 q ds.x.b ds.y.b))
                      case atStart => exact ⟨0, by omega, by omega, rfl, HE5⟩
                      case round =>
                        obtain ⟨j, hj, rfl, rfl, HJ⟩ := hrel
                        clear HE5
                        obtain rfl | rfl | rfl : j = 0 ∨ j = 1 ∨ j = 2 := by omega
                        · obtain ⟨⟨r, hr0⟩, hle0⟩ := HST.out.at (j := 0) (by omega)
                          have hr : e1.bytes 0 = ds.bytes 0 ++ r := hr0
                          have hle : (ds.bytes 0).length ≤ e1.synced 0 := hle0
                          have d0 := HJ.out.c0
                          obtain ⟨T, hT⟩ : ∃ T, T = ofNats (ds.bytes 0) := ⟨_, rfl⟩
                          obtain ⟨N, hN⟩ : ∃ N, N = ofNats (e1.bytes 0) := ⟨_, rfl⟩
                          obtain ⟨sy, hsy⟩ : ∃ sy, sy = e1.synced 0 := ⟨_, rfl⟩
                          have hTs : T.size = (ds.bytes 0).length := by rw [hT, ofNats_size]
                          have hNs : N.size = (ds.bytes 0).length + r.length := by rw [hN, ofNats_size, hr, List.length_append]
                          have hb8 : B8 (e1.bytes 0) := (HI.out.ok HJ.out.at').bx
                          have hex : N.extract 0 T.size = T := by
                            rw [hN, ofNats_extract hb8, hTs, hr, hT, List.take_left, List.drop_zero]
                          have l1 : T.size ≤ N.size := by omega
                          have l2 : decide (N.size < T.size) = false := decide_eq_false (by omega)
                          have l3 : decide (sy < T.size) = false := decide_eq_false (by rw [hsy, hTs]; omega)
                          have d0' : wr.cell? ⟨q, 0, none⟩ = some (.string T) := by rw [hT]; exact d0
                          have HBY := hid (HI.out.bytes HJ.out.at' 0 ⟨by omega, by omega⟩)
                          rw [← hN] at HBY
                          have HSY : Hid (∀ w', Below wr.heap.size wr w' → Calls Try.prog 15 #[ptr p, .int .i64 0] w' fun e w'' => e = .returned (.int .i64 (sy : Int)) ∧ Below w'.heap.size w' w'') := fun w' hb => by
                            rw [hsy]; exact HI.out.synced (HI.out.later HJ.out.at' hb) 0 ⟨by omega, by omega⟩
                          clear hr hr0 hle hle0 hT hN hsy hTs hNs hb8 d0
                          go_wp2_with fail
                          refine HBY.out.mono ?_
                          rintro e' w4 ⟨rfl, hb4⟩
                          have HB4 := hid hb4
                          have g0 := cell_regrown (cell_later hb4 d0')
                          clear hb4 HBY
                          go_wp2_with fail
                          refine wp_region_quiet_below (by kernel_rfl) (by kernel_rfl) ?_
                          repeat (go_big_quiet_step ((go_at_call 15; exact Calls.regrown_of (HSY.out _ (Below.on HB4.out (below_regrown _ _ _))))))
                          refine wpQuiet_nil ?_
                          intro w5 hw5
                          replace hw5 := below_of_regrown hw5
                          have HJ5 := hid (HJ.out.later HI.out (Below.on HB4.out hw5))
                          clear hw5 g0 d0'
                          go_wp2_with fail
                          go_roundg 1
                          case measure => omega
                          case rel => exact ⟨1, by omega, rfl, by go_num, HJ5⟩
                        · obtain ⟨⟨r, hr0⟩, hle0⟩ := HST.out.at (j := 1) (by omega)
                          have hr : e1.bytes 1 = ds.bytes 1 ++ r := hr0
                          have hle : (ds.bytes 1).length ≤ e1.synced 1 := hle0
                          have d0 := HJ.out.c1
                          obtain ⟨T, hT⟩ : ∃ T, T = ofNats (ds.bytes 1) := ⟨_, rfl⟩
                          obtain ⟨N, hN⟩ : ∃ N, N = ofNats (e1.bytes 1) := ⟨_, rfl⟩
                          obtain ⟨sy, hsy⟩ : ∃ sy, sy = e1.synced 1 := ⟨_, rfl⟩
                          have hTs : T.size = (ds.bytes 1).length := by rw [hT, ofNats_size]
                          have hNs : N.size = (ds.bytes 1).length + r.length := by rw [hN, ofNats_size, hr, List.length_append]
                          have hb8 : B8 (e1.bytes 1) := (HI.out.ok HJ.out.at').by'
                          have hex : N.extract 0 T.size = T := by
                            rw [hN, ofNats_extract hb8, hTs, hr, hT, List.take_left, List.drop_zero]
                          have l1 : T.size ≤ N.size := by omega
                          have l2 : decide (N.size < T.size) = false := decide_eq_false (by omega)
                          have l3 : decide (sy < T.size) = false := decide_eq_false (by rw [hsy, hTs]; omega)
                          have d0' : wr.cell? ⟨q, 1, none⟩ = some (.string T) := by rw [hT]; exact d0
                          have HBY := hid (HI.out.bytes HJ.out.at' 1 ⟨by omega, by omega⟩)
                          rw [← hN] at HBY
                          have HSY : Hid (∀ w', Below wr.heap.size wr w' → Calls Try.prog 15 #[ptr p, .int .i64 1] w' fun e w'' => e = .returned (.int .i64 (sy : Int)) ∧ Below w'.heap.size w' w'') := fun w' hb => by
                            rw [hsy]; exact HI.out.synced (HI.out.later HJ.out.at' hb) 1 ⟨by omega, by omega⟩
                          clear hr hr0 hle hle0 hT hN hsy hTs hNs hb8 d0
                          go_wp2_with fail
                          refine HBY.out.mono ?_
                          rintro e' w4 ⟨rfl, hb4⟩
                          have HB4 := hid hb4
                          have g0 := cell_regrown (cell_later hb4 d0')
                          clear hb4 HBY
                          go_wp2_with fail
                          refine wp_region_quiet_below (by kernel_rfl) (by kernel_rfl) ?_
                          repeat (go_big_quiet_step ((go_at_call 15; exact Calls.regrown_of (HSY.out _ (Below.on HB4.out (below_regrown _ _ _))))))
                          refine wpQuiet_nil ?_
                          intro w5 hw5
                          replace hw5 := below_of_regrown hw5
                          have HJ5 := hid (HJ.out.later HI.out (Below.on HB4.out hw5))
                          clear hw5 g0 d0'
                          go_wp2_with fail
                          go_roundg 0
                          case measure => omega
                          case rel => exact ⟨2, by omega, rfl, by go_num, HJ5⟩
                        · go_wp2_with fail
                          go_roundg (ys.length - (k + 1))
                          case measure => omega
                          case rel => exact ⟨k + 1, by omega, rfl, by go_num, F5, e1, ⟨HJ.out, HST.out⟩⟩
              · obtain rfl : k = ys.length := by omega
                go_wp2_with fail
                go_ret
                exact ⟨rfl, Below.on HB0.out HE.out.1.bl⟩

end Go.Proofs.Ytmbmagfdeadibaa
