import Derived.Test.YtmbmagfdeadibaaDCloneLaw
namespace Go.Proofs.Ytmbmagfdeadibaa
open Go.RowKit Go.Sort
set_option linter.unusedVariables false
variable {R : World → (Nat → Prop) → Nat → Dk → Prop}

theorem app_cap (d : Dk) (s : Int) (t : List Nat) : (d.app s t).cap = d.cap := by
  unfold Dk.app
  repeat' split
  all_goals rfl
theorem cut_cap (d : Dk) (s n : Int) : (d.cut s n).cap = d.cap := by
  unfold Dk.cut
  repeat' split
  all_goals rfl
theorem act_cap (d : Dk) (x : Stp) : (d.act x).cap = d.cap := by
  unfold Dk.act
  repeat' split
  · exact app_cap _ _ _
  · rfl
  · exact cut_cap _ _ _
  · exact cut_cap _ _ _
  · rfl
  · rfl
theorem wadd {a b r : Nat} (h : r = a + b) (hr : r ≤ 1048576) : IntKind.i64.wrap ((a : Int) + (b : Int)) = (r : Int) ∧ wrap64 ((a : Int) + (b : Int)) = (r : Int) := by
  have e : (a : Int) + (b : Int) = (r : Int) := by omega
  rw [e, IntKind.wrap_i64]
  unfold wrap64
  exact ⟨by omega, by omega⟩
theorem wsub {f u r : Nat} (h : r = f - u) (hu : u ≤ f) (hf : f ≤ 1048576) : IntKind.i64.wrap ((f : Int) - (u : Int)) = (r : Int) ∧ wrap64 ((f : Int) - (u : Int)) = (r : Int) := by
  have e : (f : Int) - (u : Int) = (r : Int) := by omega
  have hr : r ≤ 1048576 := by omega
  rw [e, IntKind.wrap_i64]
  unfold wrap64
  exact ⟨by omega, by omega⟩
theorem cat_is {a b : List Nat} (h : a.length + b.length ≤ 1048576) (w : World) : (binOp .add 9 (.string (ofNats a)) (.string (ofNats b))).run Try.prog w = .ok (.string (ofNats (a ++ b))) w := by
  have hs : (ofNats a).size + (ofNats b).size ≤ 1048576 := by rw [ofNats_size, ofNats_size]; exact h
  rw [binOp_string_add, ← ofNats_append]
  simp [Op.stringOp]
  try omega
/-- a step in its box -/
structure BoxS (w : World) (q : Nat) (x : Stp) : Prop where
  c0 : w.cell? ⟨q, 0, none⟩ = some (.int .i64 x.k)
  c1 : w.cell? ⟨q, 1, none⟩ = some (.int .i64 x.o)
  c2 : w.cell? ⟨q, 2, none⟩ = some (.int .i64 x.s)
  c3 : w.cell? ⟨q, 3, none⟩ = some (.int .i64 x.n)
  c4 : w.cell? ⟨q, 4, none⟩ = some (.int .i64 x.m)
  c5 : w.cell? ⟨q, 5, none⟩ = some (.string (ofNats x.t))
theorem boxS (w : World) (x : Stp) (T : TypeId) : BoxS (w.alloc (.cells x.cells T)) w.heap.size x := by
  refine ⟨?_, ?_, ?_, ?_, ?_, ?_⟩ <;> simp [go_sem]
theorem BoxS.later {w w' : World} {q : Nat} {x : Stp} (h : BoxS w q x) (hb : Below w.heap.size w w') : BoxS w' q x :=
  ⟨cell_later hb h.c0, cell_later hb h.c1, cell_later hb h.c2, cell_later hb h.c3, cell_later hb h.c4, cell_later hb h.c5⟩
theorem BoxS.onl {w w' : World} {F : Nat → Prop} {q : Nat} {x : Stp} (h : BoxS w q x) (ho : Onl F w w') (hq : ¬ F q) : BoxS w' q x :=
  ⟨ho.cell hq h.c0, ho.cell hq h.c1, ho.cell hq h.c2, ho.cell hq h.c3, ho.cell hq h.c4, ho.cell hq h.c5⟩

set_option maxHeartbeats 8000000 in
set_option maxRecDepth 8000 in
theorem room_law (I : Face R) {w : World} {c : Int} {a1 a2 : Option Addr} {k1 k2 : Nat} {xs ys : List Stp} (hc : I64 c) (hx : RowS w a1 xs) (hxl : xs.length ≤ 9223372036854775807) :
    Calls Try.prog 3 #[.agg #[.int .i64 c, .slice a1 xs.length k1, .slice a2 ys.length k2]] w fun e w' => e = .returned (.bool true) ∧ Below w.heap.size w w' := by
  have hbox := boxT w c a1 a2 xs.length k1 ys.length k2 24
  obtain ⟨wb, hwb⟩ : ∃ wb, wb = w.alloc (.cells #[.int .i64 c, .slice a1 xs.length k1, .slice a2 ys.length k2] 24) := ⟨_, rfl⟩
  have hb0 : Below w.heap.size w wb := by rw [hwb]; exact Below.al (Below.refl _ _) _
  rw [← hwb] at hbox
  have HI := hid I
  have HX := hid (hx.below rfl hb0)
  have HC := hid hc
  have HBX := hid hbox
  have HB0 := hid hb0
  have HWB := hid hwb
  clear I hx hc hbox hb0 hwb
  go_enter Try.func3, Try.ntmps3
  go_wp2_with fail
  rw [← HWB.out]
  refine (HI.out.new c wb HC.out).mono ?_
  rintro e w1 ⟨p, F, rfl, hR, hF, hb1⟩
  have c0 := (HBX.out.later rfl hb1).c0
  have H1 : Hid (R w1 F p (Dk.new c) ∧ (∀ k, F k → wb.heap.size ≤ k) ∧ Below wb.heap.size wb w1) := ⟨hR, hF, hb1⟩
  clear hR hF hb1
  obtain ⟨mx, hmx⟩ : ∃ mx, (if 0 > c then 0 else c) = mx := ⟨_, rfl⟩
  have hmn : (if (1048576 : Int) < mx then 1048576 else mx) = (fit c : Int) := by
    rw [← hmx]; unfold fit; split <;> split <;> omega
  have rmx : ∀ ts t w, (Builtin.max_ ts t #[.int .i64 c, .int .i64 0]).run Try.prog w = .ok (.int .i64 mx) w := fun ts t w => by rw [run_max_int2, hmx]
  have rmn : ∀ ts t w, (Builtin.min_ ts t #[.int .i64 mx, .int .i64 1048576]).run Try.prog w = .ok (.int .i64 (fit c : Int)) w := fun ts t w => by rw [run_min_int2, hmn]
  clear hmx hmn
  go_wp2_with fail
  refine (HI.out.free H1.out.1).mono ?_
  rintro e w2 ⟨rfl, hb2⟩
  have hfr : (Dk.new c).free = fit c := by simp [Dk.new, Dk.free, Dk.used]
  rw [hfr]
  have hne : ((fit c : Int) != (fit c : Int)) = false := by simp
  have HO : Hid (One R wb w2 p (Dk.new c)) := ⟨F, HI.out.later H1.out.1 hb2, H1.out.2.1, Below.on H1.out.2.2 hb2⟩
  have HFC := hid (fit_le c)
  clear hb2 H1 rmx rmn c0
  go_wp2_with fail
  go_loopg [5] xs.length (fun g s5 wr => ∃ k : Nat, k ≤ xs.length ∧ g = xs.length - k ∧ s5 = .int .i64 k ∧ ∃ d, Hid (One R wb wr p d ∧ d.cap = fit c))
  case atStart => exact ⟨0, by omega, by omega, rfl, Dk.new c, HO.out, rfl⟩
  case round =>
    obtain ⟨k, hk, rfl, rfl, d, HK⟩ := hrel
    obtain ⟨⟨F1, hR1, hF1, hb1⟩, hcap⟩ := HK.out
    have c1 := (HBX.out.later rfl hb1).c1
    have H1 : Hid (R wr F1 p d ∧ (∀ k, F1 k → wb.heap.size ≤ k) ∧ Below wb.heap.size wb wr) := ⟨hR1, hF1, hb1⟩
    have HCAP := hid hcap
    by_cases hlt : k < xs.length
    · obtain ⟨hok, b, off, rfl, d0, d1, d2, d3, d4, d5⟩ := (HX.out.below rfl hb1) k hlt
      obtain ⟨x, hx⟩ : ∃ x, x = nthS xs k := ⟨_, rfl⟩
      rw [← hx] at hok d0 d1 d2 d3 d4 d5
      have HOK := hid hok
      clear hR1 hF1 hb1 hok hx hcap HK
      obtain ⟨wq, hwq⟩ : ∃ wq, wq = wr.alloc (.cells x.cells 29) := ⟨_, rfl⟩
      have hbq : Below wr.heap.size wr wq := by rw [hwq]; exact Below.al (Below.refl _ _) _
      have hS := boxS wr x 29
      rw [← hwq] at hS
      have HQ : Hid (R wq F1 p d ∧ (∀ k, F1 k → wb.heap.size ≤ k) ∧ Below wb.heap.size wb wq) := ⟨HI.out.later H1.out.1 hbq, H1.out.2.1, Below.on H1.out.2.2 hbq⟩
      have HNF : Hid (¬ F1 wr.heap.size) := fun h => by have := HI.out.lt H1.out.1 _ h; omega
      have HWQ := hid hwq
      have HBS := hid hS
      clear hwq hbq hS H1
      by_cases hk2 : x.k = 2
      · have q2 : (x.k != 2) = false := by rw [hk2]; rfl
        have HOKD := hid (HI.out.ok HQ.out.1)
        clear hk2
        by_cases hf : x.t.length ≤ d.free
        · by_cases h0 : x.s = 0
          · have hs := h0
            have s0 : (x.s == 0) = true := by first | (rw [hs]; rfl) | (rw [beq_eq_false_iff_ne]; omega)
            have s1 : (x.s == 1) = false := by first | (rw [hs]; rfl) | (rw [beq_eq_false_iff_ne]; omega)
            have n0 : (x.s != 0) = false := by rw [bne, s0]; rfl
            have n1 : (x.s != 1) = true := by rw [bne, s1]; rfl
            have HEE : Hid (d.appE x.s x.t = 0) := by show _ = _; unfold Dk.appE; rw [if_pos (by omega), if_pos hf]
            have HB0' : Hid ((d.app x.s x.t).bytes 0 = (d.bytes 0 ++ x.t)) := by show _ = _; unfold Dk.app; rw [if_pos hf, if_pos hs]; rfl
            have HB1' : Hid ((d.app x.s x.t).bytes 1 = (d.bytes 1)) := by show _ = _; unfold Dk.app; rw [if_pos hf, if_pos hs]; rfl
            have hcz : (ofNats (d.bytes 0)).size + (ofNats x.t).size ≤ 1048576 := by
              rw [ofNats_size, ofNats_size]
              have h2 := HOKD.out.used; have h3 := HOKD.out.cap
              have h4 : d.free = d.cap - (d.x.b.length + d.y.b.length) := rfl
              have h5 : (d.bytes 0).length = d.x.b.length := rfl
              omega
            have hap : ofNats (d.bytes 0) ++ ofNats x.t = ofNats (d.bytes 0 ++ x.t) := ofNats_append _ _
            have hczF : (9223372036854775807 < ((ofNats (d.bytes 0)).size : Int) + ((ofNats x.t).size : Int)) = False := by simp; omega
            have hfd : decide (x.t.length ≤ d.free) = true := by first | exact decide_eq_true hf | exact decide_eq_false hf
            have hfd2 : decide (((ofNats x.t).size : Int) ≤ (d.free : Int)) = true := by rw [ofNats_size, ← hfd, Bool.eq_iff_iff]; simp
            have hfd3 : decide ((ofNats x.t).size ≤ d.free) = true := by rw [ofNats_size]; exact hfd
            clear hs h0 hf
            go_wp2_with fail
            rw [← HWQ.out]
            refine (HI.out.bytes HQ.out.1 0 ⟨by omega, by omega⟩).mono ?_
            rintro e y1 ⟨rfl, hy1⟩
            have HY1 := hid hy1
            clear hy1
            go_wp2_with fail
            refine (HI.out.bytes (HI.out.later HQ.out.1 HY1.out) 1 ⟨by omega, by omega⟩).mono ?_
            rintro e y2 ⟨rfl, hy2⟩
            have HY2 := hid (Below.on HY1.out hy2)
            have g0 := (HBS.out.later HY2.out).c0
            have g2 := (HBS.out.later HY2.out).c2
            have g5 := (HBS.out.later HY2.out).c5
            have kg5 := cell_regrown g5
            clear hy2 HY1
            go_wp2_with fail
            refine wp_region_quiet_below (by kernel_rfl) (by kernel_rfl) ?_
            repeat (go_big_quiet_step ((go_at_call 9; exact Calls.regrown_of (HI.out.free (HI.out.later (HI.out.later HQ.out.1 HY2.out) (below_regrown _ _ _))))))
            refine wpQuiet_nil ?_
            intro y3 hy3
            replace hy3 := below_of_regrown hy3
            have HY3 := hid (Below.on HY2.out hy3)
            have g0 := (HBS.out.later HY3.out).c0
            have g2 := (HBS.out.later HY3.out).c2
            have g5 := (HBS.out.later HY3.out).c5
            clear hy3 HY2 kg5
            go_wp2_with fail
            refine (HI.out.append (HI.out.later HQ.out.1 HY3.out) x.s HOK.out.s HOK.out.t).mono ?_
            rintro e y4 ⟨rfl, hm⟩
            rw [HEE.out]
            have hT0 : One R wb y4 p (d.app x.s x.t) := One.move HQ.out.2.1 (Below.on HQ.out.2.2 HY3.out) hm
            obtain ⟨F4, hR4, hO4, hN4⟩ := hm
            have hq := (HBS.out.later HY3.out).onl hO4 HNF.out
            have g0 := hq.c0
            have g2 := hq.c2
            have g5 := hq.c5
            have hcp := (app_cap d x.s x.t).trans HCAP.out
            obtain ⟨dt, hdt⟩ : ∃ dt, dt = d.app x.s x.t := ⟨_, rfl⟩
            rw [← hdt] at hT0 hcp hR4 HB0' HB1'
            have HT0 := hid hT0
            have HCP := hid hcp
            have HR4 := hid hR4
            clear hT0 hcp hR4 hdt hO4 hN4 hq HY3
            go_wp2_with fail
            refine (HI.out.bytes HR4.out 0 ⟨by omega, by omega⟩).mono ?_
            rintro e y5 ⟨rfl, hy5⟩
            rw [HB0'.out]
            have HY5 := hid hy5
            clear hy5
            go_wp2_with fail
            refine (HI.out.bytes (HI.out.later HR4.out HY5.out) 1 ⟨by omega, by omega⟩).mono ?_
            rintro e y6 ⟨rfl, hy6⟩
            rw [HB1'.out]
            have HT : Hid (One R wb y6 p dt ∧ dt.cap = fit c) := by
              obtain ⟨F5, h1, h2, h3⟩ := HT0.out
              exact ⟨⟨F5, HI.out.later h1 (Below.on HY5.out hy6), h2, Below.on h3 (Below.on HY5.out hy6)⟩, HCP.out⟩
            clear hy6 HY5 HT0 HR4 HEE
            obtain ⟨⟨F3, hR3, hF3, hb3⟩, hcap3⟩ := HT.out
            have hok3 := HI.out.ok hR3
            obtain ⟨u, hu⟩ : ∃ u, u = dt.used := ⟨_, rfl⟩
            obtain ⟨l0, hl0⟩ : ∃ l, l = (dt.bytes 0).length := ⟨_, rfl⟩
            obtain ⟨l1, hl1⟩ : ∃ l, l = (dt.bytes 1).length := ⟨_, rfl⟩
            obtain ⟨fr, hfr3⟩ : ∃ f, f = dt.free := ⟨_, rfl⟩
            have hul : u = l0 + l1 := by rw [hu, hl0, hl1]; rfl
            have hfu : fr = fit c - u ∧ u ≤ fit c := by
              have h1 : dt.free = dt.cap - dt.used := rfl
              have h2 : dt.used ≤ dt.cap := hok3.used
              rw [hfr3, h1, hu, ← hcap3]
              exact ⟨rfl, h2⟩
            have HU := hid hu; have HL0 := hid hl0; have HL1 := hid hl1; have HFR := hid hfr3
            have H3 : Hid (R y6 F3 p dt ∧ (∀ k, F3 k → wb.heap.size ≤ k) ∧ Below wb.heap.size wb y6) := ⟨hR3, hF3, hb3⟩
            obtain ⟨hw1, hw3⟩ := wadd hul (Nat.le_trans hfu.2 HFC.out)
            obtain ⟨hw2, hw4⟩ := wsub hfu.1 hfu.2 HFC.out
            have hnu : ((u : Int) != (u : Int)) = false := by simp
            have hnf : ((fr : Int) != (fr : Int)) = false := by simp
            clear hR3 hF3 hb3 hok3 hu hl0 hl1 hfr3 hul hfu hcap3
            go_wp2_with fail
            refine (HI.out.used H3.out.1).mono ?_
            rintro e v1 ⟨rfl, hv1⟩
            rw [← HU.out]
            have HV1 := hid hv1
            clear hv1
            go_wp2_with fail
            refine (HI.out.bytes (HI.out.later H3.out.1 HV1.out) 0 ⟨by omega, by omega⟩).mono ?_
            rintro e v2 ⟨rfl, hv2⟩
            have HV2 := hid (Below.on HV1.out hv2)
            have hs0 : ((ofNats (dt.bytes 0)).size : Int) = (l0 : Int) := by rw [ofNats_size, HL0.out]
            clear hv2 HV1
            go_wp2_with fail
            refine (HI.out.bytes (HI.out.later H3.out.1 HV2.out) 1 ⟨by omega, by omega⟩).mono ?_
            rintro e v3 ⟨rfl, hv3⟩
            have HV3 := hid (Below.on HV2.out hv3)
            have hs1 : ((ofNats (dt.bytes 1)).size : Int) = (l1 : Int) := by rw [ofNats_size, HL1.out]
            clear hv3 HV2
            go_wp2_with fail
            refine (HI.out.free (HI.out.later H3.out.1 HV3.out)).mono ?_
            rintro e v4 ⟨rfl, hv4⟩
            rw [← HFR.out]
            have HV4 := hid (Below.on HV3.out hv4)
            clear hv4 HV3
            go_wp2_with fail
            refine (HI.out.used (HI.out.later H3.out.1 HV4.out)).mono ?_
            rintro e v5 ⟨rfl, hv5⟩
            rw [← HU.out]
            have HV5 := hid (Below.on HV4.out hv5)
            clear hv5 HV4
            go_wp2_with fail
            refine (HI.out.free (HI.out.later H3.out.1 HV5.out)).mono ?_
            rintro e v6 ⟨rfl, hv6⟩
            rw [← HFR.out]
            have HV6 : Hid (One R wb v6 p dt ∧ dt.cap = fit c) := ⟨⟨F3, HI.out.later H3.out.1 (Below.on HV5.out hv6), H3.out.2.1, Below.on H3.out.2.2 (Below.on HV5.out hv6)⟩, HT.out.2⟩
            clear hv6 HV5
            go_wp2_with fail
            go_roundg (xs.length - (k + 1))
            case measure => omega
            case rel => exact ⟨k + 1, by omega, rfl, by go_num, dt, HV6⟩
          · by_cases h1 : x.s = 1
            · have hs := h1
              have s0 : (x.s == 0) = false := by first | (rw [hs]; rfl) | (rw [beq_eq_false_iff_ne]; omega)
              have s1 : (x.s == 1) = true := by first | (rw [hs]; rfl) | (rw [beq_eq_false_iff_ne]; omega)
              have n0 : (x.s != 0) = true := by rw [bne, s0]; rfl
              have n1 : (x.s != 1) = false := by rw [bne, s1]; rfl
              have HEE : Hid (d.appE x.s x.t = 0) := by show _ = _; unfold Dk.appE; rw [if_pos (by omega), if_pos hf]
              have HB0' : Hid ((d.app x.s x.t).bytes 0 = (d.bytes 0)) := by show _ = _; unfold Dk.app; rw [if_pos hf, if_neg (by omega), if_pos hs]; rfl
              have HB1' : Hid ((d.app x.s x.t).bytes 1 = (d.bytes 1 ++ x.t)) := by show _ = _; unfold Dk.app; rw [if_pos hf, if_neg (by omega), if_pos hs]; rfl
              have hcz : (ofNats (d.bytes 1)).size + (ofNats x.t).size ≤ 1048576 := by
                rw [ofNats_size, ofNats_size]
                have h2 := HOKD.out.used; have h3 := HOKD.out.cap
                have h4 : d.free = d.cap - (d.x.b.length + d.y.b.length) := rfl
                have h5 : (d.bytes 1).length = d.y.b.length := rfl
                omega
              have hap : ofNats (d.bytes 1) ++ ofNats x.t = ofNats (d.bytes 1 ++ x.t) := ofNats_append _ _
              have hczF : (9223372036854775807 < ((ofNats (d.bytes 1)).size : Int) + ((ofNats x.t).size : Int)) = False := by simp; omega
              have hfd : decide (x.t.length ≤ d.free) = true := by first | exact decide_eq_true hf | exact decide_eq_false hf
              have hfd2 : decide (((ofNats x.t).size : Int) ≤ (d.free : Int)) = true := by rw [ofNats_size, ← hfd, Bool.eq_iff_iff]; simp
              have hfd3 : decide ((ofNats x.t).size ≤ d.free) = true := by rw [ofNats_size]; exact hfd
              clear hs h0 h1 hf
              go_wp2_with fail
              rw [← HWQ.out]
              refine (HI.out.bytes HQ.out.1 0 ⟨by omega, by omega⟩).mono ?_
              rintro e y1 ⟨rfl, hy1⟩
              have HY1 := hid hy1
              clear hy1
              go_wp2_with fail
              refine (HI.out.bytes (HI.out.later HQ.out.1 HY1.out) 1 ⟨by omega, by omega⟩).mono ?_
              rintro e y2 ⟨rfl, hy2⟩
              have HY2 := hid (Below.on HY1.out hy2)
              have g0 := (HBS.out.later HY2.out).c0
              have g2 := (HBS.out.later HY2.out).c2
              have g5 := (HBS.out.later HY2.out).c5
              have kg5 := cell_regrown g5
              clear hy2 HY1
              go_wp2_with fail
              refine wp_region_quiet_below (by kernel_rfl) (by kernel_rfl) ?_
              repeat (go_big_quiet_step ((go_at_call 9; exact Calls.regrown_of (HI.out.free (HI.out.later (HI.out.later HQ.out.1 HY2.out) (below_regrown _ _ _))))))
              refine wpQuiet_nil ?_
              intro y3 hy3
              replace hy3 := below_of_regrown hy3
              have HY3 := hid (Below.on HY2.out hy3)
              have g0 := (HBS.out.later HY3.out).c0
              have g2 := (HBS.out.later HY3.out).c2
              have g5 := (HBS.out.later HY3.out).c5
              clear hy3 HY2 kg5
              go_wp2_with fail
              refine (HI.out.append (HI.out.later HQ.out.1 HY3.out) x.s HOK.out.s HOK.out.t).mono ?_
              rintro e y4 ⟨rfl, hm⟩
              rw [HEE.out]
              have hT0 : One R wb y4 p (d.app x.s x.t) := One.move HQ.out.2.1 (Below.on HQ.out.2.2 HY3.out) hm
              obtain ⟨F4, hR4, hO4, hN4⟩ := hm
              have hq := (HBS.out.later HY3.out).onl hO4 HNF.out
              have g0 := hq.c0
              have g2 := hq.c2
              have g5 := hq.c5
              have hcp := (app_cap d x.s x.t).trans HCAP.out
              obtain ⟨dt, hdt⟩ : ∃ dt, dt = d.app x.s x.t := ⟨_, rfl⟩
              rw [← hdt] at hT0 hcp hR4 HB0' HB1'
              have HT0 := hid hT0
              have HCP := hid hcp
              have HR4 := hid hR4
              clear hT0 hcp hR4 hdt hO4 hN4 hq HY3
              go_wp2_with fail
              refine (HI.out.bytes HR4.out 0 ⟨by omega, by omega⟩).mono ?_
              rintro e y5 ⟨rfl, hy5⟩
              rw [HB0'.out]
              have HY5 := hid hy5
              clear hy5
              go_wp2_with fail
              refine (HI.out.bytes (HI.out.later HR4.out HY5.out) 1 ⟨by omega, by omega⟩).mono ?_
              rintro e y6 ⟨rfl, hy6⟩
              rw [HB1'.out]
              have HT : Hid (One R wb y6 p dt ∧ dt.cap = fit c) := by
                obtain ⟨F5, h1, h2, h3⟩ := HT0.out
                exact ⟨⟨F5, HI.out.later h1 (Below.on HY5.out hy6), h2, Below.on h3 (Below.on HY5.out hy6)⟩, HCP.out⟩
              clear hy6 HY5 HT0 HR4 HEE
              obtain ⟨⟨F3, hR3, hF3, hb3⟩, hcap3⟩ := HT.out
              have hok3 := HI.out.ok hR3
              obtain ⟨u, hu⟩ : ∃ u, u = dt.used := ⟨_, rfl⟩
              obtain ⟨l0, hl0⟩ : ∃ l, l = (dt.bytes 0).length := ⟨_, rfl⟩
              obtain ⟨l1, hl1⟩ : ∃ l, l = (dt.bytes 1).length := ⟨_, rfl⟩
              obtain ⟨fr, hfr3⟩ : ∃ f, f = dt.free := ⟨_, rfl⟩
              have hul : u = l0 + l1 := by rw [hu, hl0, hl1]; rfl
              have hfu : fr = fit c - u ∧ u ≤ fit c := by
                have h1 : dt.free = dt.cap - dt.used := rfl
                have h2 : dt.used ≤ dt.cap := hok3.used
                rw [hfr3, h1, hu, ← hcap3]
                exact ⟨rfl, h2⟩
              have HU := hid hu; have HL0 := hid hl0; have HL1 := hid hl1; have HFR := hid hfr3
              have H3 : Hid (R y6 F3 p dt ∧ (∀ k, F3 k → wb.heap.size ≤ k) ∧ Below wb.heap.size wb y6) := ⟨hR3, hF3, hb3⟩
              obtain ⟨hw1, hw3⟩ := wadd hul (Nat.le_trans hfu.2 HFC.out)
              obtain ⟨hw2, hw4⟩ := wsub hfu.1 hfu.2 HFC.out
              have hnu : ((u : Int) != (u : Int)) = false := by simp
              have hnf : ((fr : Int) != (fr : Int)) = false := by simp
              clear hR3 hF3 hb3 hok3 hu hl0 hl1 hfr3 hul hfu hcap3
              go_wp2_with fail
              refine (HI.out.used H3.out.1).mono ?_
              rintro e v1 ⟨rfl, hv1⟩
              rw [← HU.out]
              have HV1 := hid hv1
              clear hv1
              go_wp2_with fail
              refine (HI.out.bytes (HI.out.later H3.out.1 HV1.out) 0 ⟨by omega, by omega⟩).mono ?_
              rintro e v2 ⟨rfl, hv2⟩
              have HV2 := hid (Below.on HV1.out hv2)
              have hs0 : ((ofNats (dt.bytes 0)).size : Int) = (l0 : Int) := by rw [ofNats_size, HL0.out]
              clear hv2 HV1
              go_wp2_with fail
              refine (HI.out.bytes (HI.out.later H3.out.1 HV2.out) 1 ⟨by omega, by omega⟩).mono ?_
              rintro e v3 ⟨rfl, hv3⟩
              have HV3 := hid (Below.on HV2.out hv3)
              have hs1 : ((ofNats (dt.bytes 1)).size : Int) = (l1 : Int) := by rw [ofNats_size, HL1.out]
              clear hv3 HV2
              go_wp2_with fail
              refine (HI.out.free (HI.out.later H3.out.1 HV3.out)).mono ?_
              rintro e v4 ⟨rfl, hv4⟩
              rw [← HFR.out]
              have HV4 := hid (Below.on HV3.out hv4)
              clear hv4 HV3
              go_wp2_with fail
              refine (HI.out.used (HI.out.later H3.out.1 HV4.out)).mono ?_
              rintro e v5 ⟨rfl, hv5⟩
              rw [← HU.out]
              have HV5 := hid (Below.on HV4.out hv5)
              clear hv5 HV4
              go_wp2_with fail
              refine (HI.out.free (HI.out.later H3.out.1 HV5.out)).mono ?_
              rintro e v6 ⟨rfl, hv6⟩
              rw [← HFR.out]
              have HV6 : Hid (One R wb v6 p dt ∧ dt.cap = fit c) := ⟨⟨F3, HI.out.later H3.out.1 (Below.on HV5.out hv6), H3.out.2.1, Below.on H3.out.2.2 (Below.on HV5.out hv6)⟩, HT.out.2⟩
              clear hv6 HV5
              go_wp2_with fail
              go_roundg (xs.length - (k + 1))
              case measure => omega
              case rel => exact ⟨k + 1, by omega, rfl, by go_num, dt, HV6⟩
            · have hs := h0
              have s0 : (x.s == 0) = false := by first | (fail) | (rw [beq_eq_false_iff_ne]; omega)
              have s1 : (x.s == 1) = false := by first | (fail) | (rw [beq_eq_false_iff_ne]; omega)
              have n0 : (x.s != 0) = true := by rw [bne, s0]; rfl
              have n1 : (x.s != 1) = true := by rw [bne, s1]; rfl
              have HEE : Hid (d.appE x.s x.t = 61) := by show _ = _; unfold Dk.appE; rw [if_neg (by omega)]
              have HB0' : Hid ((d.app x.s x.t).bytes 0 = (d.bytes 0)) := by show _ = _; unfold Dk.app; rw [if_pos hf, if_neg h0, if_neg h1]
              have HB1' : Hid ((d.app x.s x.t).bytes 1 = (d.bytes 1)) := by show _ = _; unfold Dk.app; rw [if_pos hf, if_neg h0, if_neg h1]
              have hfd : decide (x.t.length ≤ d.free) = true := by first | exact decide_eq_true hf | exact decide_eq_false hf
              have hfd2 : decide (((ofNats x.t).size : Int) ≤ (d.free : Int)) = true := by rw [ofNats_size, ← hfd, Bool.eq_iff_iff]; simp
              have hfd3 : decide ((ofNats x.t).size ≤ d.free) = true := by rw [ofNats_size]; exact hfd
              clear hs h0 h1 hf
              go_wp2_with fail
              rw [← HWQ.out]
              refine (HI.out.bytes HQ.out.1 0 ⟨by omega, by omega⟩).mono ?_
              rintro e y1 ⟨rfl, hy1⟩
              have HY1 := hid hy1
              clear hy1
              go_wp2_with fail
              refine (HI.out.bytes (HI.out.later HQ.out.1 HY1.out) 1 ⟨by omega, by omega⟩).mono ?_
              rintro e y2 ⟨rfl, hy2⟩
              have HY2 := hid (Below.on HY1.out hy2)
              have g0 := (HBS.out.later HY2.out).c0
              have g2 := (HBS.out.later HY2.out).c2
              have g5 := (HBS.out.later HY2.out).c5
              have kg5 := cell_regrown g5
              clear hy2 HY1
              go_wp2_with fail
              refine wp_region_quiet_below (by kernel_rfl) (by kernel_rfl) ?_
              repeat (go_big_quiet_step ((go_at_call 9; exact Calls.regrown_of (HI.out.free (HI.out.later (HI.out.later HQ.out.1 HY2.out) (below_regrown _ _ _))))))
              refine wpQuiet_nil ?_
              intro y3 hy3
              replace hy3 := below_of_regrown hy3
              have HY3 := hid (Below.on HY2.out hy3)
              have g0 := (HBS.out.later HY3.out).c0
              have g2 := (HBS.out.later HY3.out).c2
              have g5 := (HBS.out.later HY3.out).c5
              clear hy3 HY2 kg5
              go_wp2_with fail
              refine (HI.out.append (HI.out.later HQ.out.1 HY3.out) x.s HOK.out.s HOK.out.t).mono ?_
              rintro e y4 ⟨rfl, hm⟩
              rw [HEE.out]
              have hT0 : One R wb y4 p (d.app x.s x.t) := One.move HQ.out.2.1 (Below.on HQ.out.2.2 HY3.out) hm
              obtain ⟨F4, hR4, hO4, hN4⟩ := hm
              have hq := (HBS.out.later HY3.out).onl hO4 HNF.out
              have g0 := hq.c0
              have g2 := hq.c2
              have g5 := hq.c5
              have hcp := (app_cap d x.s x.t).trans HCAP.out
              obtain ⟨dt, hdt⟩ : ∃ dt, dt = d.app x.s x.t := ⟨_, rfl⟩
              rw [← hdt] at hT0 hcp hR4 HB0' HB1'
              have HT0 := hid hT0
              have HCP := hid hcp
              have HR4 := hid hR4
              clear hT0 hcp hR4 hdt hO4 hN4 hq HY3
              go_wp2_with fail
              refine (HI.out.bytes HR4.out 0 ⟨by omega, by omega⟩).mono ?_
              rintro e y5 ⟨rfl, hy5⟩
              rw [HB0'.out]
              have HY5 := hid hy5
              clear hy5
              go_wp2_with fail
              refine (HI.out.bytes (HI.out.later HR4.out HY5.out) 1 ⟨by omega, by omega⟩).mono ?_
              rintro e y6 ⟨rfl, hy6⟩
              rw [HB1'.out]
              have HT : Hid (One R wb y6 p dt ∧ dt.cap = fit c) := by
                obtain ⟨F5, h1, h2, h3⟩ := HT0.out
                exact ⟨⟨F5, HI.out.later h1 (Below.on HY5.out hy6), h2, Below.on h3 (Below.on HY5.out hy6)⟩, HCP.out⟩
              clear hy6 HY5 HT0 HR4 HEE
              obtain ⟨⟨F3, hR3, hF3, hb3⟩, hcap3⟩ := HT.out
              have hok3 := HI.out.ok hR3
              obtain ⟨u, hu⟩ : ∃ u, u = dt.used := ⟨_, rfl⟩
              obtain ⟨l0, hl0⟩ : ∃ l, l = (dt.bytes 0).length := ⟨_, rfl⟩
              obtain ⟨l1, hl1⟩ : ∃ l, l = (dt.bytes 1).length := ⟨_, rfl⟩
              obtain ⟨fr, hfr3⟩ : ∃ f, f = dt.free := ⟨_, rfl⟩
              have hul : u = l0 + l1 := by rw [hu, hl0, hl1]; rfl
              have hfu : fr = fit c - u ∧ u ≤ fit c := by
                have h1 : dt.free = dt.cap - dt.used := rfl
                have h2 : dt.used ≤ dt.cap := hok3.used
                rw [hfr3, h1, hu, ← hcap3]
                exact ⟨rfl, h2⟩
              have HU := hid hu; have HL0 := hid hl0; have HL1 := hid hl1; have HFR := hid hfr3
              have H3 : Hid (R y6 F3 p dt ∧ (∀ k, F3 k → wb.heap.size ≤ k) ∧ Below wb.heap.size wb y6) := ⟨hR3, hF3, hb3⟩
              obtain ⟨hw1, hw3⟩ := wadd hul (Nat.le_trans hfu.2 HFC.out)
              obtain ⟨hw2, hw4⟩ := wsub hfu.1 hfu.2 HFC.out
              have hnu : ((u : Int) != (u : Int)) = false := by simp
              have hnf : ((fr : Int) != (fr : Int)) = false := by simp
              clear hR3 hF3 hb3 hok3 hu hl0 hl1 hfr3 hul hfu hcap3
              go_wp2_with fail
              refine (HI.out.used H3.out.1).mono ?_
              rintro e v1 ⟨rfl, hv1⟩
              rw [← HU.out]
              have HV1 := hid hv1
              clear hv1
              go_wp2_with fail
              refine (HI.out.bytes (HI.out.later H3.out.1 HV1.out) 0 ⟨by omega, by omega⟩).mono ?_
              rintro e v2 ⟨rfl, hv2⟩
              have HV2 := hid (Below.on HV1.out hv2)
              have hs0 : ((ofNats (dt.bytes 0)).size : Int) = (l0 : Int) := by rw [ofNats_size, HL0.out]
              clear hv2 HV1
              go_wp2_with fail
              refine (HI.out.bytes (HI.out.later H3.out.1 HV2.out) 1 ⟨by omega, by omega⟩).mono ?_
              rintro e v3 ⟨rfl, hv3⟩
              have HV3 := hid (Below.on HV2.out hv3)
              have hs1 : ((ofNats (dt.bytes 1)).size : Int) = (l1 : Int) := by rw [ofNats_size, HL1.out]
              clear hv3 HV2
              go_wp2_with fail
              refine (HI.out.free (HI.out.later H3.out.1 HV3.out)).mono ?_
              rintro e v4 ⟨rfl, hv4⟩
              rw [← HFR.out]
              have HV4 := hid (Below.on HV3.out hv4)
              clear hv4 HV3
              go_wp2_with fail
              refine (HI.out.used (HI.out.later H3.out.1 HV4.out)).mono ?_
              rintro e v5 ⟨rfl, hv5⟩
              rw [← HU.out]
              have HV5 := hid (Below.on HV4.out hv5)
              clear hv5 HV4
              go_wp2_with fail
              refine (HI.out.free (HI.out.later H3.out.1 HV5.out)).mono ?_
              rintro e v6 ⟨rfl, hv6⟩
              rw [← HFR.out]
              have HV6 : Hid (One R wb v6 p dt ∧ dt.cap = fit c) := ⟨⟨F3, HI.out.later H3.out.1 (Below.on HV5.out hv6), H3.out.2.1, Below.on H3.out.2.2 (Below.on HV5.out hv6)⟩, HT.out.2⟩
              clear hv6 HV5
              go_wp2_with fail
              go_roundg (xs.length - (k + 1))
              case measure => omega
              case rel => exact ⟨k + 1, by omega, rfl, by go_num, dt, HV6⟩
        · by_cases h0 : x.s = 0
          · have hs := h0
            have s0 : (x.s == 0) = true := by first | (rw [hs]; rfl) | (rw [beq_eq_false_iff_ne]; omega)
            have s1 : (x.s == 1) = false := by first | (rw [hs]; rfl) | (rw [beq_eq_false_iff_ne]; omega)
            have n0 : (x.s != 0) = false := by rw [bne, s0]; rfl
            have n1 : (x.s != 1) = true := by rw [bne, s1]; rfl
            have HEE : Hid (d.appE x.s x.t = 60) := by show _ = _; unfold Dk.appE; rw [if_pos (by omega), if_neg hf]
            have HB0' : Hid ((d.app x.s x.t).bytes 0 = (d.bytes 0)) := by show _ = _; unfold Dk.app; rw [if_neg hf]
            have HB1' : Hid ((d.app x.s x.t).bytes 1 = (d.bytes 1)) := by show _ = _; unfold Dk.app; rw [if_neg hf]
            have hfd : decide (x.t.length ≤ d.free) = false := by first | exact decide_eq_true hf | exact decide_eq_false hf
            have hfd2 : decide (((ofNats x.t).size : Int) ≤ (d.free : Int)) = false := by rw [ofNats_size, ← hfd, Bool.eq_iff_iff]; simp
            have hfd3 : decide ((ofNats x.t).size ≤ d.free) = false := by rw [ofNats_size]; exact hfd
            clear hs h0 hf
            go_wp2_with fail
            rw [← HWQ.out]
            refine (HI.out.bytes HQ.out.1 0 ⟨by omega, by omega⟩).mono ?_
            rintro e y1 ⟨rfl, hy1⟩
            have HY1 := hid hy1
            clear hy1
            go_wp2_with fail
            refine (HI.out.bytes (HI.out.later HQ.out.1 HY1.out) 1 ⟨by omega, by omega⟩).mono ?_
            rintro e y2 ⟨rfl, hy2⟩
            have HY2 := hid (Below.on HY1.out hy2)
            have g0 := (HBS.out.later HY2.out).c0
            have g2 := (HBS.out.later HY2.out).c2
            have g5 := (HBS.out.later HY2.out).c5
            have kg5 := cell_regrown g5
            clear hy2 HY1
            go_wp2_with fail
            refine wp_region_quiet_below (by kernel_rfl) (by kernel_rfl) ?_
            repeat (go_big_quiet_step ((go_at_call 9; exact Calls.regrown_of (HI.out.free (HI.out.later (HI.out.later HQ.out.1 HY2.out) (below_regrown _ _ _))))))
            refine wpQuiet_nil ?_
            intro y3 hy3
            replace hy3 := below_of_regrown hy3
            have HY3 := hid (Below.on HY2.out hy3)
            have g0 := (HBS.out.later HY3.out).c0
            have g2 := (HBS.out.later HY3.out).c2
            have g5 := (HBS.out.later HY3.out).c5
            clear hy3 HY2 kg5
            go_wp2_with fail
            refine (HI.out.append (HI.out.later HQ.out.1 HY3.out) x.s HOK.out.s HOK.out.t).mono ?_
            rintro e y4 ⟨rfl, hm⟩
            rw [HEE.out]
            have hT0 : One R wb y4 p (d.app x.s x.t) := One.move HQ.out.2.1 (Below.on HQ.out.2.2 HY3.out) hm
            obtain ⟨F4, hR4, hO4, hN4⟩ := hm
            have hq := (HBS.out.later HY3.out).onl hO4 HNF.out
            have g0 := hq.c0
            have g2 := hq.c2
            have g5 := hq.c5
            have hcp := (app_cap d x.s x.t).trans HCAP.out
            obtain ⟨dt, hdt⟩ : ∃ dt, dt = d.app x.s x.t := ⟨_, rfl⟩
            rw [← hdt] at hT0 hcp hR4 HB0' HB1'
            have HT0 := hid hT0
            have HCP := hid hcp
            have HR4 := hid hR4
            clear hT0 hcp hR4 hdt hO4 hN4 hq HY3
            go_wp2_with fail
            refine (HI.out.bytes HR4.out 0 ⟨by omega, by omega⟩).mono ?_
            rintro e y5 ⟨rfl, hy5⟩
            rw [HB0'.out]
            have HY5 := hid hy5
            clear hy5
            go_wp2_with fail
            refine (HI.out.bytes (HI.out.later HR4.out HY5.out) 1 ⟨by omega, by omega⟩).mono ?_
            rintro e y6 ⟨rfl, hy6⟩
            rw [HB1'.out]
            have HT : Hid (One R wb y6 p dt ∧ dt.cap = fit c) := by
              obtain ⟨F5, h1, h2, h3⟩ := HT0.out
              exact ⟨⟨F5, HI.out.later h1 (Below.on HY5.out hy6), h2, Below.on h3 (Below.on HY5.out hy6)⟩, HCP.out⟩
            clear hy6 HY5 HT0 HR4 HEE
            obtain ⟨⟨F3, hR3, hF3, hb3⟩, hcap3⟩ := HT.out
            have hok3 := HI.out.ok hR3
            obtain ⟨u, hu⟩ : ∃ u, u = dt.used := ⟨_, rfl⟩
            obtain ⟨l0, hl0⟩ : ∃ l, l = (dt.bytes 0).length := ⟨_, rfl⟩
            obtain ⟨l1, hl1⟩ : ∃ l, l = (dt.bytes 1).length := ⟨_, rfl⟩
            obtain ⟨fr, hfr3⟩ : ∃ f, f = dt.free := ⟨_, rfl⟩
            have hul : u = l0 + l1 := by rw [hu, hl0, hl1]; rfl
            have hfu : fr = fit c - u ∧ u ≤ fit c := by
              have h1 : dt.free = dt.cap - dt.used := rfl
              have h2 : dt.used ≤ dt.cap := hok3.used
              rw [hfr3, h1, hu, ← hcap3]
              exact ⟨rfl, h2⟩
            have HU := hid hu; have HL0 := hid hl0; have HL1 := hid hl1; have HFR := hid hfr3
            have H3 : Hid (R y6 F3 p dt ∧ (∀ k, F3 k → wb.heap.size ≤ k) ∧ Below wb.heap.size wb y6) := ⟨hR3, hF3, hb3⟩
            obtain ⟨hw1, hw3⟩ := wadd hul (Nat.le_trans hfu.2 HFC.out)
            obtain ⟨hw2, hw4⟩ := wsub hfu.1 hfu.2 HFC.out
            have hnu : ((u : Int) != (u : Int)) = false := by simp
            have hnf : ((fr : Int) != (fr : Int)) = false := by simp
            clear hR3 hF3 hb3 hok3 hu hl0 hl1 hfr3 hul hfu hcap3
            go_wp2_with fail
            refine (HI.out.used H3.out.1).mono ?_
            rintro e v1 ⟨rfl, hv1⟩
            rw [← HU.out]
            have HV1 := hid hv1
            clear hv1
            go_wp2_with fail
            refine (HI.out.bytes (HI.out.later H3.out.1 HV1.out) 0 ⟨by omega, by omega⟩).mono ?_
            rintro e v2 ⟨rfl, hv2⟩
            have HV2 := hid (Below.on HV1.out hv2)
            have hs0 : ((ofNats (dt.bytes 0)).size : Int) = (l0 : Int) := by rw [ofNats_size, HL0.out]
            clear hv2 HV1
            go_wp2_with fail
            refine (HI.out.bytes (HI.out.later H3.out.1 HV2.out) 1 ⟨by omega, by omega⟩).mono ?_
            rintro e v3 ⟨rfl, hv3⟩
            have HV3 := hid (Below.on HV2.out hv3)
            have hs1 : ((ofNats (dt.bytes 1)).size : Int) = (l1 : Int) := by rw [ofNats_size, HL1.out]
            clear hv3 HV2
            go_wp2_with fail
            refine (HI.out.free (HI.out.later H3.out.1 HV3.out)).mono ?_
            rintro e v4 ⟨rfl, hv4⟩
            rw [← HFR.out]
            have HV4 := hid (Below.on HV3.out hv4)
            clear hv4 HV3
            go_wp2_with fail
            refine (HI.out.used (HI.out.later H3.out.1 HV4.out)).mono ?_
            rintro e v5 ⟨rfl, hv5⟩
            rw [← HU.out]
            have HV5 := hid (Below.on HV4.out hv5)
            clear hv5 HV4
            go_wp2_with fail
            refine (HI.out.free (HI.out.later H3.out.1 HV5.out)).mono ?_
            rintro e v6 ⟨rfl, hv6⟩
            rw [← HFR.out]
            have HV6 : Hid (One R wb v6 p dt ∧ dt.cap = fit c) := ⟨⟨F3, HI.out.later H3.out.1 (Below.on HV5.out hv6), H3.out.2.1, Below.on H3.out.2.2 (Below.on HV5.out hv6)⟩, HT.out.2⟩
            clear hv6 HV5
            go_wp2_with fail
            go_roundg (xs.length - (k + 1))
            case measure => omega
            case rel => exact ⟨k + 1, by omega, rfl, by go_num, dt, HV6⟩
          · by_cases h1 : x.s = 1
            · have hs := h1
              have s0 : (x.s == 0) = false := by first | (rw [hs]; rfl) | (rw [beq_eq_false_iff_ne]; omega)
              have s1 : (x.s == 1) = true := by first | (rw [hs]; rfl) | (rw [beq_eq_false_iff_ne]; omega)
              have n0 : (x.s != 0) = true := by rw [bne, s0]; rfl
              have n1 : (x.s != 1) = false := by rw [bne, s1]; rfl
              have HEE : Hid (d.appE x.s x.t = 60) := by show _ = _; unfold Dk.appE; rw [if_pos (by omega), if_neg hf]
              have HB0' : Hid ((d.app x.s x.t).bytes 0 = (d.bytes 0)) := by show _ = _; unfold Dk.app; rw [if_neg hf]
              have HB1' : Hid ((d.app x.s x.t).bytes 1 = (d.bytes 1)) := by show _ = _; unfold Dk.app; rw [if_neg hf]
              have hfd : decide (x.t.length ≤ d.free) = false := by first | exact decide_eq_true hf | exact decide_eq_false hf
              have hfd2 : decide (((ofNats x.t).size : Int) ≤ (d.free : Int)) = false := by rw [ofNats_size, ← hfd, Bool.eq_iff_iff]; simp
              have hfd3 : decide ((ofNats x.t).size ≤ d.free) = false := by rw [ofNats_size]; exact hfd
              clear hs h0 h1 hf
              go_wp2_with fail
              rw [← HWQ.out]
              refine (HI.out.bytes HQ.out.1 0 ⟨by omega, by omega⟩).mono ?_
              rintro e y1 ⟨rfl, hy1⟩
              have HY1 := hid hy1
              clear hy1
              go_wp2_with fail
              refine (HI.out.bytes (HI.out.later HQ.out.1 HY1.out) 1 ⟨by omega, by omega⟩).mono ?_
              rintro e y2 ⟨rfl, hy2⟩
              have HY2 := hid (Below.on HY1.out hy2)
              have g0 := (HBS.out.later HY2.out).c0
              have g2 := (HBS.out.later HY2.out).c2
              have g5 := (HBS.out.later HY2.out).c5
              have kg5 := cell_regrown g5
              clear hy2 HY1
              go_wp2_with fail
              refine wp_region_quiet_below (by kernel_rfl) (by kernel_rfl) ?_
              repeat (go_big_quiet_step ((go_at_call 9; exact Calls.regrown_of (HI.out.free (HI.out.later (HI.out.later HQ.out.1 HY2.out) (below_regrown _ _ _))))))
              refine wpQuiet_nil ?_
              intro y3 hy3
              replace hy3 := below_of_regrown hy3
              have HY3 := hid (Below.on HY2.out hy3)
              have g0 := (HBS.out.later HY3.out).c0
              have g2 := (HBS.out.later HY3.out).c2
              have g5 := (HBS.out.later HY3.out).c5
              clear hy3 HY2 kg5
              go_wp2_with fail
              refine (HI.out.append (HI.out.later HQ.out.1 HY3.out) x.s HOK.out.s HOK.out.t).mono ?_
              rintro e y4 ⟨rfl, hm⟩
              rw [HEE.out]
              have hT0 : One R wb y4 p (d.app x.s x.t) := One.move HQ.out.2.1 (Below.on HQ.out.2.2 HY3.out) hm
              obtain ⟨F4, hR4, hO4, hN4⟩ := hm
              have hq := (HBS.out.later HY3.out).onl hO4 HNF.out
              have g0 := hq.c0
              have g2 := hq.c2
              have g5 := hq.c5
              have hcp := (app_cap d x.s x.t).trans HCAP.out
              obtain ⟨dt, hdt⟩ : ∃ dt, dt = d.app x.s x.t := ⟨_, rfl⟩
              rw [← hdt] at hT0 hcp hR4 HB0' HB1'
              have HT0 := hid hT0
              have HCP := hid hcp
              have HR4 := hid hR4
              clear hT0 hcp hR4 hdt hO4 hN4 hq HY3
              go_wp2_with fail
              refine (HI.out.bytes HR4.out 0 ⟨by omega, by omega⟩).mono ?_
              rintro e y5 ⟨rfl, hy5⟩
              rw [HB0'.out]
              have HY5 := hid hy5
              clear hy5
              go_wp2_with fail
              refine (HI.out.bytes (HI.out.later HR4.out HY5.out) 1 ⟨by omega, by omega⟩).mono ?_
              rintro e y6 ⟨rfl, hy6⟩
              rw [HB1'.out]
              have HT : Hid (One R wb y6 p dt ∧ dt.cap = fit c) := by
                obtain ⟨F5, h1, h2, h3⟩ := HT0.out
                exact ⟨⟨F5, HI.out.later h1 (Below.on HY5.out hy6), h2, Below.on h3 (Below.on HY5.out hy6)⟩, HCP.out⟩
              clear hy6 HY5 HT0 HR4 HEE
              obtain ⟨⟨F3, hR3, hF3, hb3⟩, hcap3⟩ := HT.out
              have hok3 := HI.out.ok hR3
              obtain ⟨u, hu⟩ : ∃ u, u = dt.used := ⟨_, rfl⟩
              obtain ⟨l0, hl0⟩ : ∃ l, l = (dt.bytes 0).length := ⟨_, rfl⟩
              obtain ⟨l1, hl1⟩ : ∃ l, l = (dt.bytes 1).length := ⟨_, rfl⟩
              obtain ⟨fr, hfr3⟩ : ∃ f, f = dt.free := ⟨_, rfl⟩
              have hul : u = l0 + l1 := by rw [hu, hl0, hl1]; rfl
              have hfu : fr = fit c - u ∧ u ≤ fit c := by
                have h1 : dt.free = dt.cap - dt.used := rfl
                have h2 : dt.used ≤ dt.cap := hok3.used
                rw [hfr3, h1, hu, ← hcap3]
                exact ⟨rfl, h2⟩
              have HU := hid hu; have HL0 := hid hl0; have HL1 := hid hl1; have HFR := hid hfr3
              have H3 : Hid (R y6 F3 p dt ∧ (∀ k, F3 k → wb.heap.size ≤ k) ∧ Below wb.heap.size wb y6) := ⟨hR3, hF3, hb3⟩
              obtain ⟨hw1, hw3⟩ := wadd hul (Nat.le_trans hfu.2 HFC.out)
              obtain ⟨hw2, hw4⟩ := wsub hfu.1 hfu.2 HFC.out
              have hnu : ((u : Int) != (u : Int)) = false := by simp
              have hnf : ((fr : Int) != (fr : Int)) = false := by simp
              clear hR3 hF3 hb3 hok3 hu hl0 hl1 hfr3 hul hfu hcap3
              go_wp2_with fail
              refine (HI.out.used H3.out.1).mono ?_
              rintro e v1 ⟨rfl, hv1⟩
              rw [← HU.out]
              have HV1 := hid hv1
              clear hv1
              go_wp2_with fail
              refine (HI.out.bytes (HI.out.later H3.out.1 HV1.out) 0 ⟨by omega, by omega⟩).mono ?_
              rintro e v2 ⟨rfl, hv2⟩
              have HV2 := hid (Below.on HV1.out hv2)
              have hs0 : ((ofNats (dt.bytes 0)).size : Int) = (l0 : Int) := by rw [ofNats_size, HL0.out]
              clear hv2 HV1
              go_wp2_with fail
              refine (HI.out.bytes (HI.out.later H3.out.1 HV2.out) 1 ⟨by omega, by omega⟩).mono ?_
              rintro e v3 ⟨rfl, hv3⟩
              have HV3 := hid (Below.on HV2.out hv3)
              have hs1 : ((ofNats (dt.bytes 1)).size : Int) = (l1 : Int) := by rw [ofNats_size, HL1.out]
              clear hv3 HV2
              go_wp2_with fail
              refine (HI.out.free (HI.out.later H3.out.1 HV3.out)).mono ?_
              rintro e v4 ⟨rfl, hv4⟩
              rw [← HFR.out]
              have HV4 := hid (Below.on HV3.out hv4)
              clear hv4 HV3
              go_wp2_with fail
              refine (HI.out.used (HI.out.later H3.out.1 HV4.out)).mono ?_
              rintro e v5 ⟨rfl, hv5⟩
              rw [← HU.out]
              have HV5 := hid (Below.on HV4.out hv5)
              clear hv5 HV4
              go_wp2_with fail
              refine (HI.out.free (HI.out.later H3.out.1 HV5.out)).mono ?_
              rintro e v6 ⟨rfl, hv6⟩
              rw [← HFR.out]
              have HV6 : Hid (One R wb v6 p dt ∧ dt.cap = fit c) := ⟨⟨F3, HI.out.later H3.out.1 (Below.on HV5.out hv6), H3.out.2.1, Below.on H3.out.2.2 (Below.on HV5.out hv6)⟩, HT.out.2⟩
              clear hv6 HV5
              go_wp2_with fail
              go_roundg (xs.length - (k + 1))
              case measure => omega
              case rel => exact ⟨k + 1, by omega, rfl, by go_num, dt, HV6⟩
            · have hs := h0
              have s0 : (x.s == 0) = false := by first | (fail) | (rw [beq_eq_false_iff_ne]; omega)
              have s1 : (x.s == 1) = false := by first | (fail) | (rw [beq_eq_false_iff_ne]; omega)
              have n0 : (x.s != 0) = true := by rw [bne, s0]; rfl
              have n1 : (x.s != 1) = true := by rw [bne, s1]; rfl
              have HEE : Hid (d.appE x.s x.t = 61) := by show _ = _; unfold Dk.appE; rw [if_neg (by omega)]
              have HB0' : Hid ((d.app x.s x.t).bytes 0 = (d.bytes 0)) := by show _ = _; unfold Dk.app; rw [if_neg hf]
              have HB1' : Hid ((d.app x.s x.t).bytes 1 = (d.bytes 1)) := by show _ = _; unfold Dk.app; rw [if_neg hf]
              have hfd : decide (x.t.length ≤ d.free) = false := by first | exact decide_eq_true hf | exact decide_eq_false hf
              have hfd2 : decide (((ofNats x.t).size : Int) ≤ (d.free : Int)) = false := by rw [ofNats_size, ← hfd, Bool.eq_iff_iff]; simp
              have hfd3 : decide ((ofNats x.t).size ≤ d.free) = false := by rw [ofNats_size]; exact hfd
              clear hs h0 h1 hf
              go_wp2_with fail
              rw [← HWQ.out]
              refine (HI.out.bytes HQ.out.1 0 ⟨by omega, by omega⟩).mono ?_
              rintro e y1 ⟨rfl, hy1⟩
              have HY1 := hid hy1
              clear hy1
              go_wp2_with fail
              refine (HI.out.bytes (HI.out.later HQ.out.1 HY1.out) 1 ⟨by omega, by omega⟩).mono ?_
              rintro e y2 ⟨rfl, hy2⟩
              have HY2 := hid (Below.on HY1.out hy2)
              have g0 := (HBS.out.later HY2.out).c0
              have g2 := (HBS.out.later HY2.out).c2
              have g5 := (HBS.out.later HY2.out).c5
              have kg5 := cell_regrown g5
              clear hy2 HY1
              go_wp2_with fail
              refine wp_region_quiet_below (by kernel_rfl) (by kernel_rfl) ?_
              repeat (go_big_quiet_step ((go_at_call 9; exact Calls.regrown_of (HI.out.free (HI.out.later (HI.out.later HQ.out.1 HY2.out) (below_regrown _ _ _))))))
              refine wpQuiet_nil ?_
              intro y3 hy3
              replace hy3 := below_of_regrown hy3
              have HY3 := hid (Below.on HY2.out hy3)
              have g0 := (HBS.out.later HY3.out).c0
              have g2 := (HBS.out.later HY3.out).c2
              have g5 := (HBS.out.later HY3.out).c5
              clear hy3 HY2 kg5
              go_wp2_with fail
              refine (HI.out.append (HI.out.later HQ.out.1 HY3.out) x.s HOK.out.s HOK.out.t).mono ?_
              rintro e y4 ⟨rfl, hm⟩
              rw [HEE.out]
              have hT0 : One R wb y4 p (d.app x.s x.t) := One.move HQ.out.2.1 (Below.on HQ.out.2.2 HY3.out) hm
              obtain ⟨F4, hR4, hO4, hN4⟩ := hm
              have hq := (HBS.out.later HY3.out).onl hO4 HNF.out
              have g0 := hq.c0
              have g2 := hq.c2
              have g5 := hq.c5
              have hcp := (app_cap d x.s x.t).trans HCAP.out
              obtain ⟨dt, hdt⟩ : ∃ dt, dt = d.app x.s x.t := ⟨_, rfl⟩
              rw [← hdt] at hT0 hcp hR4 HB0' HB1'
              have HT0 := hid hT0
              have HCP := hid hcp
              have HR4 := hid hR4
              clear hT0 hcp hR4 hdt hO4 hN4 hq HY3
              go_wp2_with fail
              refine (HI.out.bytes HR4.out 0 ⟨by omega, by omega⟩).mono ?_
              rintro e y5 ⟨rfl, hy5⟩
              rw [HB0'.out]
              have HY5 := hid hy5
              clear hy5
              go_wp2_with fail
              refine (HI.out.bytes (HI.out.later HR4.out HY5.out) 1 ⟨by omega, by omega⟩).mono ?_
              rintro e y6 ⟨rfl, hy6⟩
              rw [HB1'.out]
              have HT : Hid (One R wb y6 p dt ∧ dt.cap = fit c) := by
                obtain ⟨F5, h1, h2, h3⟩ := HT0.out
                exact ⟨⟨F5, HI.out.later h1 (Below.on HY5.out hy6), h2, Below.on h3 (Below.on HY5.out hy6)⟩, HCP.out⟩
              clear hy6 HY5 HT0 HR4 HEE
              obtain ⟨⟨F3, hR3, hF3, hb3⟩, hcap3⟩ := HT.out
              have hok3 := HI.out.ok hR3
              obtain ⟨u, hu⟩ : ∃ u, u = dt.used := ⟨_, rfl⟩
              obtain ⟨l0, hl0⟩ : ∃ l, l = (dt.bytes 0).length := ⟨_, rfl⟩
              obtain ⟨l1, hl1⟩ : ∃ l, l = (dt.bytes 1).length := ⟨_, rfl⟩
              obtain ⟨fr, hfr3⟩ : ∃ f, f = dt.free := ⟨_, rfl⟩
              have hul : u = l0 + l1 := by rw [hu, hl0, hl1]; rfl
              have hfu : fr = fit c - u ∧ u ≤ fit c := by
                have h1 : dt.free = dt.cap - dt.used := rfl
                have h2 : dt.used ≤ dt.cap := hok3.used
                rw [hfr3, h1, hu, ← hcap3]
                exact ⟨rfl, h2⟩
              have HU := hid hu; have HL0 := hid hl0; have HL1 := hid hl1; have HFR := hid hfr3
              have H3 : Hid (R y6 F3 p dt ∧ (∀ k, F3 k → wb.heap.size ≤ k) ∧ Below wb.heap.size wb y6) := ⟨hR3, hF3, hb3⟩
              obtain ⟨hw1, hw3⟩ := wadd hul (Nat.le_trans hfu.2 HFC.out)
              obtain ⟨hw2, hw4⟩ := wsub hfu.1 hfu.2 HFC.out
              have hnu : ((u : Int) != (u : Int)) = false := by simp
              have hnf : ((fr : Int) != (fr : Int)) = false := by simp
              clear hR3 hF3 hb3 hok3 hu hl0 hl1 hfr3 hul hfu hcap3
              go_wp2_with fail
              refine (HI.out.used H3.out.1).mono ?_
              rintro e v1 ⟨rfl, hv1⟩
              rw [← HU.out]
              have HV1 := hid hv1
              clear hv1
              go_wp2_with fail
              refine (HI.out.bytes (HI.out.later H3.out.1 HV1.out) 0 ⟨by omega, by omega⟩).mono ?_
              rintro e v2 ⟨rfl, hv2⟩
              have HV2 := hid (Below.on HV1.out hv2)
              have hs0 : ((ofNats (dt.bytes 0)).size : Int) = (l0 : Int) := by rw [ofNats_size, HL0.out]
              clear hv2 HV1
              go_wp2_with fail
              refine (HI.out.bytes (HI.out.later H3.out.1 HV2.out) 1 ⟨by omega, by omega⟩).mono ?_
              rintro e v3 ⟨rfl, hv3⟩
              have HV3 := hid (Below.on HV2.out hv3)
              have hs1 : ((ofNats (dt.bytes 1)).size : Int) = (l1 : Int) := by rw [ofNats_size, HL1.out]
              clear hv3 HV2
              go_wp2_with fail
              refine (HI.out.free (HI.out.later H3.out.1 HV3.out)).mono ?_
              rintro e v4 ⟨rfl, hv4⟩
              rw [← HFR.out]
              have HV4 := hid (Below.on HV3.out hv4)
              clear hv4 HV3
              go_wp2_with fail
              refine (HI.out.used (HI.out.later H3.out.1 HV4.out)).mono ?_
              rintro e v5 ⟨rfl, hv5⟩
              rw [← HU.out]
              have HV5 := hid (Below.on HV4.out hv5)
              clear hv5 HV4
              go_wp2_with fail
              refine (HI.out.free (HI.out.later H3.out.1 HV5.out)).mono ?_
              rintro e v6 ⟨rfl, hv6⟩
              rw [← HFR.out]
              have HV6 : Hid (One R wb v6 p dt ∧ dt.cap = fit c) := ⟨⟨F3, HI.out.later H3.out.1 (Below.on HV5.out hv6), H3.out.2.1, Below.on H3.out.2.2 (Below.on HV5.out hv6)⟩, HT.out.2⟩
              clear hv6 HV5
              go_wp2_with fail
              go_roundg (xs.length - (k + 1))
              case measure => omega
              case rel => exact ⟨k + 1, by omega, rfl, by go_num, dt, HV6⟩
      · have q2 : (x.k != 2) = true := by simpa using hk2
        clear hk2
        go_wp2_with fail
        rw [← HWQ.out]
        refine (act_any HI.out (x := x) HQ.out.1 HOK.out).mono ?_
        rintro e wt ⟨rfl, hm⟩
        have HT : Hid (One R wb wt p (d.act x) ∧ (d.act x).cap = fit c) := ⟨One.move HQ.out.2.1 HQ.out.2.2 hm, (act_cap d x).trans HCAP.out⟩
        obtain ⟨dt, hdt⟩ : ∃ dt, dt = d.act x := ⟨_, rfl⟩
        rw [← hdt] at HT
        clear hm hdt d0 d1 d2 d3 d4 d5 c1
        obtain ⟨⟨F3, hR3, hF3, hb3⟩, hcap3⟩ := HT.out
        have hok3 := HI.out.ok hR3
        obtain ⟨u, hu⟩ : ∃ u, u = dt.used := ⟨_, rfl⟩
        obtain ⟨l0, hl0⟩ : ∃ l, l = (dt.bytes 0).length := ⟨_, rfl⟩
        obtain ⟨l1, hl1⟩ : ∃ l, l = (dt.bytes 1).length := ⟨_, rfl⟩
        obtain ⟨fr, hfr3⟩ : ∃ f, f = dt.free := ⟨_, rfl⟩
        have hul : u = l0 + l1 := by rw [hu, hl0, hl1]; rfl
        have hfu : fr = fit c - u ∧ u ≤ fit c := by
          have h1 : dt.free = dt.cap - dt.used := rfl
          have h2 : dt.used ≤ dt.cap := hok3.used
          rw [hfr3, h1, hu, ← hcap3]
          exact ⟨rfl, h2⟩
        have HU := hid hu; have HL0 := hid hl0; have HL1 := hid hl1; have HFR := hid hfr3
        have H3 : Hid (R wt F3 p dt ∧ (∀ k, F3 k → wb.heap.size ≤ k) ∧ Below wb.heap.size wb wt) := ⟨hR3, hF3, hb3⟩
        obtain ⟨hw1, hw3⟩ := wadd hul (Nat.le_trans hfu.2 HFC.out)
        obtain ⟨hw2, hw4⟩ := wsub hfu.1 hfu.2 HFC.out
        have hnu : ((u : Int) != (u : Int)) = false := by simp
        have hnf : ((fr : Int) != (fr : Int)) = false := by simp
        clear hR3 hF3 hb3 hok3 hu hl0 hl1 hfr3 hul hfu hcap3
        go_wp2_with fail
        refine (HI.out.used H3.out.1).mono ?_
        rintro e v1 ⟨rfl, hv1⟩
        rw [← HU.out]
        have HV1 := hid hv1
        clear hv1
        go_wp2_with fail
        refine (HI.out.bytes (HI.out.later H3.out.1 HV1.out) 0 ⟨by omega, by omega⟩).mono ?_
        rintro e v2 ⟨rfl, hv2⟩
        have HV2 := hid (Below.on HV1.out hv2)
        have hs0 : ((ofNats (dt.bytes 0)).size : Int) = (l0 : Int) := by rw [ofNats_size, HL0.out]
        clear hv2 HV1
        go_wp2_with fail
        refine (HI.out.bytes (HI.out.later H3.out.1 HV2.out) 1 ⟨by omega, by omega⟩).mono ?_
        rintro e v3 ⟨rfl, hv3⟩
        have HV3 := hid (Below.on HV2.out hv3)
        have hs1 : ((ofNats (dt.bytes 1)).size : Int) = (l1 : Int) := by rw [ofNats_size, HL1.out]
        clear hv3 HV2
        go_wp2_with fail
        refine (HI.out.free (HI.out.later H3.out.1 HV3.out)).mono ?_
        rintro e v4 ⟨rfl, hv4⟩
        rw [← HFR.out]
        have HV4 := hid (Below.on HV3.out hv4)
        clear hv4 HV3
        go_wp2_with fail
        refine (HI.out.used (HI.out.later H3.out.1 HV4.out)).mono ?_
        rintro e v5 ⟨rfl, hv5⟩
        rw [← HU.out]
        have HV5 := hid (Below.on HV4.out hv5)
        clear hv5 HV4
        go_wp2_with fail
        refine (HI.out.free (HI.out.later H3.out.1 HV5.out)).mono ?_
        rintro e v6 ⟨rfl, hv6⟩
        rw [← HFR.out]
        have HV6 : Hid (One R wb v6 p dt ∧ dt.cap = fit c) := ⟨⟨F3, HI.out.later H3.out.1 (Below.on HV5.out hv6), H3.out.2.1, Below.on H3.out.2.2 (Below.on HV5.out hv6)⟩, HT.out.2⟩
        clear hv6 HV5
        go_wp2_with fail
        go_roundg (xs.length - (k + 1))
        case measure => omega
        case rel => exact ⟨k + 1, by omega, rfl, by go_num, dt, HV6⟩
    · obtain rfl : k = xs.length := by omega
      have HF := hid hb1
      go_wp2_with fail
      go_ret
      exact ⟨rfl, Below.on HB0.out HF.out⟩

end Go.Proofs.Ytmbmagfdeadibaa
