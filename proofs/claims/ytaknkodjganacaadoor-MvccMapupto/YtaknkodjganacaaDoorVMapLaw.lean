import Derived.Test.YtaknkodjganacaaDoorVMapP
import Derived.Test.YtaknkodjganacaaDoorVReads
namespace Go.Proofs.YtaknkodjganacaaDoor.Vs
open Go.RowKit Go.Sort
set_option linter.unusedVariables false

/-- what stands at its inner loop -/
structure InnI (wx w6 wr : World) (vm ve : Value) (M : Mst) (ws : List Wr) (t t0 : Sp) (j : Nat) : Prop where
  rm : OwnP wr wx.heap.size vm (readAll (instM M (ws.take j) t) t0)
  re : OwnP wr wx.heap.size ve (readAll (instM M (ws.take j) t) t)
  bl : Below w6.heap.size w6 wr
theorem lay_at {w W : World} {B n c : Nat} {a : Option Addr} {l : Prs} (h : OwnP w B (.slice a n c) l) (hn : n = l.length) (hb : Below w.heap.size w W) (hB : B ≤ w.heap.size) (hl : (l.length + 2) * 64 ≤ 140737488355328) (xk xv : ByteArray) (xd : Bool) :
    Calls Tryd.prog 22 #[.slice a n c, .agg #[.string xk, .bool xd, .string xv]] W fun e w' => ∃ v, e = .returned v ∧ OwnP w' B v (layX l ⟨xk, xd, xv⟩) ∧ Below W.heap.size W w' := by
  subst hn
  exact (lay_is (x := ⟨xk, xd, xv⟩) (h.row.later hb) hl).mono fun e w' ⟨v, he, ho, hb'⟩ => ⟨v, he, ho.base (Nat.le_trans hB hb.size), hb'⟩
/-- what stands at the law's loop -/
structure MapI (w wr : World) (F : Nat → Prop) (p bl : Nat) (vm ve : Value) (M : Mst) (last : Sp) (any : Bool) (t0 : Sp) (k : Nat) : Prop where
  sto : Sto F wr p M ⟨0, 0, 0⟩
  low : ∀ b, F b → w.heap.size ≤ b
  rm : OwnP wr w.heap.size vm (readAll M t0)
  re : OwnP wr w.heap.size ve (readAll M last)
  box : StB wr bl last
  top : TopM M last any
  nn : last.nn
  cnt : countM M ≤ 16 * k
  bl : Below w.heap.size w wr

theorem MapI.later {w wr w' : World} {F : Nat → Prop} {p bl : Nat} {vm ve : Value} {M : Mst} {last t0 : Sp} {any : Bool} {k k' : Nat} (h : MapI w wr F p bl vm ve M last any t0 k) (hb : Below wr.heap.size wr w') (hk : k ≤ k') : MapI w w' F p bl vm ve M last any t0 k' :=
  ⟨h.sto.later hb, h.low, h.rm.later hb, h.re.later hb, h.box.later hb, h.top, h.nn, Nat.le_trans h.cnt (Nat.mul_le_mul_left _ hk), Below.on h.bl hb⟩
set_option maxHeartbeats 4000000 in
set_option maxRecDepth 16000 in
theorem law_map {w : World} {a : Option Addr} {c : Nat} {ps : List Pt} {lo hi : ByteArray} {t0 : Sp} (h : RowT w a ps) (hl : ps.length ≤ 1048576) (hz : t0.nn) (ht : PowTab w) :
    Calls Tryd.prog 5 #[.agg #[.slice a ps.length c, .string lo, .string hi, .int .u64 t0.a, .int .u32 t0.b, .int .u32 t0.c]] w fun e w' => e = .returned (.bool true) ∧ Below w.heap.size w w' := by
  obtain ⟨n, hn⟩ : ∃ n, n = ps.length := ⟨_, rfl⟩
  obtain ⟨wx, hwx⟩ : ∃ wx, wx = w.alloc (.cells #[.slice a n c, .string lo, .string hi, .int .u64 t0.a, .int .u32 t0.b, .int .u32 t0.c] 68) := ⟨_, rfl⟩
  have hbx : Below w.heap.size w wx := by rw [hwx]; exact Below.al (Below.refl _ _) _
  have kx : wx.heap[w.heap.size]? = some (.cells #[.slice a n c, .string lo, .string hi, .int .u64 t0.a, .int .u32 t0.b, .int .u32 t0.c] 68 (0, 0)) := by rw [hwx]; exact World.alloc_heap_new _ _
  have HX : Hid (wx.cell? ⟨w.heap.size, 0, none⟩ = some (.slice a n c) ∧ wx.cell? ⟨w.heap.size, 1, none⟩ = some (.string lo) ∧ wx.cell? ⟨w.heap.size, 2, none⟩ = some (.string hi) ∧ wx.cell? ⟨w.heap.size, 3, none⟩ = some (.int .u64 t0.a) ∧ wx.cell? ⟨w.heap.size, 4, none⟩ = some (.int .u32 t0.b) ∧ wx.cell? ⟨w.heap.size, 5, none⟩ = some (.int .u32 t0.c)) :=
    ⟨cell_of_obj kx rfl, cell_of_obj kx rfl, cell_of_obj kx rfl, cell_of_obj kx rfl, cell_of_obj kx rfl, cell_of_obj kx rfl⟩
  have HA := hid (show RowT wx a ps ∧ PowTab wx ∧ Below w.heap.size w wx ∧ n = ps.length from ⟨h.later hbx, ht.later hbx, hbx, hn⟩)
  have NW := hid (stonew_is wx)
  have HT0 := hid hz
  clear hz
  rw [← hn] at hl ⊢
  clear h ht hbx kx hn
  go_enter Tryd.func5, Tryd.ntmps5
  go_wp2_with fail
  rw [← hwx]
  clear hwx
  go_wp2_with (go_at_call 17; refine NW.out.mono ?_; rintro e w1 ⟨p, F0, rfl, s1, f1, hb1⟩; have HS1 := hid s1; have HF1 := hid f1; have HB1 := hid hb1; clear s1 f1 hb1)
  obtain ⟨w2, hw2⟩ : ∃ w2, w2 = w1.alloc (.cells #[.int .u64 0, .int .u32 0, .int .u32 0] 26) := ⟨_, rfl⟩
  have hb2 : Below w1.heap.size w1 w2 := by rw [hw2]; exact Below.al (Below.refl _ _) _
  have HB2 : Hid (Below wx.heap.size wx w2) := Below.on HB1.out hb2
  have HK2 : Hid (StB w2 w1.heap.size ⟨0, 0, 0⟩) := by rw [hw2]; exact World.alloc_heap_new _ _
  have HS2 := hid (HS1.out.later hb2)
  rw [← hw2]
  obtain ⟨bl, hbl⟩ : ∃ bl, bl = w1.heap.size := ⟨_, rfl⟩
  rw [← hbl] at HK2 ⊢
  have HBL : Hid (wx.heap.size ≤ bl) := by rw [hbl]; exact HB1.out.size
  clear hw2 hb2 HS1 hbl HB1 NW
  go_loopg [4, 5, 7, 8, 9] n (fun g s4 s5 s7 s8 s9 wr => ∃ i : Nat, i ≤ n ∧ g = n - i ∧ s9 = .int .i64 i ∧ ∃ (F : Nat → Prop) (M : Mst) (last : Sp) (any : Bool), s7 = .bool any ∧ s8 = .int .i64 (countM M : Nat) ∧ Hid (MapI wx wr F p bl s4 s5 M last any t0 i))
  case atStart => exact ⟨0, by omega, by omega, rfl, F0, [], ⟨0, 0, 0⟩, false, rfl, rfl, ⟨HS2.out, HF1.out, OwnP.nil _ _, OwnP.nil _ _, HK2.out, ⟨fun e he => (by cases he), fun _ => rfl⟩, ⟨Int.le_refl _, Int.le_refl _, Int.le_refl _⟩, by simp [countM], HB2.out⟩⟩
  case round =>
    obtain ⟨i, hin, rfl, rfl, F, M, last, any, rfl, rfl, HI⟩ := hrel
    obtain ⟨vm, hvm⟩ : ∃ v, v = u4 := ⟨_, rfl⟩
    obtain ⟨ve, hve⟩ : ∃ v, v = u5 := ⟨_, rfl⟩
    rw [← hvm, ← hve] at HI ⊢
    clear hvm hve HS2 HF1 HB2 HK2
    have x0 := cell_later HI.out.bl HX.out.1
    by_cases hlt : i < n
    · obtain ⟨b, off, hab, c0, c1, c2, c3, hrx, hwl, htn⟩ := HA.out.1 i (by rw [← HA.out.2.2.2]; exact hlt)
      obtain ⟨q, hq⟩ : ∃ q, q = nthT ps i := ⟨_, rfl⟩
      rw [← hq] at c0 c1 c2 c3 hrx hwl htn
      replace c0 := cell_later HI.out.bl c0
      replace c1 := cell_later HI.out.bl c1
      replace c2 := cell_later HI.out.bl c2
      replace c3 := cell_later HI.out.bl c3
      subst hab
      obtain ⟨qa, qc, ws, t⟩ := q
      simp only at c0 c1 c2 c3 hrx hwl htn
      have HTN := hid htn
      clear htn
      have hrw := hrx.later HI.out.bl
      have HRX := hid hrx
      clear hrx
      obtain ⟨k, hk⟩ : ∃ k, k = ws.length := ⟨_, rfl⟩
      rw [← hk] at c0
      have l0 : wr.cell? ⟨bl, 0, none⟩ = some (.int .u64 last.a) := cell_of_obj HI.out.box rfl
      have l1 : wr.cell? ⟨bl, 1, none⟩ = some (.int .u32 last.b) := cell_of_obj HI.out.box rfl
      have l2 : wr.cell? ⟨bl, 2, none⟩ = some (.int .u32 last.c) := cell_of_obj HI.out.box rfl
      obtain ⟨wp, hwp⟩ : ∃ wp, wp = wr.alloc (.cells #[.slice qa k qc, .int .u64 t.a, .int .u32 t.b, .int .u32 t.c] 59) := ⟨_, rfl⟩
      have hbp : Below wr.heap.size wr wp := by rw [hwp]; exact Below.al (Below.refl _ _) _
      have kp : PuB wp wr.heap.size qa k qc t := by rw [hwp]; exact World.alloc_heap_new _ _
      have HBP := hid hbp
      have HKP := hid kp
      have p0 : wp.cell? ⟨wr.heap.size, 0, none⟩ = some (.slice qa k qc) := cell_of_obj kp rfl
      have p1 : wp.cell? ⟨wr.heap.size, 1, none⟩ = some (.int .u64 t.a) := cell_of_obj kp rfl
      have p2 : wp.cell? ⟨wr.heap.size, 2, none⟩ = some (.int .u32 t.b) := cell_of_obj kp rfl
      have p3 : wp.cell? ⟨wr.heap.size, 3, none⟩ = some (.int .u32 t.c) := cell_of_obj kp rfl
      have l0 := cell_later hbp l0
      have l1 := cell_later hbp l1
      have l2 := cell_later hbp l2
      obtain ⟨u, hu⟩ : ∃ u, mayB ws t last any = u := ⟨_, rfl⟩
      have MY := hid (may_is (c := qc) hu (hrw.later hbp) (by omega))
      rw [← hk] at MY
      have HRW := hid (show RowW wr qa ws ∧ k = ws.length from ⟨hrw, hk⟩)
      clear hq hrw hbp kp hk
      subst hwp
      cases u with
      | false =>
        clear hu
        go_wp2_with (go_at_call 21; refine MY.out.mono ?_; rintro e w3 ⟨rfl, hb3⟩)
        go_roundg (n - (i + 1))
        case measure => omega
        case rel => exact ⟨i + 1, by omega, rfl, by go_num, F, M, last, any, rfl, rfl, HI.out.later (Below.on HBP.out hb3) (by omega)⟩
      | true =>
        have HMY := hid (may_yes hu)
        clear hu
        go_wp2_with (go_at_call 21; refine MY.out.mono ?_; rintro e w3 ⟨rfl, hb3⟩; have HB3 : Hid (Below wr.heap.size wr w3) := Below.on HBP.out hb3; have HK3 : Hid (PuB w3 wr.heap.size qa k qc t) := HKP.out.later hb3; clear hb3)
        have HI3 := hid (HI.out.later HB3.out (Nat.le_refl i))
        have hcnt : countM M ≤ 16777216 := by have := HI.out.cnt; omega
        have hfree := top_free HI.out.sto.good.rising HI.out.top HMY.out.2.2 ws
        have hok := inst_ok HMY.out.1 HMY.out.2.1 hfree
        have HFR := hid hfree
        have RM : Hid (∀ W, Below w3.heap.size w3 W → Calls Tryd.prog 18 #[.slice qa k qc] W fun e w' => ∃ g, e = .returned (.slice (some ⟨g, 0, none⟩) k (k + 3)) ∧ RowW w' (some ⟨g, 0, none⟩) ws ∧ W.heap.size ≤ g ∧ Below W.heap.size W w') := fun W hb => by
          rw [HRW.out.2]
          exact (roomy_is (c := qc) (HRW.out.1.later (Below.on HB3.out hb)) (by omega) (HA.out.2.1.later (Below.on HI3.out.bl hb))).mono fun e w' ⟨g, he, hr⟩ => ⟨g, he, hr.row, hr.low, hr.bl⟩
        have IN : Hid (∀ W g, Below w3.heap.size w3 W → RowW W (some ⟨g, 0, none⟩) ws → w3.heap.size ≤ g → Calls Tryd.prog 9 #[pt p, .slice (some ⟨g, 0, none⟩) k (k + 3), sv t] W fun e w' => e = .returned (.int .i64 0) ∧ (∃ F', Sto F' w' p (instM M ws t) ⟨0, 0, 0⟩ ∧ (∀ b, F' b → wx.heap.size ≤ b)) ∧ Onl F W w') := fun W g hb hr hg => by
          have := install_is (c := k + 3) t (HI3.out.sto.later hb) hr (fun b off e hf => by
            injection e with e; injection e with e1 _
            subst e1
            have := HI3.out.sto.lt hf
            omega) (by omega) (by omega)
          rw [← HRW.out.2] at this
          refine this.mono fun e w' ⟨he, F', hs, hf, ho⟩ => ⟨by rw [he, hok.1], ⟨F', by rw [hok.2] at hs; exact hs, fun b hb' => (hf b hb').elim (HI3.out.low b) (fun h => Nat.le_trans (Nat.le_trans HI3.out.bl.size hb.size) h)⟩, ho⟩
        have p0 : w3.cell? ⟨wr.heap.size, 0, none⟩ = some (.slice qa k qc) := cell_of_obj HK3.out rfl
        have p1 : w3.cell? ⟨wr.heap.size, 1, none⟩ = some (.int .u64 t.a) := cell_of_obj HK3.out rfl
        have p2 : w3.cell? ⟨wr.heap.size, 2, none⟩ = some (.int .u32 t.b) := cell_of_obj HK3.out rfl
        have p3 : w3.cell? ⟨wr.heap.size, 3, none⟩ = some (.int .u32 t.c) := cell_of_obj HK3.out rfl
        have HNF : Hid (¬ F wr.heap.size) := HK3.out.not HI3.out.sto
        clear hfree hok MY l0 l1 l2 x0
        go_wp2_with fail
        go_region_held3 (fun w' => w'.cell? ⟨wr.heap.size, 0, none⟩ = some (.slice qa k qc) ∧ w'.cell? ⟨wr.heap.size, 1, none⟩ = some (.int .u64 t.a) ∧ w'.cell? ⟨wr.heap.size, 2, none⟩ = some (.int .u32 t.b) ∧ w'.cell? ⟨wr.heap.size, 3, none⟩ = some (.int .u32 t.c) ∧ Onl F w3 w')
          ((refine (fun (hO : Onl F w3 _) => ⟨hO.cell HNF.out p0, hO.cell HNF.out p1, hO.cell HNF.out p2, hO.cell HNF.out p3, hO⟩) ?_; (repeat (first | exact Onl.refl _ _ | assumption | refine Onl.drew ?_ | refine Onl.al ?_ _))))
          (first
            | (go_at_call 18; refine (RM.out _ (by (repeat (first | exact Below.refl _ _ | assumption | refine Below.drew ?_ | refine Below.al ?_ _ | refine Below.setCell ?_ (by first | exact Nat.le_refl _ | (simp; omega) | (simp; done)) _ | refine Below.on ?_ (by assumption))))).mono ?_; rintro e w4 ⟨g, rfl, hr4, hg4, hb4⟩; have hc4 : Below w3.heap.size w3 w4 := (by (repeat (first | exact Below.refl _ _ | assumption | refine Below.drew ?_ | refine Below.al ?_ _ | refine Below.setCell ?_ (by first | exact Nat.le_refl _ | (simp; omega) | (simp; done)) _ | refine Below.on ?_ (by assumption)))); have hO4 : Onl F w3 w4 := Onl.of_below hc4)
            | (go_at_call 9; refine (IN.out w4 g hc4 hr4 hg4).mono ?_; rintro e w5 ⟨rfl, hF5, ho5⟩; have hO5 : Onl F w3 w5 := hO4.trans ho5))
        have hF5 := hid hF5
        have HO5 := hid hO5
        have HK5 : Hid (PuB w5 wr.heap.size qa k qc t) := (HO5.out.block _ HK3.out.lt HNF.out).trans HK3.out
        have HL5 : Hid (StB w5 bl last) := HI3.out.box.onl HI3.out.sto HO5.out
        have HW5 : Hid (Below wx.heap.size wx w5) := HI3.out.bl.trans (HO5.out.below HI3.out.low (Nat.le_trans (Nat.le_refl _) HI3.out.bl.size))
        have HRM : Hid (OwnP w5 wx.heap.size vm (readAll M t0)) := HI3.out.rm.onl HI3.out.sto HO5.out
        have HRE : Hid (OwnP w5 wx.heap.size ve (readAll M last)) := HI3.out.re.onl HI3.out.sto HO5.out
        have ne1 : wr.heap.size ≠ bl := type_ne HK5.out HL5.out (by decide)
        have ne2 : bl ≠ wr.heap.size := Ne.symm ne1
        have p0 : w5.cell? ⟨wr.heap.size, 0, none⟩ = some (.slice qa k qc) := cell_of_obj HK5.out rfl
        have p1 : w5.cell? ⟨wr.heap.size, 1, none⟩ = some (.int .u64 t.a) := cell_of_obj HK5.out rfl
        have p2 : w5.cell? ⟨wr.heap.size, 2, none⟩ = some (.int .u32 t.b) := cell_of_obj HK5.out rfl
        have p3 : w5.cell? ⟨wr.heap.size, 3, none⟩ = some (.int .u32 t.c) := cell_of_obj HK5.out rfl
        have l0 : w5.cell? ⟨bl, 0, none⟩ = some (.int .u64 last.a) := cell_of_obj HL5.out rfl
        have l1 : w5.cell? ⟨bl, 1, none⟩ = some (.int .u32 last.b) := cell_of_obj HL5.out rfl
        have l2 : w5.cell? ⟨bl, 2, none⟩ = some (.int .u32 last.c) := cell_of_obj HL5.out rfl
        have lf := HL5.out.loose
        obtain ⟨w6, hw6⟩ : ∃ w6, w6 = setS w5 bl t := ⟨_, rfl⟩
        have HK6 : Hid (PuB w6 wr.heap.size qa k qc t) := by rw [hw6]; exact ((onl_setS w5 bl t).block _ HK5.out.lt ne1).trans HK5.out
        have HL6 : Hid (StB w6 bl t) := by rw [hw6]; exact HL5.out.set t
        have HW6 : Hid (Below wx.heap.size wx w6) := by rw [hw6]; exact HW5.out.trans ((onl_setS w5 bl t).below (fun b e => by rw [e]; exact HBL.out) HW5.out.size)
        have HM6 : Hid (OwnP w6 wx.heap.size vm (readAll M t0)) := by rw [hw6]; exact HRM.out.setS HL5.out t
        have HE6 : Hid (OwnP w6 wx.heap.size ve (readAll M t)) := by rw [hw6, top_start HI.out.top HMY.out.2.2]; exact HRE.out.setS HL5.out t
        have HS6 : Hid (∃ F', Sto F' w6 p (instM M ws t) ⟨0, 0, 0⟩ ∧ (∀ b, F' b → wx.heap.size ≤ b)) := by
          obtain ⟨F', s5, f5⟩ := hF5.out
          exact ⟨F', by rw [hw6]; exact s5.keepB (onl_setS w5 bl t) (fun b e => by rw [e]; exact HL5.out.not), f5⟩
        have hN1 : (countM M : Int) + (k : Int) ≤ 9223372036854775807 := by have := HRW.out.2; omega
        clear RM IN hF5 hcnt hr4 hg4 hb4 hc4 hO4 ho5 hO5 HRM HRE HB3 HK3 HKP HBP HI3
        go_wp2_with fail
        rw [show (((w5.setCell ⟨bl, 0, none⟩ (.int .u64 t.a)).setCell ⟨bl, 1, none⟩ (.int .u32 t.b)).setCell ⟨bl, 2, none⟩ (.int .u32 t.c)) = w6 from hw6.symm]
        obtain ⟨bq, hbq⟩ : ∃ bq, bq = wr.heap.size := ⟨_, rfl⟩
        rw [← hbq] at HK6 ⊢
        have hcb : Hid (countM M + 16 ≤ 16777232) := by have := HI.out.cnt; show _ ≤ _; omega
        have HGD : Hid (Good M) := HI.out.sto.good
        have HTP := hid (top_next HI.out.sto.good.rising HI.out.top HMY.out.2.2 ws)
        have HCN : Hid (countM M ≤ 16 * i) := HI.out.cnt
        clear hw6 hbq ne1 ne2 p0 p1 p2 p3 l0 l1 l2 lf HK5 HL5 HW5 HI c0 c1 c2 c3
        go_loopg [4, 5, 11] k (fun g s4 s5 s11 wr => ∃ j : Nat, j ≤ k ∧ g = k - j ∧ s11 = .int .i64 j ∧ Hid (InnI wx w6 wr s4 s5 M ws t t0 j))
        case atStart => exact ⟨0, by omega, by omega, rfl, ⟨HM6.out, HE6.out, Below.refl _ _⟩⟩
        case round =>
          obtain ⟨j, hjk, rfl, rfl, HJ⟩ := hrel
          have HWJ : Hid (Below wx.heap.size wx wr) := HW6.out.trans (HJ.out.bl.mono HW6.out.size)
          have HKJ : Hid (PuB wr bq qa k qc t) := HK6.out.later HJ.out.bl
          have p0 : wr.cell? ⟨bq, 0, none⟩ = some (.slice qa k qc) := cell_of_obj HKJ.out rfl
          by_cases hjlt : j < k
          · obtain ⟨bw, ow, hqa, d0, d1, d2⟩ := (HRX.out.later HWJ.out) j (by rw [← HRW.out.2]; exact hjlt)
            have hjw : j < ws.length := by rw [← HRW.out.2]; exact hjlt
            have HL1 := hid (inst_lay HGD.out.rising hjw (Sp.irr t))
            have HL2 : Hid (∀ hs : t0.lt t = false, _) := fun hs => inst_lay HGD.out.rising hjw hs
            have HL3 : Hid (∀ hs : t0.lt t = true, _) := fun hs => inst_skip HGD.out.rising hjw hs
            obtain ⟨x, hx⟩ : ∃ x, x = nthW ws j := ⟨_, rfl⟩
            rw [← hx] at d0 d1 d2 HL1 HL2
            clear hx
            obtain ⟨xk, xd, xv⟩ := x
            simp only at d0 d1 d2
            obtain ⟨ma, mc, hvm⟩ := HJ.out.rm.slice
            obtain ⟨ea, ec, hve⟩ := HJ.out.re.slice
            have hgj : Good (instM M (ws.take j) t) := inst_good HGD.out HMY.out.1 HFR.out j (by omega)
            have hcj : countM (instM M (ws.take j) t) ≤ 16777232 := by
              rw [(instM_count HGD.out.rising (ws.take j) t).1, List.length_take]
              have h1 := writes_len HMY.out.1
              have h2 := hcb.out
              omega
            have hlm := readAll_len _ hgj t0
            have hle := readAll_len _ hgj t
            obtain ⟨lm, hlmd⟩ : ∃ l, l = readAll (instM M (ws.take j) t) t0 := ⟨_, rfl⟩
            obtain ⟨le, hled⟩ : ∃ l, l = readAll (instM M (ws.take j) t) t := ⟨_, rfl⟩
            rw [← hlmd] at hvm hlm HL2 HL3
            rw [← hled] at hve hle HL1
            have HRMJ := HJ.out.rm
            have HREJ := HJ.out.re
            rw [← hlmd] at HRMJ
            rw [← hled] at HREJ
            obtain ⟨nm, hnm⟩ : ∃ n, n = lm.length := ⟨_, rfl⟩
            obtain ⟨ne, hne⟩ : ∃ n, n = le.length := ⟨_, rfl⟩
            rw [← hnm] at hvm
            rw [← hne] at hve
            rw [hvm] at HRMJ
            rw [hve] at HREJ
            have LE : Hid (∀ W, Below wr.heap.size wr W → _) := fun W hb => lay_at HREJ hne hb HWJ.out.size (Nat.le_trans (Nat.mul_le_mul_right 64 (show le.length + 2 ≤ 2147483648 by omega)) (by decide)) xk xv xd
            have LM : Hid (∀ W, Below wr.heap.size wr W → _) := fun W hb => lay_at HRMJ hnm hb HWJ.out.size (Nat.le_trans (Nat.mul_le_mul_right 64 (show lm.length + 2 ≤ 2147483648 by omega)) (by decide)) xk xv xd
            have HRMH := hid HRMJ
            have HBJ := hid HJ.out.bl
            have HD : Hid (wr.cell? ⟨bw, ow + j * 3, none⟩ = some (.string xk) ∧ wr.cell? ⟨bw, ow + j * 3 + 1, none⟩ = some (.bool xd) ∧ wr.cell? ⟨bw, ow + j * 3 + 2, none⟩ = some (.string xv)) := ⟨d0, d1, d2⟩
            have HJ0 := HJ
            rw [hvm] at HJ0
            subst hqa
            rw [hvm, hve]
            clear hvm hve hgj hcj hlm hle hlmd hled HRMJ HREJ hnm hne HJ hjw HJ0
            cases hs : t0.lt t with
            | true =>
              have BE := hid (fun W => below_is hs W)
              have HL3' := hid (HL3.out hs)
              clear hs HL3 HL2
              go_wp2_with (first
                | (go_at_call 22; refine (LE.out _ (by (repeat (first | exact Below.refl _ _ | assumption | refine Below.drew ?_ | refine Below.al ?_ _ | refine Below.setCell ?_ (by first | exact Nat.le_refl _ | (simp; omega) | (simp; done)) _ | refine Below.on ?_ (by assumption))))).mono ?_; rintro e w7 ⟨v7, rfl, o7, hb7⟩; have O7 := hid o7; have hx7 := Below.on HWJ.out hb7; have hk7 := HKJ.out.later hb7; have x3 := cell_later hx7 HX.out.2.2.2.1; have x4 := cell_later hx7 HX.out.2.2.2.2.1; have x5 := cell_later hx7 HX.out.2.2.2.2.2; have p1 : w7.cell? ⟨bq, 1, none⟩ = some (.int .u64 t.a) := cell_of_obj hk7 rfl; have p2 : w7.cell? ⟨bq, 2, none⟩ = some (.int .u32 t.b) := cell_of_obj hk7 rfl; have p3 : w7.cell? ⟨bq, 3, none⟩ = some (.int .u32 t.c) := cell_of_obj hk7 rfl; clear hx7 hk7 o7)
                | (go_at_call 14; refine (BE.out _).mono ?_; rintro e w8 ⟨rfl, hb8⟩))
              go_roundg (k - (j + 1))
              case measure => omega
              case rel => exact ⟨j + 1, by omega, rfl, by go_num, ⟨by rw [HL3'.out]; exact HRMH.out.later (Below.on hb7 hb8), by rw [HL1.out]; exact O7.out.later hb8, Below.on (Below.on HBJ.out hb7) hb8⟩⟩
            | false =>
              have BE := hid (fun W => below_is hs W)
              have HL2' := hid (HL2.out hs)
              clear hs HL3 HL2
              go_wp2_with (first
                | (go_at_call 22; refine (LM.out w8 (Below.on hb7 hb8)).mono ?_; rintro e w9 ⟨v9, rfl, o9, hb9⟩)
                | (go_at_call 22; refine (LE.out _ (by (repeat (first | exact Below.refl _ _ | assumption | refine Below.drew ?_ | refine Below.al ?_ _ | refine Below.setCell ?_ (by first | exact Nat.le_refl _ | (simp; omega) | (simp; done)) _ | refine Below.on ?_ (by assumption))))).mono ?_; rintro e w7 ⟨v7, rfl, o7, hb7⟩; have O7 := hid o7; have hx7 := Below.on HWJ.out hb7; have hk7 := HKJ.out.later hb7; have x3 := cell_later hx7 HX.out.2.2.2.1; have x4 := cell_later hx7 HX.out.2.2.2.2.1; have x5 := cell_later hx7 HX.out.2.2.2.2.2; have p1 : w7.cell? ⟨bq, 1, none⟩ = some (.int .u64 t.a) := cell_of_obj hk7 rfl; have p2 : w7.cell? ⟨bq, 2, none⟩ = some (.int .u32 t.b) := cell_of_obj hk7 rfl; have p3 : w7.cell? ⟨bq, 3, none⟩ = some (.int .u32 t.c) := cell_of_obj hk7 rfl; clear hx7 hk7 o7)
                | (go_at_call 14; refine (BE.out _).mono ?_; rintro e w8 ⟨rfl, hb8⟩; have hk8 := HKJ.out.later (Below.on hb7 hb8); have p08 : w8.cell? ⟨bq, 0, none⟩ = some (.slice (some ⟨bw, ow, none⟩) k qc) := cell_of_obj hk8 rfl; have d08 := cell_later (Below.on hb7 hb8) HD.out.1; have d18 := cell_later (Below.on hb7 hb8) HD.out.2.1; have d28 := cell_later (Below.on hb7 hb8) HD.out.2.2; clear hk8))
              go_roundg (k - (j + 1))
              case measure => omega
              case rel => exact ⟨j + 1, by omega, rfl, by go_num, ⟨by rw [HL2'.out]; exact o9, by rw [HL1.out]; exact O7.out.later (Below.on hb8 hb9), Below.on (Below.on (Below.on HBJ.out hb7) hb8) hb9⟩⟩
          · obtain rfl : j = k := by omega
            go_wp2_with fail
            have hNJ : Hid (countM (instM M ws t) = countM M + j) := by show _ = _; rw [(instM_count HGD.out.rising ws t).1, HRW.out.2]
            go_roundg (n - (i + 1))
            case measure => omega
            case rel =>
              obtain ⟨F', s6, f6⟩ := HS6.out
              refine ⟨i + 1, by omega, rfl, by go_num, F', instM M ws t, t, true, rfl, by rw [hNJ.out]; rfl, ⟨s6.later HJ.out.bl, f6, ?_, ?_, HL6.out.later HJ.out.bl, HTP.out, HTN.out, ?_, HWJ.out⟩⟩
              · have := HJ.out.rm; rw [HRW.out.2, List.take_of_length_le (Nat.le_refl _)] at this; exact this
              · have := HJ.out.re; rw [HRW.out.2, List.take_of_length_le (Nat.le_refl _)] at this; exact this
              · rw [hNJ.out]; have h1 := writes_len HMY.out.1; have h2 := HCN.out; have h3 := HRW.out.2; omega
    · obtain rfl : i = n := by omega
      have hcnt : countM M ≤ 16777216 := by have := HI.out.cnt; omega
      have LN := hid (stolen_is HI.out.sto (by omega))
      obtain ⟨cN, hcN⟩ : ∃ cN, cN = countM M := ⟨_, rfl⟩
      rw [← hcN] at LN ⊢
      clear hcN
      obtain ⟨ma, mc, hvm⟩ := HI.out.rm.slice
      obtain ⟨ea, ec, hve⟩ := HI.out.re.slice
      have HRM := HI.out.rm
      have HRE := HI.out.re
      obtain ⟨lm, hlm⟩ : ∃ l, l = readAll M t0 := ⟨_, rfl⟩
      obtain ⟨le, hle⟩ : ∃ l, l = readAll M last := ⟨_, rfl⟩
      have hlml := readAll_len M HI.out.sto.good t0
      have hlel := readAll_len M HI.out.sto.good last
      rw [← hlm] at hvm HRM hlml
      rw [← hle] at hve HRE hlel
      rw [hvm] at HRM
      rw [hve] at HRE
      have HZ0 : Hid (t0.lt ⟨0, 0, 0⟩ = false ∧ last.lt ⟨0, 0, 0⟩ = false) := ⟨Sp.nn_lt HT0.out, Sp.nn_lt HI.out.nn⟩
      have HRM' := hid HRM
      have HRE' := hid HRE
      obtain ⟨nm, hnm⟩ : ∃ k, k = lm.length := ⟨_, rfl⟩
      obtain ⟨ne, hne⟩ : ∃ k, k = le.length := ⟨_, rfl⟩
      have WI : Hid (∀ W, Below wr.heap.size wr W → Calls Tryd.prog 23 #[.slice ma nm mc, .agg #[.string lo, .string hi]] W fun e w' => ∃ va vn vc, e = .returned (.slice va vn vc) ∧ Hid (OwnP w' W.heap.size (.slice va vn vc) (rangeX lm lo hi) ∧ vn = (rangeX lm lo hi).length) ∧ Below W.heap.size W w') := fun W hb => by
        rw [hnm]
        refine (within_is (c := mc) (lo := lo) (hi := hi) (HRM'.out.row.later hb) (Nat.le_trans (Nat.mul_le_mul_right 64 (show lm.length + 1 ≤ 2147483648 by omega)) (by decide))).mono fun e w' ⟨v, he, ho, hb'⟩ => ?_
        obtain ⟨va, vc, rfl⟩ := ho.slice
        exact ⟨va, _, vc, he, ⟨ho, rfl⟩, hb'⟩
      have RD1 : Hid (∀ W va vn vc (W0 : World), Below wr.heap.size wr W0 → Below W0.heap.size W0 W → OwnP W W0.heap.size (.slice va vn vc) (rangeX lm lo hi) ∧ vn = (rangeX lm lo hi).length → Calls Tryd.prog 20 #[pt p, .agg #[.string lo, .string hi], sv t0, .slice va vn vc] W fun e w' => e = .returned (.bool true) ∧ Below W.heap.size W w') := fun W va vn vc W0 h0 hb ho => by
        obtain ⟨ho, rfl⟩ := ho
        exact reads_is (HI.out.sto.later (Below.on h0 hb)) (by omega) HZ0.out.1 ho.row (by rw [hlm, readM_is])
      have RD2 : Hid (∀ W, Below wr.heap.size wr W → Calls Tryd.prog 20 #[pt p, .agg #[.string ⟨#[]⟩, .string ⟨#[]⟩], sv last, .slice ea ne ec] W fun e w' => e = .returned (.bool true) ∧ Below W.heap.size W w') := fun W hb => by
        rw [hne]
        exact reads_is (HI.out.sto.later hb) (by omega) HZ0.out.2 (HRE'.out.row.later hb) (by rw [hle, readM_is, rangeX_all])
      rw [← hnm] at hvm
      rw [← hne] at hve
      rw [hvm, hve]
      have x1 := cell_later HI.out.bl HX.out.2.1
      have x2 := cell_later HI.out.bl HX.out.2.2.1
      have x3 := cell_later HI.out.bl HX.out.2.2.2.1
      have x4 := cell_later HI.out.bl HX.out.2.2.2.2.1
      have x5 := cell_later HI.out.bl HX.out.2.2.2.2.2
      have l0 : wr.cell? ⟨bl, 0, none⟩ = some (.int .u64 last.a) := cell_of_obj HI.out.box rfl
      have l1 : wr.cell? ⟨bl, 1, none⟩ = some (.int .u32 last.b) := cell_of_obj HI.out.box rfl
      have l2 : wr.cell? ⟨bl, 2, none⟩ = some (.int .u32 last.c) := cell_of_obj HI.out.box rfl
      have HBW : Hid (Below w.heap.size w wr) := Below.on HA.out.2.2.1 HI.out.bl
      clear hvm hve HRM HRE hlm hle hlml hlel hnm hne hcnt HRM' HRE' HI HZ0
      go_wp2_with (go_at_call 11; refine LN.out.mono ?_; rintro e w3 ⟨rfl, hb3⟩)
      have x1 := cell_later hb3 x1
      have x2 := cell_later hb3 x2
      have x3 := cell_later hb3 x3
      have x4 := cell_later hb3 x4
      have x5 := cell_later hb3 x5
      have l0 := cell_later hb3 l0
      have l1 := cell_later hb3 l1
      have l2 := cell_later hb3 l2
      have HB3 := hid hb3
      clear LN x0
      go_region_held3 (fun w' => w'.cell? ⟨w.heap.size, 1, none⟩ = some (.string lo) ∧ w'.cell? ⟨w.heap.size, 2, none⟩ = some (.string hi) ∧ w'.cell? ⟨w.heap.size, 3, none⟩ = some (.int .u64 t0.a) ∧ w'.cell? ⟨w.heap.size, 4, none⟩ = some (.int .u32 t0.b) ∧ w'.cell? ⟨w.heap.size, 5, none⟩ = some (.int .u32 t0.c) ∧ w'.cell? ⟨bl, 0, none⟩ = some (.int .u64 last.a) ∧ w'.cell? ⟨bl, 1, none⟩ = some (.int .u32 last.b) ∧ w'.cell? ⟨bl, 2, none⟩ = some (.int .u32 last.c) ∧ Below w3.heap.size w3 w')
        ((refine (fun (hB : Below w3.heap.size w3 _) => ⟨cell_later hB x1, cell_later hB x2, cell_later hB x3, cell_later hB x4, cell_later hB x5, cell_later hB l0, cell_later hB l1, cell_later hB l2, hB⟩) ?_; (repeat (first | exact Below.refl _ _ | assumption | refine Below.drew ?_ | refine Below.al ?_ _ | refine Below.setCell ?_ (by first | exact Nat.le_refl _ | (simp; omega) | (simp; done)) _ | refine Below.on ?_ (by assumption)))))
        (first
          | (go_at_call 23; refine (WI.out _ (Below.on HB3.out (by (repeat (first | exact Below.refl _ _ | assumption | refine Below.drew ?_ | refine Below.al ?_ _ | refine Below.setCell ?_ (by first | exact Nat.le_refl _ | (simp; omega) | (simp; done)) _ | refine Below.on ?_ (by assumption)))))).mono ?_; rintro e w4 ⟨va, vn, vc, rfl, HV, hb4⟩)
          | (go_at_call_of 20 lo; refine (RD1.out w4 va vn vc _ (Below.on HB3.out (by (repeat (first | exact Below.refl _ _ | assumption | refine Below.drew ?_ | refine Below.al ?_ _ | refine Below.setCell ?_ (by first | exact Nat.le_refl _ | (simp; omega) | (simp; done)) _ | refine Below.on ?_ (by assumption))))) hb4 HV.out).mono ?_; rintro e w5 ⟨rfl, hb5⟩)
          | (go_at_call 20; refine (RD2.out _ (Below.on HB3.out (by (repeat (first | exact Below.refl _ _ | assumption | refine Below.drew ?_ | refine Below.al ?_ _ | refine Below.setCell ?_ (by first | exact Nat.le_refl _ | (simp; omega) | (simp; done)) _ | refine Below.on ?_ (by assumption)))))).mono ?_; rintro e w6 ⟨rfl, hb6⟩))
      go_wp2_with fail
      go_ret
      exact ⟨rfl, Below.on HBW.out (Below.on HB3.out (by (repeat (first | exact Below.refl _ _ | assumption | refine Below.drew ?_ | refine Below.al ?_ _ | refine Below.setCell ?_ (by first | exact Nat.le_refl _ | (simp; omega) | (simp; done)) _ | refine Below.on ?_ (by assumption)))))⟩
end Go.Proofs.YtaknkodjganacaaDoor.Vs
