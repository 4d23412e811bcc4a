import Derived.Test.YtaknkodjganacaaDoorVPt
import Derived.Test.YtaknkodjganacaaDoorVLoad
import Derived.Test.YtaknkodjganacaaDoorVAmong
import Derived.Test.YtaknkodjganacaaDoorVSameV
namespace Go.Proofs.YtaknkodjganacaaDoor.Vs
open Go.RowKit Go.Sort
set_option linter.unusedVariables false

/-- what stands at the law's loop -/
structure DmI (wx wr : World) (F : Nat → Prop) (p bl : Nat) (vw : Value) (M : Mst) (last : Sp) (any : Bool) (ps : List Pt) (k : Nat) : Prop where
  sto : Sto F wr p M ⟨0, 0, 0⟩
  low : ∀ b, F b → wx.heap.size ≤ b
  row : OwnV wr wx.heap.size vw (dumpM M)
  nf : ∀ g, vw.ownBlock = some g → ¬ F g
  box : StB wr bl last
  top : TopM M last any
  nn : last.nn
  ok : OkM M
  cnt : countM M ≤ sumT (ps.take k)
  bl : Below wx.heap.size wx wr
theorem DmI.later {wx wr w' : World} {F : Nat → Prop} {p bl : Nat} {vw : Value} {M : Mst} {last : Sp} {any : Bool} {ps : List Pt} {k k' : Nat} (h : DmI wx wr F p bl vw M last any ps k) (hb : Below wr.heap.size wr w') (hk : k ≤ k') : DmI wx w' F p bl vw M last any ps k' :=
  ⟨h.sto.later hb, h.low, h.row.later hb, h.nf, h.box.later hb, h.top, h.nn, h.ok, Nat.le_trans h.cnt (sumT_le hk), Below.on h.bl hb⟩
/-- at its inner loop -/
structure DnI (wx w6 wr : World) (F : Nat → Prop) (vw : Value) (M : Mst) (ws : List Wr) (t : Sp) (j : Nat) : Prop where
  row : OwnV wr wx.heap.size vw (dumpM (instM M (ws.take j) t))
  nf : ∀ g, vw.ownBlock = some g → ¬ F g
  bl : Below w6.heap.size w6 wr
theorem OwnV.setS {w : World} {B b : Nat} {v : Value} {l : List Kv} {s : Sp} (h : OwnV w B v l) (hb : StB w b s) (t : Sp) : OwnV (setS w b t) B v l := OwnV.onl h (onl_setS w b t) fun g hg e => by
  subst e
  obtain ⟨_, ⟨rfl, _⟩ | ⟨g', cap, cur, rfl, _, hgb, _⟩⟩ := h
  · simp [Value.ownBlock] at hg
  · obtain rfl : g' = g := by simpa [Value.ownBlock] using hg
    rw [show w.heap[g']? = _ from hb] at hgb; cases hgb
theorem OwnV.blk_lt {w : World} {B : Nat} {v : Value} {l : List Kv} (h : OwnV w B v l) : ∀ g, v.ownBlock = some g → B ≤ g ∧ g < w.heap.size := fun g hg => World.ownsRow.lt h g hg
theorem among_at {w W : World} {B n c : Nat} {a : Option Addr} {l : List Kv} (h : OwnV w B (.slice a n c) l) (hn : n = l.length) (hs : l.Pairwise fun x y => folB x y = true) (hb : Below w.heap.size w W) (hB : B ≤ w.heap.size) (hl : (l.length + 2) * 64 ≤ 140737488355328) (k : ByteArray) (t : Sp) (d : Bool) (v : ByteArray) :
    Calls Tryd.prog 24 #[.slice a n c, .agg #[.string k, .int .u64 t.a, .int .u32 t.b, .int .u32 t.c, .bool d, .string v]] W fun e w' => ∃ x, e = .returned x ∧ OwnV w' B x (amX l (k, ⟨t, d, v⟩)) ∧ (∀ g, x.ownBlock = some g → W.heap.size ≤ g) ∧ Below W.heap.size W w' := by
  subst hn
  exact (among_is (e := (k, ⟨t, d, v⟩)) (h.row.later hb) hs hl).mono fun e w' ⟨x, he, ho, hb'⟩ => ⟨x, he, ho.base (Nat.le_trans hB hb.size), fun g hg => (ho.blk_lt g hg).1, hb'⟩

theorem sameV_at {W : World} {B B' nL lc lc' : Nat} {la lb : Option Addr} {L : List Kv} (ho : OwnV W B (.slice la nL lc) L) (ho' : OwnV W B' (.slice lb nL lc') L) (hl : nL = L.length) (hn : nL ≤ 1048576) :
    Calls Tryd.prog 25 #[.slice la nL lc, .slice lb nL lc'] W fun e w' => e = .returned (.bool true) ∧ Below W.heap.size W w' := by
  subst hl
  exact sameV_is (by simp) ho.row ho'.row (by omega) (by omega)
theorem load_at {w : World} {B nL lc : Nat} {la : Option Addr} {M : Mst} (t : Sp) (ho : OwnV w B (.slice la nL lc) (dumpM M)) (hl : nL = (dumpM M).length) (hg : Good M) (hok : OkM M) (hn : nL ≤ 1048576) :
    Calls Tryd.prog 26 #[.slice la nL lc, sv t] w fun e w' => ∃ q G, e = .returned (.tuple #[pt q, .int .i64 0]) ∧ Hid (Sto G w' q M t) ∧ Below w.heap.size w w' := by
  subst hl
  refine (stoload_is t ho.row (Nat.le_trans (Nat.mul_le_mul_right 64 (show (dumpM M).length + 1 ≤ 2097152 by omega)) (by decide))).mono ?_
  rintro e w' ⟨hp, hb⟩
  rcases hp with ⟨_, q, G, he, hs, _⟩ | ⟨hne, _⟩
  · rw [load_dump hg] at hs
    exact ⟨q, G, he, hs, hb⟩
  · exact absurd (ld_ok (dump_sorted hg) hok) hne
theorem load_round {w : World} {B nL lc : Nat} {la : Option Addr} {L : List Kv} (t : Sp) (ho : OwnV w B (.slice la nL lc) L.reverse) (hl : nL = L.length) (hs : L.Pairwise fun x y => folB x y = true) (hok : ∀ e ∈ L, okV e = true) (h2 : 2 ≤ nL) (hn : nL ≤ 1048576) :
    Calls Tryd.prog 26 #[.slice la nL lc, sv t] w fun e w' => e = .returned (.tuple #[.pointer none, .int .i64 91]) ∧ Below w.heap.size w w' := by
  have hr : L.reverse.length = nL := by rw [List.length_reverse, hl]
  rw [← hr] at ho ⊢
  refine (stoload_is t ho.row (Nat.le_trans (Nat.mul_le_mul_right 64 (show L.reverse.length + 1 ≤ 2097152 by omega)) (by decide))).mono ?_
  rintro e w' ⟨hp, hb⟩
  have h91 := ld_round hs hok (by omega)
  rcases hp with ⟨h0, _⟩ | ⟨_, he⟩
  · rw [h91] at h0; cases h0
  · rw [h91] at he; exact ⟨he, hb⟩
set_option maxHeartbeats 4000000 in
set_option maxRecDepth 16000 in
theorem law_dump {w : World} {a : Option Addr} {c : Nat} {ps : List Pt} {lo hi : ByteArray} {t0 : Sp} (h : RowT w a ps) (hl : ps.length ≤ 1048576) (hsum : sumT ps ≤ 1048576) (hz : t0.nn) (ht : PowTab w) :
    Calls Tryd.prog 6 #[.agg #[.slice a ps.length c, .string lo, .string hi, .int .u64 t0.a, .int .u32 t0.b, .int .u32 t0.c]] w fun e w' => e = .returned (.bool true) ∧ Below w.heap.size w w' := by
  obtain ⟨n, hn⟩ : ∃ n, n = ps.length := ⟨_, rfl⟩
  obtain ⟨wx, hwx⟩ : ∃ wx, wx = w.alloc (.cells #[.slice a n c, .string lo, .string hi, .int .u64 t0.a, .int .u32 t0.b, .int .u32 t0.c] 68) := ⟨_, rfl⟩
  have hbx : Below w.heap.size w wx := by rw [hwx]; exact Below.al (Below.refl _ _) _
  have kx : wx.heap[w.heap.size]? = some (.cells #[.slice a n c, .string lo, .string hi, .int .u64 t0.a, .int .u32 t0.b, .int .u32 t0.c] 68 (0, 0)) := by rw [hwx]; exact World.alloc_heap_new _ _
  have HX : Hid (wx.cell? ⟨w.heap.size, 0, none⟩ = some (.slice a n c) ∧ wx.cell? ⟨w.heap.size, 1, none⟩ = some (.string lo) ∧ wx.cell? ⟨w.heap.size, 2, none⟩ = some (.string hi) ∧ wx.cell? ⟨w.heap.size, 3, none⟩ = some (.int .u64 t0.a) ∧ wx.cell? ⟨w.heap.size, 4, none⟩ = some (.int .u32 t0.b) ∧ wx.cell? ⟨w.heap.size, 5, none⟩ = some (.int .u32 t0.c)) :=
    ⟨cell_of_obj kx rfl, cell_of_obj kx rfl, cell_of_obj kx rfl, cell_of_obj kx rfl, cell_of_obj kx rfl, cell_of_obj kx rfl⟩
  have HA := hid (show RowT wx a ps ∧ PowTab wx ∧ Below w.heap.size w wx ∧ n = ps.length from ⟨h.later hbx, ht.later hbx, hbx, hn⟩)
  have HSU : Hid (sumT ps ≤ 1048576) := hsum
  have NW := hid (stonew_is wx)
  have HT0 := hid hz
  clear hz hsum
  rw [← hn] at hl ⊢
  clear h ht hbx kx hn
  go_enter Tryd.func6, Tryd.ntmps6
  go_wp2_with fail
  rw [← hwx]
  clear hwx
  go_wp2_with (go_at_call 17; refine NW.out.mono ?_; rintro e w1 ⟨p, F0, rfl, s1, f1, hb1⟩; have HS1 := hid s1; have HF1 := hid f1; have HB1 := hid hb1; clear s1 f1 hb1)
  obtain ⟨w2, hw2⟩ : ∃ w2, w2 = w1.alloc (.cells #[.int .u64 0, .int .u32 0, .int .u32 0] 26) := ⟨_, rfl⟩
  have hb2 : Below w1.heap.size w1 w2 := by rw [hw2]; exact Below.al (Below.refl _ _) _
  have HB2 : Hid (Below wx.heap.size wx w2) := Below.on HB1.out hb2
  have HK2 : Hid (StB w2 w1.heap.size ⟨0, 0, 0⟩) := by rw [hw2]; exact World.alloc_heap_new _ _
  have HS2 := hid (HS1.out.later hb2)
  rw [← hw2]
  obtain ⟨bl, hbl⟩ : ∃ bl, bl = w1.heap.size := ⟨_, rfl⟩
  rw [← hbl] at HK2 ⊢
  have HBL : Hid (wx.heap.size ≤ bl) := by rw [hbl]; exact HB1.out.size
  clear hw2 hb2 HS1 hbl HB1 NW
  go_loopg [5, 6, 7] n (fun g s5 s6 s7 wr => ∃ i : Nat, i ≤ n ∧ g = n - i ∧ s7 = .int .i64 i ∧ ∃ (F : Nat → Prop) (M : Mst) (last : Sp) (any : Bool), s5 = .bool any ∧ Hid (DmI wx wr F p bl s6 M last any ps i))
  case atStart => exact ⟨0, by omega, by omega, rfl, F0, [], ⟨0, 0, 0⟩, false, rfl, ⟨HS2.out, HF1.out, OwnV.nil _ _, fun g hg => by simp [Value.ownBlock] at hg, HK2.out, ⟨fun e he => (by cases he), fun _ => rfl⟩, ⟨Int.le_refl _, Int.le_refl _, Int.le_refl _⟩, OkM.nil, by simp [countM], HB2.out⟩⟩
  case round =>
    obtain ⟨i, hin, rfl, rfl, F, M, last, any, rfl, HI⟩ := hrel
    obtain ⟨vw, hvw⟩ : ∃ v, v = u6 := ⟨_, rfl⟩
    rw [← hvw] at HI ⊢
    clear hvw HS2 HF1 HB2 HK2
    have x0 := cell_later HI.out.bl HX.out.1
    by_cases hlt : i < n
    · obtain ⟨b, off, hab, c0, c1, c2, c3, hrx, hwl, htn⟩ := HA.out.1 i (by rw [← HA.out.2.2.2]; exact hlt)
      have hsn := sumT_next (ps := ps) (i := i) (by rw [← HA.out.2.2.2]; exact hlt)
      obtain ⟨q, hq⟩ : ∃ q, q = nthT ps i := ⟨_, rfl⟩
      rw [← hq] at c0 c1 c2 c3 hrx hwl htn hsn
      replace c0 := cell_later HI.out.bl c0
      replace c1 := cell_later HI.out.bl c1
      replace c2 := cell_later HI.out.bl c2
      replace c3 := cell_later HI.out.bl c3
      subst hab
      obtain ⟨qa, qc, ws, t⟩ := q
      simp only at c0 c1 c2 c3 hrx hwl htn hsn
      have HTN := hid htn
      have HSN := hid hsn
      clear htn hsn
      have hrw := hrx.later HI.out.bl
      have HRX := hid hrx
      clear hrx
      obtain ⟨k, hk⟩ : ∃ k, k = ws.length := ⟨_, rfl⟩
      rw [← hk] at c0
      have l0 : wr.cell? ⟨bl, 0, none⟩ = some (.int .u64 last.a) := cell_of_obj HI.out.box rfl
      have l1 : wr.cell? ⟨bl, 1, none⟩ = some (.int .u32 last.b) := cell_of_obj HI.out.box rfl
      have l2 : wr.cell? ⟨bl, 2, none⟩ = some (.int .u32 last.c) := cell_of_obj HI.out.box rfl
      obtain ⟨wp, hwp⟩ : ∃ wp, wp = wr.alloc (.cells #[.slice qa k qc, .int .u64 t.a, .int .u32 t.b, .int .u32 t.c] 59) := ⟨_, rfl⟩
      have hbp : Below wr.heap.size wr wp := by rw [hwp]; exact Below.al (Below.refl _ _) _
      have kp : PuB wp wr.heap.size qa k qc t := by rw [hwp]; exact World.alloc_heap_new _ _
      have HBP := hid hbp
      have HKP := hid kp
      have p0 : wp.cell? ⟨wr.heap.size, 0, none⟩ = some (.slice qa k qc) := cell_of_obj kp rfl
      have p1 : wp.cell? ⟨wr.heap.size, 1, none⟩ = some (.int .u64 t.a) := cell_of_obj kp rfl
      have p2 : wp.cell? ⟨wr.heap.size, 2, none⟩ = some (.int .u32 t.b) := cell_of_obj kp rfl
      have p3 : wp.cell? ⟨wr.heap.size, 3, none⟩ = some (.int .u32 t.c) := cell_of_obj kp rfl
      have l0 := cell_later hbp l0
      have l1 := cell_later hbp l1
      have l2 := cell_later hbp l2
      obtain ⟨u, hu⟩ : ∃ u, mayB ws t last any = u := ⟨_, rfl⟩
      have MY := hid (may_is (c := qc) hu (hrw.later hbp) (by omega))
      rw [← hk] at MY
      have HRW := hid (show RowW wr qa ws ∧ k = ws.length from ⟨hrw, hk⟩)
      clear hq hrw hbp kp hk
      subst hwp
      cases u with
      | false =>
        clear hu
        go_wp2_with (go_at_call 21; refine MY.out.mono ?_; rintro e w3 ⟨rfl, hb3⟩)
        go_roundg (n - (i + 1))
        case measure => omega
        case rel => exact ⟨i + 1, by omega, rfl, by go_num, F, M, last, any, rfl, HI.out.later (Below.on HBP.out hb3) (by omega)⟩
      | true =>
        have HMY := hid (may_yes hu)
        clear hu
        go_wp2_with (go_at_call 21; refine MY.out.mono ?_; rintro e w3 ⟨rfl, hb3⟩; have HB3 : Hid (Below wr.heap.size wr w3) := Below.on HBP.out hb3; have HK3 : Hid (PuB w3 wr.heap.size qa k qc t) := HKP.out.later hb3; clear hb3)
        have HI3 := hid (HI.out.later HB3.out (Nat.le_refl i))
        have hcnt : countM M ≤ 1048576 := Nat.le_trans HI.out.cnt (Nat.le_trans (sumT_mono ps i) HSU.out)
        have hfree := top_free HI.out.sto.good.rising HI.out.top HMY.out.2.2 ws
        have hok := inst_ok HMY.out.1 HMY.out.2.1 hfree
        have HFR := hid hfree
        have RM : Hid (∀ W, Below w3.heap.size w3 W → Calls Tryd.prog 18 #[.slice qa k qc] W fun e w' => ∃ g, e = .returned (.slice (some ⟨g, 0, none⟩) k (k + 3)) ∧ RowW w' (some ⟨g, 0, none⟩) ws ∧ W.heap.size ≤ g ∧ Below W.heap.size W w') := fun W hb => by
          rw [HRW.out.2]
          exact (roomy_is (c := qc) (HRW.out.1.later (Below.on HB3.out hb)) (by omega) (HA.out.2.1.later (Below.on HI3.out.bl hb))).mono fun e w' ⟨g, he, hr⟩ => ⟨g, he, hr.row, hr.low, hr.bl⟩
        have IN : Hid (∀ W g, Below w3.heap.size w3 W → RowW W (some ⟨g, 0, none⟩) ws → w3.heap.size ≤ g → Calls Tryd.prog 9 #[pt p, .slice (some ⟨g, 0, none⟩) k (k + 3), sv t] W fun e w' => e = .returned (.int .i64 0) ∧ (∃ F', Sto F' w' p (instM M ws t) ⟨0, 0, 0⟩ ∧ (∀ b, F' b → F b ∨ w3.heap.size ≤ b)) ∧ Onl F W w') := fun W g hb hr hg => by
          have := install_is (c := k + 3) t (HI3.out.sto.later hb) hr (fun b off e hf => by
            injection e with e; injection e with e1 _
            subst e1
            have := HI3.out.sto.lt hf
            omega) (by omega) (by omega)
          rw [← HRW.out.2] at this
          refine this.mono fun e w' ⟨he, F', hs, hf, ho⟩ => ⟨by rw [he, hok.1], ⟨F', by rw [hok.2] at hs; exact hs, fun b hb' => (hf b hb').imp id (fun h => Nat.le_trans hb.size h)⟩, ho⟩
        have p0 : w3.cell? ⟨wr.heap.size, 0, none⟩ = some (.slice qa k qc) := cell_of_obj HK3.out rfl
        have p1 : w3.cell? ⟨wr.heap.size, 1, none⟩ = some (.int .u64 t.a) := cell_of_obj HK3.out rfl
        have p2 : w3.cell? ⟨wr.heap.size, 2, none⟩ = some (.int .u32 t.b) := cell_of_obj HK3.out rfl
        have p3 : w3.cell? ⟨wr.heap.size, 3, none⟩ = some (.int .u32 t.c) := cell_of_obj HK3.out rfl
        have HNF : Hid (¬ F wr.heap.size) := HK3.out.not HI3.out.sto
        clear hfree hok MY l0 l1 l2 x0
        go_wp2_with fail
        go_region_held3 (fun w' => w'.cell? ⟨wr.heap.size, 0, none⟩ = some (.slice qa k qc) ∧ w'.cell? ⟨wr.heap.size, 1, none⟩ = some (.int .u64 t.a) ∧ w'.cell? ⟨wr.heap.size, 2, none⟩ = some (.int .u32 t.b) ∧ w'.cell? ⟨wr.heap.size, 3, none⟩ = some (.int .u32 t.c) ∧ Onl F w3 w')
          ((refine (fun (hO : Onl F w3 _) => ⟨hO.cell HNF.out p0, hO.cell HNF.out p1, hO.cell HNF.out p2, hO.cell HNF.out p3, hO⟩) ?_; (repeat (first | exact Onl.refl _ _ | assumption | refine Onl.drew ?_ | refine Onl.al ?_ _))))
          (first
            | (go_at_call 18; refine (RM.out _ (by (repeat (first | exact Below.refl _ _ | assumption | refine Below.drew ?_ | refine Below.al ?_ _ | refine Below.setCell ?_ (by first | exact Nat.le_refl _ | (simp; omega) | (simp; done)) _ | refine Below.on ?_ (by assumption))))).mono ?_; rintro e w4 ⟨g, rfl, hr4, hg4, hb4⟩; have hc4 : Below w3.heap.size w3 w4 := (by (repeat (first | exact Below.refl _ _ | assumption | refine Below.drew ?_ | refine Below.al ?_ _ | refine Below.setCell ?_ (by first | exact Nat.le_refl _ | (simp; omega) | (simp; done)) _ | refine Below.on ?_ (by assumption)))); have hO4 : Onl F w3 w4 := Onl.of_below hc4)
            | (go_at_call 9; refine (IN.out w4 g hc4 hr4 hg4).mono ?_; rintro e w5 ⟨rfl, hF5, ho5⟩; have hO5 : Onl F w3 w5 := hO4.trans ho5))
        have hF5 := hid hF5
        have HO5 := hid hO5
        have HK5 : Hid (PuB w5 wr.heap.size qa k qc t) := (HO5.out.block _ HK3.out.lt HNF.out).trans HK3.out
        have HL5 : Hid (StB w5 bl last) := HI3.out.box.onl HI3.out.sto HO5.out
        have HW5 : Hid (Below wx.heap.size wx w5) := HI3.out.bl.trans (HO5.out.below HI3.out.low (Nat.le_trans (Nat.le_refl _) HI3.out.bl.size))
        have HRW5 : Hid (OwnV w5 wx.heap.size vw (dumpM M)) := HI3.out.row.onl HO5.out HI3.out.nf
        have ne1 : wr.heap.size ≠ bl := type_ne HK5.out HL5.out (by decide)
        have ne2 : bl ≠ wr.heap.size := Ne.symm ne1
        have p0 : w5.cell? ⟨wr.heap.size, 0, none⟩ = some (.slice qa k qc) := cell_of_obj HK5.out rfl
        have p1 : w5.cell? ⟨wr.heap.size, 1, none⟩ = some (.int .u64 t.a) := cell_of_obj HK5.out rfl
        have p2 : w5.cell? ⟨wr.heap.size, 2, none⟩ = some (.int .u32 t.b) := cell_of_obj HK5.out rfl
        have p3 : w5.cell? ⟨wr.heap.size, 3, none⟩ = some (.int .u32 t.c) := cell_of_obj HK5.out rfl
        have l0 : w5.cell? ⟨bl, 0, none⟩ = some (.int .u64 last.a) := cell_of_obj HL5.out rfl
        have l1 : w5.cell? ⟨bl, 1, none⟩ = some (.int .u32 last.b) := cell_of_obj HL5.out rfl
        have l2 : w5.cell? ⟨bl, 2, none⟩ = some (.int .u32 last.c) := cell_of_obj HL5.out rfl
        have lf := HL5.out.loose
        obtain ⟨w6, hw6⟩ : ∃ w6, w6 = setS w5 bl t := ⟨_, rfl⟩
        have HK6 : Hid (PuB w6 wr.heap.size qa k qc t) := by rw [hw6]; exact ((onl_setS w5 bl t).block _ HK5.out.lt ne1).trans HK5.out
        have HL6 : Hid (StB w6 bl t) := by rw [hw6]; exact HL5.out.set t
        have HW6 : Hid (Below wx.heap.size wx w6) := by rw [hw6]; exact HW5.out.trans ((onl_setS w5 bl t).below (fun b e => by rw [e]; exact HBL.out) HW5.out.size)
        have HR6 : Hid (OwnV w6 wx.heap.size vw (dumpM M)) := by rw [hw6]; exact HRW5.out.setS HL5.out t
        obtain ⟨F', s5, f5⟩ := hF5.out
        have HS6 : Hid (Sto F' w6 p (instM M ws t) ⟨0, 0, 0⟩ ∧ (∀ b, F' b → wx.heap.size ≤ b)) :=
          ⟨by rw [hw6]; exact s5.keepB (onl_setS w5 bl t) (fun b e => by rw [e]; exact HL5.out.not), fun b hb => (f5 b hb).elim (HI3.out.low b) (fun h => Nat.le_trans HI3.out.bl.size h)⟩
        have HNF6 : Hid (∀ g, vw.ownBlock = some g → ¬ F' g) := fun g hg hf => by
          rcases f5 g hf with h | h
          · exact HI3.out.nf g hg h
          · exact Nat.lt_irrefl _ (Nat.lt_of_lt_of_le (HI3.out.row.blk_lt g hg).2 h)
        clear RM IN hF5 hcnt hr4 hg4 hb4 hc4 hO4 ho5 hO5 HRW5 HB3 HK3 HKP HBP HI3 s5 f5
        go_wp2_with fail
        rw [show (((w5.setCell ⟨bl, 0, none⟩ (.int .u64 t.a)).setCell ⟨bl, 1, none⟩ (.int .u32 t.b)).setCell ⟨bl, 2, none⟩ (.int .u32 t.c)) = w6 from hw6.symm]
        obtain ⟨bq, hbq⟩ : ∃ bq, bq = wr.heap.size := ⟨_, rfl⟩
        rw [← hbq] at HK6 ⊢
        have HCB : Hid (countM M + k ≤ 1048576) := by
          show _ ≤ _
          have h1 := HI.out.cnt; have h2 := HSN.out; have h3 := sumT_mono ps (i + 1); have h4 := HSU.out; have h5 := HRW.out.2; omega
        have HGD : Hid (Good M) := HI.out.sto.good
        have HTP := hid (top_next HI.out.sto.good.rising HI.out.top HMY.out.2.2 ws)
        have HOK := hid (inst_okM HI.out.ok HI.out.sto.good.rising (writes_ok HMY.out.1) HMY.out.2.1)
        have HCN : Hid (countM M ≤ sumT (ps.take i)) := HI.out.cnt
        clear hw6 hbq ne1 ne2 p0 p1 p2 p3 l0 l1 l2 lf HK5 HL5 HW5 HI c0 c1 c2 c3
        go_loopg [6, 9] k (fun g s6 s9 wr => ∃ j : Nat, j ≤ k ∧ g = k - j ∧ s9 = .int .i64 j ∧ Hid (DnI wx w6 wr F' s6 M ws t j))
        case atStart => exact ⟨0, by omega, by omega, rfl, ⟨HR6.out, HNF6.out, Below.refl _ _⟩⟩
        case round =>
          obtain ⟨j, hjk, rfl, rfl, HJ⟩ := hrel
          have HWJ : Hid (Below wx.heap.size wx wr) := HW6.out.trans (HJ.out.bl.mono HW6.out.size)
          have HKJ : Hid (PuB wr bq qa k qc t) := HK6.out.later HJ.out.bl
          have p0 : wr.cell? ⟨bq, 0, none⟩ = some (.slice qa k qc) := cell_of_obj HKJ.out rfl
          by_cases hjlt : j < k
          · obtain ⟨bw, ow, hqa, d0, d1, d2⟩ := (HRX.out.later HWJ.out) j (by rw [← HRW.out.2]; exact hjlt)
            have hjw : j < ws.length := by rw [← HRW.out.2]; exact hjlt
            have HL1 := hid (inst_among HGD.out HMY.out.1 HFR.out hjw)
            obtain ⟨x, hx⟩ : ∃ x, x = nthW ws j := ⟨_, rfl⟩
            rw [← hx] at d0 d1 d2 HL1
            clear hx
            obtain ⟨xk, xd, xv⟩ := x
            simp only at d0 d1 d2
            rw [show Wr.ver ⟨xk, xd, xv⟩ t = ⟨t, xd, xv⟩ from rfl] at HL1
            obtain ⟨ma, mc, hvm⟩ := HJ.out.row.slice
            have hgj : Good (instM M (ws.take j) t) := inst_good HGD.out HMY.out.1 HFR.out j (by omega)
            have hcj : countM (instM M (ws.take j) t) ≤ 1048576 := by
              rw [(instM_count HGD.out.rising (ws.take j) t).1, List.length_take]
              have h2 := HCB.out
              omega
            have hlm := dump_len (instM M (ws.take j) t)
            have hso := dump_sorted hgj
            have HRJ := HJ.out.row
            obtain ⟨lm, hlmd⟩ : ∃ l, l = dumpM (instM M (ws.take j) t) := ⟨_, rfl⟩
            rw [← hlmd] at hvm hlm HL1 hso HRJ
            obtain ⟨nm, hnm⟩ : ∃ n, n = lm.length := ⟨_, rfl⟩
            rw [← hnm] at hvm
            rw [hvm] at HRJ
            have AM : Hid (∀ W, Below wr.heap.size wr W → _) := fun W hb => among_at HRJ hnm hso hb HWJ.out.size (Nat.le_trans (Nat.mul_le_mul_right 64 (show lm.length + 2 ≤ 2147483648 by omega)) (by decide)) xk t xd xv
            subst hqa
            have HF6 : Hid (∀ b, F' b → b < wr.heap.size) := fun b hb => Nat.lt_of_lt_of_le (HS6.out.1.lt hb) HJ.out.bl.size
            rw [hvm]
            obtain ⟨wz, hwz⟩ : ∃ wz, wz = wr.alloc (.cells #[.string xk, .bool xd, .string xv] 38) := ⟨_, rfl⟩
            have hbz : Below wr.heap.size wr wz := by rw [hwz]; exact Below.al (Below.refl _ _) _
            have kz : wz.heap[wr.heap.size]? = some (.cells #[.string xk, .bool xd, .string xv] 38 (0, 0)) := by rw [hwz]; exact World.alloc_heap_new _ _
            have z0 : wz.cell? ⟨wr.heap.size, 0, none⟩ = some (.string xk) := cell_of_obj kz rfl
            have z1 : wz.cell? ⟨wr.heap.size, 1, none⟩ = some (.bool xd) := cell_of_obj kz rfl
            have z2 : wz.cell? ⟨wr.heap.size, 2, none⟩ = some (.string xv) := cell_of_obj kz rfl
            have hkz := HKJ.out.later hbz
            have p1 : wz.cell? ⟨bq, 1, none⟩ = some (.int .u64 t.a) := cell_of_obj hkz rfl
            have p2 : wz.cell? ⟨bq, 2, none⟩ = some (.int .u32 t.b) := cell_of_obj hkz rfl
            have p3 : wz.cell? ⟨bq, 3, none⟩ = some (.int .u32 t.c) := cell_of_obj hkz rfl
            have HBZ := hid hbz
            clear hvm hgj hcj hlm hso HRJ hlmd hnm hkz kz hbz
            subst hwz
            go_wp2_with (go_at_call 24; refine (AM.out _ HBZ.out).mono ?_; rintro e w7 ⟨v7, rfl, o7, n7, hb7⟩)
            go_roundg (k - (j + 1))
            case measure => omega
            case rel => exact ⟨j + 1, by omega, rfl, by go_num, ⟨by rw [HL1.out]; exact o7, fun g hg hf => Nat.lt_irrefl _ (Nat.lt_of_lt_of_le (HF6.out g hf) (Nat.le_trans HBZ.out.size (n7 g hg))), Below.on (Below.on HJ.out.bl HBZ.out) hb7⟩⟩
          · obtain rfl : j = k := by omega
            go_wp2_with fail
            go_roundg (n - (i + 1))
            case measure => omega
            case rel =>
              refine ⟨i + 1, by omega, rfl, by go_num, F', instM M ws t, t, true, rfl, ⟨HS6.out.1.later HJ.out.bl, HS6.out.2, ?_, HJ.out.nf, HL6.out.later HJ.out.bl, HTP.out, HTN.out, HOK.out, ?_, HWJ.out⟩⟩
              · have := HJ.out.row; rw [HRW.out.2, List.take_of_length_le (Nat.le_refl _)] at this; exact this
              · rw [(instM_count HGD.out.rising ws t).1]; have h1 := HCN.out; have h2 := HSN.out; omega
    · obtain rfl : i = n := by omega
      have hcnt : countM M ≤ 1048576 := Nat.le_trans HI.out.cnt (Nat.le_trans (sumT_mono ps i) HSU.out)
      have hgd := HI.out.sto.good
      have hdl := dump_len M
      have hso := dump_sorted hgd
      have hok := HI.out.ok
      have HRV := HI.out.row
      obtain ⟨wa, wc, hvw⟩ := HRV.slice
      obtain ⟨nL, hnL⟩ : ∃ k, k = (dumpM M).length := ⟨_, rfl⟩
      rw [← hnL] at hvw
      rw [hvw] at HRV ⊢
      have hnn : nL ≤ 1048576 := by omega
      have HRV' := hid HRV
      have HNL := hid hnL
      have HST := hid HI.out.sto
      have HBW : Hid (Below w.heap.size w wr) := Below.on HA.out.2.2.1 HI.out.bl
      have DU := hid (dump_at HI.out.sto hcnt hnL (Below.refl _ _))
      have SV : Hid (∀ W B la lc, Below wr.heap.size wr W → OwnV W B (.slice la nL lc) (dumpM M) → _) := fun W B la lc hb ho => sameV_at ho (HRV'.out.later hb) hnL hnn
      have LD : Hid (∀ W B la lc, OwnV W B (.slice la nL lc) (dumpM M) → _) := fun W B la lc ho => load_at t0 ho hnL hgd hok hnn
      have x1 := cell_later HI.out.bl HX.out.2.1
      have x2 := cell_later HI.out.bl HX.out.2.2.1
      have x3 := cell_later HI.out.bl HX.out.2.2.2.1
      have x4 := cell_later HI.out.bl HX.out.2.2.2.2.1
      have x5 := cell_later HI.out.bl HX.out.2.2.2.2.2
      have l0 : wr.cell? ⟨bl, 0, none⟩ = some (.int .u64 last.a) := cell_of_obj HI.out.box rfl
      have l1 : wr.cell? ⟨bl, 1, none⟩ = some (.int .u32 last.b) := cell_of_obj HI.out.box rfl
      have l2 : wr.cell? ⟨bl, 2, none⟩ = some (.int .u32 last.c) := cell_of_obj HI.out.box rfl
      have HXR : Hid (wr.cell? ⟨w.heap.size, 1, none⟩ = some (.string lo) ∧ wr.cell? ⟨w.heap.size, 2, none⟩ = some (.string hi) ∧ wr.cell? ⟨w.heap.size, 3, none⟩ = some (.int .u64 t0.a) ∧ wr.cell? ⟨w.heap.size, 4, none⟩ = some (.int .u32 t0.b) ∧ wr.cell? ⟨w.heap.size, 5, none⟩ = some (.int .u32 t0.c) ∧ wr.cell? ⟨bl, 0, none⟩ = some (.int .u64 last.a) ∧ wr.cell? ⟨bl, 1, none⟩ = some (.int .u32 last.b) ∧ wr.cell? ⟨bl, 2, none⟩ = some (.int .u32 last.c)) := ⟨x1, x2, x3, x4, x5, l0, l1, l2⟩
      have HCN := hid hcnt
      have HSO := hid (show Good M ∧ List.Pairwise (fun x y => folB x y = true) (dumpM M) ∧ OkM M ∧ (last.lt ⟨0, 0, 0⟩ = false) from ⟨hgd, hso, hok, Sp.nn_lt HI.out.nn⟩)
      clear x1 x2 x3 x4 x5 l0 l1 l2 HI hvw hnL hcnt hgd hdl hso hok HRV
      go_wp2_with (first
        | (go_at_call 12; refine DU.out.mono ?_; rintro e w3 ⟨la, lc, rfl, HL3, hb3⟩)
        | (go_at_call 25; refine (SV.out w3 _ la lc hb3 HL3.out).mono ?_; rintro e w4 ⟨rfl, hb4⟩; have HB4 := hid (Below.on hb3 hb4); have HL4 := hid (HL3.out.later hb4); have x3 := cell_later HB4.out HXR.out.2.2.1; have x4 := cell_later HB4.out HXR.out.2.2.2.1; have x5 := cell_later HB4.out HXR.out.2.2.2.2.1; clear hb3 hb4 HL3)
        | (go_at_call 26; refine (LD.out w4 _ la lc HL4.out).mono ?_; rintro e w5 ⟨q, G, rfl, HQ5, hb5⟩; have HB5 : Hid (Below wr.heap.size wr w5) := Below.on HB4.out hb5; clear hb5 x3 x4 x5))
      have WM : Hid (∀ W, Below w5.heap.size w5 W → _) := fun W hb => wmark_is (HQ5.out.later hb)
      have LN : Hid (∀ W, Below w5.heap.size w5 W → _) := fun W hb => len_at HQ5.out HCN.out HNL.out hb
      have DQ : Hid (∀ W, Below w5.heap.size w5 W → _) := fun W hb => dump_at HQ5.out HCN.out HNL.out hb
      have x3 := cell_later HB5.out HXR.out.2.2.1
      have x4 := cell_later HB5.out HXR.out.2.2.2.1
      have x5 := cell_later HB5.out HXR.out.2.2.2.2.1
      have hne := fun W => run_neSt t0 W
      clear DU LD x0
      go_region_held3 (fun w' => w'.cell? ⟨w.heap.size, 3, none⟩ = some (.int .u64 t0.a) ∧ w'.cell? ⟨w.heap.size, 4, none⟩ = some (.int .u32 t0.b) ∧ w'.cell? ⟨w.heap.size, 5, none⟩ = some (.int .u32 t0.c) ∧ Below w5.heap.size w5 w')
        ((refine (fun (hB : Below w5.heap.size w5 _) => ⟨cell_later hB x3, cell_later hB x4, cell_later hB x5, hB⟩) ?_; (repeat (first | exact Below.refl _ _ | assumption | refine Below.drew ?_ | refine Below.al ?_ _ | refine Below.setCell ?_ (by first | exact Nat.le_refl _ | (simp; omega) | (simp; done)) _ | refine Below.on ?_ (by assumption)))))
        (first
          | (go_at_call 27; refine (WM.out _ (by (repeat (first | exact Below.refl _ _ | assumption | refine Below.drew ?_ | refine Below.al ?_ _ | refine Below.setCell ?_ (by first | exact Nat.le_refl _ | (simp; omega) | (simp; done)) _ | refine Below.on ?_ (by assumption))))).mono ?_; rintro e w6 ⟨rfl, hb6⟩)
          | (go_at_call 11; refine (LN.out _ (by (repeat (first | exact Below.refl _ _ | assumption | refine Below.drew ?_ | refine Below.al ?_ _ | refine Below.setCell ?_ (by first | exact Nat.le_refl _ | (simp; omega) | (simp; done)) _ | refine Below.on ?_ (by assumption))))).mono ?_; rintro e w7 ⟨rfl, hb7⟩)
          | (go_at_call 12; refine (DQ.out _ (by (repeat (first | exact Below.refl _ _ | assumption | refine Below.drew ?_ | refine Below.al ?_ _ | refine Below.setCell ?_ (by first | exact Nat.le_refl _ | (simp; omega) | (simp; done)) _ | refine Below.on ?_ (by assumption))))).mono ?_; rintro e w8 ⟨ma, mc, rfl, HM8, hb8⟩)
          | (go_at_call 25; refine (SV.out w8 _ ma mc (Below.on HB5.out (by (repeat (first | exact Below.refl _ _ | assumption | refine Below.drew ?_ | refine Below.al ?_ _ | refine Below.setCell ?_ (by first | exact Nat.le_refl _ | (simp; omega) | (simp; done)) _ | refine Below.on ?_ (by assumption))))) HM8.out).mono ?_; rintro e w9 ⟨rfl, hb9⟩))
      have hB9 : Below w5.heap.size w5 w9 := by (repeat (first | exact Below.refl _ _ | assumption | refine Below.drew ?_ | refine Below.al ?_ _ | refine Below.setCell ?_ (by first | exact Nat.le_refl _ | (simp; omega) | (simp; done)) _ | refine Below.on ?_ (by assumption)))
      have HB9 : Hid (Below wr.heap.size wr w9) := Below.on HB5.out hB9
      have HQ9 := hid (HQ5.out.later hB9)
      have HS9 := hid (HST.out.later HB9.out)
      clear x3 x4 x5 hne WM LN DQ SV HM8 hb6 hb7 hb8 hb9 HL4 HB4 HQ5 HB5 hB9
      have x1 := cell_later HB9.out HXR.out.1
      have x2 := cell_later HB9.out HXR.out.2.1
      have x3 := cell_later HB9.out HXR.out.2.2.1
      have x4 := cell_later HB9.out HXR.out.2.2.2.1
      have x5 := cell_later HB9.out HXR.out.2.2.2.2.1
      have l0 := cell_later HB9.out HXR.out.2.2.2.2.2.1
      have l1 := cell_later HB9.out HXR.out.2.2.2.2.2.2.1
      have l2 := cell_later HB9.out HXR.out.2.2.2.2.2.2.2
      obtain ⟨e1, he1⟩ : ∃ e, rdE M ⟨0, 0, 0⟩ lo hi last = e := ⟨_, rfl⟩
      obtain ⟨r1, hr1⟩ : ∃ r, rdL M ⟨0, 0, 0⟩ lo hi last = r := ⟨_, rfl⟩
      obtain ⟨n1, hn1⟩ : ∃ n, n = r1.length := ⟨_, rfl⟩
      have RD1 : Hid (Calls Tryd.prog 15 #[pt p, .agg #[.string lo, .string hi], sv last] w9 fun r w' => ∃ va vc, r = .returned (.tuple #[.slice va n1 vc, .int .i64 e1]) ∧ Hid (Row2 w' va r1) ∧ Below w9.heap.size w9 w') := by rw [hn1]; exact read_at HS9.out HCN.out he1 hr1 (Below.refl _ _)
      have hn1c : n1 ≤ 1048576 := by have h1 := rd_len M ⟨0, 0, 0⟩ last lo hi HSO.out.1; have h2 := HCN.out; rw [hr1] at h1; omega
      have HN1 := hid hn1
      cases hlt0 : last.lt t0 with
      | true =>
        have he2 : rdE M t0 lo hi last = 90 := by unfold rdE; rw [hlt0]; rfl
        have hr2 : rdL M t0 lo hi last = [] := by unfold rdL; rw [he2]; rfl
        have RD2 : Hid (∀ W, Below w9.heap.size w9 W → Calls Tryd.prog 15 #[pt q, .agg #[.string lo, .string hi], sv last] W fun r w' => ∃ va vc, r = .returned (.tuple #[.slice va 0 vc, .int .i64 90]) ∧ Hid (Row2 w' va []) ∧ Below W.heap.size W w') := fun W hb => read_at HQ9.out HCN.out he2 hr2 hb
        have BE := hid (fun W => below_is hlt0 W)
        clear hlt0 he1 hr1 hn1 he2 hr2
        by_cases h2 : nL < 2
        · have q2 : decide ((nL : Int) < 2) = true := decide_eq_true (by omega)
          have q2' : decide (nL < 2) = true := decide_eq_true (by omega)
          go_wp2_with (first
              | (go_at_call_of 15 p; refine RD1.out.mono ?_; rintro e wA ⟨va, vc, rfl, HVA, hbA⟩; have HBA := hid hbA; have x1 := cell_later (Below.on HB9.out HBA.out) HXR.out.1; have x2 := cell_later (Below.on HB9.out HBA.out) HXR.out.2.1; have x3 := cell_later (Below.on HB9.out HBA.out) HXR.out.2.2.1; have x4 := cell_later (Below.on HB9.out HBA.out) HXR.out.2.2.2.1; have x5 := cell_later (Below.on HB9.out HBA.out) HXR.out.2.2.2.2.1; have l0 := cell_later (Below.on HB9.out HBA.out) HXR.out.2.2.2.2.2.1; have l1 := cell_later (Below.on HB9.out HBA.out) HXR.out.2.2.2.2.2.2.1; have l2 := cell_later (Below.on HB9.out HBA.out) HXR.out.2.2.2.2.2.2.2)
              | (go_at_call 15; refine (RD2.out wA HBA.out).mono ?_; rintro e wB ⟨vb, vd, rfl, HVB, hbB⟩; have HBB : Hid (Below w9.heap.size w9 wB) := Below.on HBA.out hbB; have HVA2 := hid (HVA.out.later hbB); have x1 := cell_later (Below.on HB9.out HBB.out) HXR.out.1; have x2 := cell_later (Below.on HB9.out HBB.out) HXR.out.2.1; have x3 := cell_later (Below.on HB9.out HBB.out) HXR.out.2.2.1; have x4 := cell_later (Below.on HB9.out HBB.out) HXR.out.2.2.2.1; have x5 := cell_later (Below.on HB9.out HBB.out) HXR.out.2.2.2.2.1; have l0 := cell_later (Below.on HB9.out HBB.out) HXR.out.2.2.2.2.2.1; have l1 := cell_later (Below.on HB9.out HBB.out) HXR.out.2.2.2.2.2.2.1; have l2 := cell_later (Below.on HB9.out HBB.out) HXR.out.2.2.2.2.2.2.2)
              | (go_at_call 14; refine (BE.out _).mono ?_; rintro e wC ⟨rfl, hbC⟩; have HBC : Hid (Below wr.heap.size wr wC) := Below.on HB9.out (Below.on HBB.out hbC); have HVC := hid (And.intro (HVA2.out.later hbC) (HVB.out.later hbC))))
          go_ret
          exact ⟨rfl, Below.on HBW.out HBC.out⟩
        · have q2 : decide ((nL : Int) < 2) = false := decide_eq_false (by omega)
          have q2' : decide (nL < 2) = false := decide_eq_false (by omega)
          have hw1 : IntKind.i64.wrap ((nL : Int) - 1) = (nL : Int) - 1 := by rw [IntKind.wrap_i64]; omega
          go_wp2_with (first
              | (go_at_call_of 15 p; refine RD1.out.mono ?_; rintro e wA ⟨va, vc, rfl, HVA, hbA⟩; have HBA := hid hbA; have x1 := cell_later (Below.on HB9.out HBA.out) HXR.out.1; have x2 := cell_later (Below.on HB9.out HBA.out) HXR.out.2.1; have x3 := cell_later (Below.on HB9.out HBA.out) HXR.out.2.2.1; have x4 := cell_later (Below.on HB9.out HBA.out) HXR.out.2.2.2.1; have x5 := cell_later (Below.on HB9.out HBA.out) HXR.out.2.2.2.2.1; have l0 := cell_later (Below.on HB9.out HBA.out) HXR.out.2.2.2.2.2.1; have l1 := cell_later (Below.on HB9.out HBA.out) HXR.out.2.2.2.2.2.2.1; have l2 := cell_later (Below.on HB9.out HBA.out) HXR.out.2.2.2.2.2.2.2)
              | (go_at_call 15; refine (RD2.out wA HBA.out).mono ?_; rintro e wB ⟨vb, vd, rfl, HVB, hbB⟩; have HBB : Hid (Below w9.heap.size w9 wB) := Below.on HBA.out hbB; have HVA2 := hid (HVA.out.later hbB); have x1 := cell_later (Below.on HB9.out HBB.out) HXR.out.1; have x2 := cell_later (Below.on HB9.out HBB.out) HXR.out.2.1; have x3 := cell_later (Below.on HB9.out HBB.out) HXR.out.2.2.1; have x4 := cell_later (Below.on HB9.out HBB.out) HXR.out.2.2.2.1; have x5 := cell_later (Below.on HB9.out HBB.out) HXR.out.2.2.2.2.1; have l0 := cell_later (Below.on HB9.out HBB.out) HXR.out.2.2.2.2.2.1; have l1 := cell_later (Below.on HB9.out HBB.out) HXR.out.2.2.2.2.2.2.1; have l2 := cell_later (Below.on HB9.out HBB.out) HXR.out.2.2.2.2.2.2.2)
              | (go_at_call 14; refine (BE.out _).mono ?_; rintro e wC ⟨rfl, hbC⟩; have HBC : Hid (Below wr.heap.size wr wC) := Below.on HB9.out (Below.on HBB.out hbC); have HVC := hid (And.intro (HVA2.out.later hbC) (HVB.out.later hbC))))
          clear x1 x2 l0 l1 l2 x3 x4 x5
          have HBWC : Hid (Below w.heap.size w wC) := Below.on HBW.out HBC.out
          have HXC := hid (And.intro (cell_later HBC.out HXR.out.2.2.1) (And.intro (cell_later HBC.out HXR.out.2.2.2.1) (cell_later HBC.out HXR.out.2.2.2.2.1)))
          have HRC := hid (HRV'.out.later HBC.out)
          go_loopg [18, 19] nL (fun g s18 s19 wr => ∃ (k : Nat) (z : Int), k ≤ nL ∧ g = k ∧ z = (k : Int) - 1 ∧ s19 = .int .i64 z ∧ Hid (OwnV wr wC.heap.size s18 ((dumpM M).drop k).reverse ∧ Below wC.heap.size wC wr))
          case atStart => exact ⟨nL, _, Nat.le_refl _, rfl, rfl, rfl, ⟨by rw [HNL.out, List.drop_length]; exact OwnV.nil _ _, Below.refl _ _⟩⟩
          case round =>
            obtain ⟨k, z, hk, hgk, hz, rfl, HO⟩ := hrel
            subst hgk
            obtain ⟨vo, hvo⟩ : ∃ v, v = u18 := ⟨_, rfl⟩
            rw [← hvo] at HO ⊢
            clear hvo
            have HBK : Hid (Below wC.heap.size wC wr) := HO.out.2
            cases gk with
            | zero =>
              obtain rfl : z = -1 := by omega
              clear hz
              obtain ⟨oa, oc, hvo⟩ := HO.out.1.slice
              have HOw := HO.out.1
              rw [List.drop_zero] at hvo HOw
              rw [List.length_reverse, ← HNL.out] at hvo
              subst hvo
              have LR := hid (load_round t0 HOw HNL.out HSO.out.2.1 HSO.out.2.2.1 (by omega) (by have := HCN.out; have := HNL.out; have := dump_len M; omega))
              have x3 := cell_later HBK.out HXC.out.1
              have x4 := cell_later HBK.out HXC.out.2.1
              have x5 := cell_later HBK.out HXC.out.2.2
              clear HOw
              go_wp2_with (go_at_call 26; refine LR.out.mono ?_; rintro e wE ⟨rfl, hbE⟩)
              go_ret
              exact ⟨rfl, Below.on HBWC.out (Below.on HBK.out hbE)⟩
            | succ j =>
              obtain rfl : z = (j : Int) := by omega
              clear hz
              have hjl : j < (dumpM M).length := by rw [← HNL.out]; omega
              have hdr : (dumpM M).drop j = nthK (dumpM M) j :: (dumpM M).drop (j + 1) := by rw [List.drop_eq_getElem_cons hjl, nthK_get hjl]
              have hrv : ((dumpM M).drop j).reverse = ((dumpM M).drop (j + 1)).reverse ++ [nthK (dumpM M) j] := by rw [hdr, List.reverse_cons]
              have hrow := HRC.out.later HBK.out
              rw [HNL.out] at hrow
              obtain ⟨bv, ov, hwa, va⟩ := hrow.row j hjl
              obtain ⟨y, hy⟩ : ∃ y, y = nthK (dumpM M) j := ⟨_, rfl⟩
              rw [← hy] at va hrv
              subst hwa
              have HRV3 := hid hrv
              have HLN : Hid ((((dumpM M).drop (j + 1)).reverse.length + 1) * 64 ≤ 140737488355328) := by
                show _ ≤ _
                have h1 := HCN.out; have h2 := dump_len M
                exact Nat.le_trans (Nat.mul_le_mul_right 64 (show _ ≤ 2097152 by rw [List.length_reverse, List.length_drop]; omega)) (by decide)
              have HOW := hid HO.out.1
              have HBN := hid HO.out.2
              clear hrow hdr hrv hy hjl HO
              obtain ⟨yk, ys, yd, yv⟩ := y
              obtain ⟨f0, f1, f2, f3, f4, f5⟩ := va
              simp only at f0 f1 f2 f3 f4 f5
              have hw2 : IntKind.i64.wrap ((j : Int) - 1) = (j : Int) - 1 := by rw [IntKind.wrap_i64]; omega
              go_wp2_with (at_builtin; refine append_V rfl _ _ rfl (yk, ⟨ys, yd, yv⟩) rfl (HOW.out.later (Below.al (Below.refl _ _) _)) rfl (ver_cells _ yk ⟨ys, yd, yv⟩) HLN.out (by have := HBN.out.size; simp at this ⊢; omega) ?_; intro v7 w7 ho hg; have HO7 := hid ho; have HB7 : Hid (Below wC.heap.size wC w7) := OwnV.grown (HOW.out.later (Below.al (Below.refl _ _) (.cells (vcs yk ⟨ys, yd, yv⟩) 46))) hg (Below.al HBN.out _) (Nat.le_refl _); clear ho hg)
              go_roundg j
              case measure => omega
              case rel => exact ⟨j, (j : Int) - 1, by omega, rfl, rfl, by first | rfl | simp, ⟨by rw [HRV3.out]; exact HO7.out, HB7.out⟩⟩
      | false =>
        obtain ⟨he2, hr2⟩ := rd_same (M := M) (lo := lo) (hi := hi) hlt0 HSO.out.2.2.2
        rw [he1] at he2
        rw [hr1] at hr2
        have RD2 : Hid (∀ W, Below w9.heap.size w9 W → Calls Tryd.prog 15 #[pt q, .agg #[.string lo, .string hi], sv last] W fun r w' => ∃ va vc, r = .returned (.tuple #[.slice va n1 vc, .int .i64 e1]) ∧ Hid (Row2 w' va r1) ∧ Below W.heap.size W w') := fun W hb => by rw [hn1]; exact read_at HQ9.out HCN.out he2 hr2 hb
        have SP : Hid (∀ W va vc vb vd, Row2 W va r1 → Row2 W vb r1 → Calls Tryd.prog 16 #[.slice va n1 vc, .slice vb n1 vd] W fun e w' => e = .returned (.bool true) ∧ Below W.heap.size W w') := fun W va vc vb vd h1 h2 => by rw [hn1]; exact samePairs_is (by simp) h1 h2 (by omega) (by omega)
        have BE := hid (fun W => below_is hlt0 W)
        have qe : (e1 != e1) = false := by simp
        clear hlt0 he1 hr1 hn1 he2 hr2
        by_cases h2 : nL < 2
        · have q2 : decide ((nL : Int) < 2) = true := decide_eq_true (by omega)
          have q2' : decide (nL < 2) = true := decide_eq_true (by omega)
          go_wp2_with (first
              | (go_at_call_of 15 p; refine RD1.out.mono ?_; rintro e wA ⟨va, vc, rfl, HVA, hbA⟩; have HBA := hid hbA; have x1 := cell_later (Below.on HB9.out HBA.out) HXR.out.1; have x2 := cell_later (Below.on HB9.out HBA.out) HXR.out.2.1; have x3 := cell_later (Below.on HB9.out HBA.out) HXR.out.2.2.1; have x4 := cell_later (Below.on HB9.out HBA.out) HXR.out.2.2.2.1; have x5 := cell_later (Below.on HB9.out HBA.out) HXR.out.2.2.2.2.1; have l0 := cell_later (Below.on HB9.out HBA.out) HXR.out.2.2.2.2.2.1; have l1 := cell_later (Below.on HB9.out HBA.out) HXR.out.2.2.2.2.2.2.1; have l2 := cell_later (Below.on HB9.out HBA.out) HXR.out.2.2.2.2.2.2.2)
              | (go_at_call 15; refine (RD2.out wA HBA.out).mono ?_; rintro e wB ⟨vb, vd, rfl, HVB, hbB⟩; have HBB : Hid (Below w9.heap.size w9 wB) := Below.on HBA.out hbB; have HVA2 := hid (HVA.out.later hbB); have x1 := cell_later (Below.on HB9.out HBB.out) HXR.out.1; have x2 := cell_later (Below.on HB9.out HBB.out) HXR.out.2.1; have x3 := cell_later (Below.on HB9.out HBB.out) HXR.out.2.2.1; have x4 := cell_later (Below.on HB9.out HBB.out) HXR.out.2.2.2.1; have x5 := cell_later (Below.on HB9.out HBB.out) HXR.out.2.2.2.2.1; have l0 := cell_later (Below.on HB9.out HBB.out) HXR.out.2.2.2.2.2.1; have l1 := cell_later (Below.on HB9.out HBB.out) HXR.out.2.2.2.2.2.2.1; have l2 := cell_later (Below.on HB9.out HBB.out) HXR.out.2.2.2.2.2.2.2)
              | (go_at_call 14; refine (BE.out _).mono ?_; rintro e wC ⟨rfl, hbC⟩; have HBC : Hid (Below wr.heap.size wr wC) := Below.on HB9.out (Below.on HBB.out hbC); have HVC := hid (And.intro (HVA2.out.later hbC) (HVB.out.later hbC)))
              | (go_at_call 16; refine (SP.out wC va vc vb vd HVC.out.1 HVC.out.2).mono ?_; rintro e wD ⟨rfl, hbD⟩; have HBD : Hid (Below wr.heap.size wr wD) := Below.on HBC.out hbD))
          go_ret
          exact ⟨rfl, Below.on HBW.out HBD.out⟩
        · have q2 : decide ((nL : Int) < 2) = false := decide_eq_false (by omega)
          have q2' : decide (nL < 2) = false := decide_eq_false (by omega)
          have hw1 : IntKind.i64.wrap ((nL : Int) - 1) = (nL : Int) - 1 := by rw [IntKind.wrap_i64]; omega
          go_wp2_with (first
              | (go_at_call_of 15 p; refine RD1.out.mono ?_; rintro e wA ⟨va, vc, rfl, HVA, hbA⟩; have HBA := hid hbA; have x1 := cell_later (Below.on HB9.out HBA.out) HXR.out.1; have x2 := cell_later (Below.on HB9.out HBA.out) HXR.out.2.1; have x3 := cell_later (Below.on HB9.out HBA.out) HXR.out.2.2.1; have x4 := cell_later (Below.on HB9.out HBA.out) HXR.out.2.2.2.1; have x5 := cell_later (Below.on HB9.out HBA.out) HXR.out.2.2.2.2.1; have l0 := cell_later (Below.on HB9.out HBA.out) HXR.out.2.2.2.2.2.1; have l1 := cell_later (Below.on HB9.out HBA.out) HXR.out.2.2.2.2.2.2.1; have l2 := cell_later (Below.on HB9.out HBA.out) HXR.out.2.2.2.2.2.2.2)
              | (go_at_call 15; refine (RD2.out wA HBA.out).mono ?_; rintro e wB ⟨vb, vd, rfl, HVB, hbB⟩; have HBB : Hid (Below w9.heap.size w9 wB) := Below.on HBA.out hbB; have HVA2 := hid (HVA.out.later hbB); have x1 := cell_later (Below.on HB9.out HBB.out) HXR.out.1; have x2 := cell_later (Below.on HB9.out HBB.out) HXR.out.2.1; have x3 := cell_later (Below.on HB9.out HBB.out) HXR.out.2.2.1; have x4 := cell_later (Below.on HB9.out HBB.out) HXR.out.2.2.2.1; have x5 := cell_later (Below.on HB9.out HBB.out) HXR.out.2.2.2.2.1; have l0 := cell_later (Below.on HB9.out HBB.out) HXR.out.2.2.2.2.2.1; have l1 := cell_later (Below.on HB9.out HBB.out) HXR.out.2.2.2.2.2.2.1; have l2 := cell_later (Below.on HB9.out HBB.out) HXR.out.2.2.2.2.2.2.2)
              | (go_at_call 14; refine (BE.out _).mono ?_; rintro e wC ⟨rfl, hbC⟩; have HBC : Hid (Below wr.heap.size wr wC) := Below.on HB9.out (Below.on HBB.out hbC); have HVC := hid (And.intro (HVA2.out.later hbC) (HVB.out.later hbC)))
              | (go_at_call 16; refine (SP.out wC va vc vb vd HVC.out.1 HVC.out.2).mono ?_; rintro e wD ⟨rfl, hbD⟩; have HBD : Hid (Below wr.heap.size wr wD) := Below.on HBC.out hbD))
          clear x1 x2 l0 l1 l2 x3 x4 x5
          have HBWC : Hid (Below w.heap.size w wD) := Below.on HBW.out HBD.out
          have HXC := hid (And.intro (cell_later HBD.out HXR.out.2.2.1) (And.intro (cell_later HBD.out HXR.out.2.2.2.1) (cell_later HBD.out HXR.out.2.2.2.2.1)))
          have HRC := hid (HRV'.out.later HBD.out)
          go_loopg [18, 19] nL (fun g s18 s19 wr => ∃ (k : Nat) (z : Int), k ≤ nL ∧ g = k ∧ z = (k : Int) - 1 ∧ s19 = .int .i64 z ∧ Hid (OwnV wr wD.heap.size s18 ((dumpM M).drop k).reverse ∧ Below wD.heap.size wD wr))
          case atStart => exact ⟨nL, _, Nat.le_refl _, rfl, rfl, rfl, ⟨by rw [HNL.out, List.drop_length]; exact OwnV.nil _ _, Below.refl _ _⟩⟩
          case round =>
            obtain ⟨k, z, hk, hgk, hz, rfl, HO⟩ := hrel
            subst hgk
            obtain ⟨vo, hvo⟩ : ∃ v, v = u18 := ⟨_, rfl⟩
            rw [← hvo] at HO ⊢
            clear hvo
            have HBK : Hid (Below wD.heap.size wD wr) := HO.out.2
            cases gk with
            | zero =>
              obtain rfl : z = -1 := by omega
              clear hz
              obtain ⟨oa, oc, hvo⟩ := HO.out.1.slice
              have HOw := HO.out.1
              rw [List.drop_zero] at hvo HOw
              rw [List.length_reverse, ← HNL.out] at hvo
              subst hvo
              have LR := hid (load_round t0 HOw HNL.out HSO.out.2.1 HSO.out.2.2.1 (by omega) (by have := HCN.out; have := HNL.out; have := dump_len M; omega))
              have x3 := cell_later HBK.out HXC.out.1
              have x4 := cell_later HBK.out HXC.out.2.1
              have x5 := cell_later HBK.out HXC.out.2.2
              clear HOw
              go_wp2_with (go_at_call 26; refine LR.out.mono ?_; rintro e wE ⟨rfl, hbE⟩)
              go_ret
              exact ⟨rfl, Below.on HBWC.out (Below.on HBK.out hbE)⟩
            | succ j =>
              obtain rfl : z = (j : Int) := by omega
              clear hz
              have hjl : j < (dumpM M).length := by rw [← HNL.out]; omega
              have hdr : (dumpM M).drop j = nthK (dumpM M) j :: (dumpM M).drop (j + 1) := by rw [List.drop_eq_getElem_cons hjl, nthK_get hjl]
              have hrv : ((dumpM M).drop j).reverse = ((dumpM M).drop (j + 1)).reverse ++ [nthK (dumpM M) j] := by rw [hdr, List.reverse_cons]
              have hrow := HRC.out.later HBK.out
              rw [HNL.out] at hrow
              obtain ⟨bv, ov, hwa, va⟩ := hrow.row j hjl
              obtain ⟨y, hy⟩ : ∃ y, y = nthK (dumpM M) j := ⟨_, rfl⟩
              rw [← hy] at va hrv
              subst hwa
              have HRV3 := hid hrv
              have HLN : Hid ((((dumpM M).drop (j + 1)).reverse.length + 1) * 64 ≤ 140737488355328) := by
                show _ ≤ _
                have h1 := HCN.out; have h2 := dump_len M
                exact Nat.le_trans (Nat.mul_le_mul_right 64 (show _ ≤ 2097152 by rw [List.length_reverse, List.length_drop]; omega)) (by decide)
              have HOW := hid HO.out.1
              have HBN := hid HO.out.2
              clear hrow hdr hrv hy hjl HO
              obtain ⟨yk, ys, yd, yv⟩ := y
              obtain ⟨f0, f1, f2, f3, f4, f5⟩ := va
              simp only at f0 f1 f2 f3 f4 f5
              have hw2 : IntKind.i64.wrap ((j : Int) - 1) = (j : Int) - 1 := by rw [IntKind.wrap_i64]; omega
              go_wp2_with (at_builtin; refine append_V rfl _ _ rfl (yk, ⟨ys, yd, yv⟩) rfl (HOW.out.later (Below.al (Below.refl _ _) _)) rfl (ver_cells _ yk ⟨ys, yd, yv⟩) HLN.out (by have := HBN.out.size; simp at this ⊢; omega) ?_; intro v7 w7 ho hg; have HO7 := hid ho; have HB7 : Hid (Below wD.heap.size wD w7) := OwnV.grown (HOW.out.later (Below.al (Below.refl _ _) (.cells (vcs yk ⟨ys, yd, yv⟩) 46))) hg (Below.al HBN.out _) (Nat.le_refl _); clear ho hg)
              go_roundg j
              case measure => omega
              case rel => exact ⟨j, (j : Int) - 1, by omega, rfl, rfl, by first | rfl | simp, ⟨by rw [HRV3.out]; exact HO7.out, HB7.out⟩⟩
end Go.Proofs.YtaknkodjganacaaDoor.Vs
