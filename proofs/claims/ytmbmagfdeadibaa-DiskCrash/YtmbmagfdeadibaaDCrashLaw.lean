import Derived.Test.YtmbmagfdeadibaaDDurPlain
import Derived.Deep.DeepCutAuto
namespace Go.Proofs.Ytmbmagfdeadibaa
open Go.RowKit Go.Sort
set_option linter.unusedVariables false
variable {R : World → (Nat → Prop) → Nat → Dk → Prop}

/-- a disk and, apart from it, a block of two texts and one of two numbers -/
structure OneC (R : World → (Nat → Prop) → Nat → Dk → Prop) (wb wr : World) (F : Nat → Prop) (p : Nat) (d : Dk) (q r : Nat) (t0 t1 : List Nat) (n0 n1 : Int) : Prop where
  at' : R wr F p d
  low : ∀ k, F k → wb.heap.size ≤ k
  bl : Below wb.heap.size wb wr
  nq : ¬ F q
  nr : ¬ F r
  qr : q ≠ r
  lq : wb.heap.size ≤ q
  lr : wb.heap.size ≤ r
  c0 : wr.cell? ⟨q, 0, none⟩ = some (.string (ofNats t0))
  c1 : wr.cell? ⟨q, 1, none⟩ = some (.string (ofNats t1))
  m0 : wr.cell? ⟨r, 0, none⟩ = some (.int .i64 n0)
  m1 : wr.cell? ⟨r, 1, none⟩ = some (.int .i64 n1)
  looseq : Loose wr q
  looser : Loose wr r
theorem OneC.ltq {wb wr : World} {F : Nat → Prop} {p : Nat} {d : Dk} {q r : Nat} {t0 t1 : List Nat} {n0 n1 : Int} (h : OneC R wb wr F p d q r t0 t1 n0 n1) : q < wr.heap.size := World.block_lt_of_cell? _ _ h.c0
theorem OneC.ltr {wb wr : World} {F : Nat → Prop} {p : Nat} {d : Dk} {q r : Nat} {t0 t1 : List Nat} {n0 n1 : Int} (h : OneC R wb wr F p d q r t0 t1 n0 n1) : r < wr.heap.size := World.block_lt_of_cell? _ _ h.m0
theorem OneC.later (I : Face R) {wb wr w' : World} {F : Nat → Prop} {p : Nat} {d : Dk} {q r : Nat} {t0 t1 : List Nat} {n0 n1 : Int} (h : OneC R wb wr F p d q r t0 t1 n0 n1) (hb : Below wr.heap.size wr w') : OneC R wb w' F p d q r t0 t1 n0 n1 :=
  ⟨I.later h.at' hb, h.low, Below.on h.bl hb, h.nq, h.nr, h.qr, h.lq, h.lr, cell_later hb h.c0, cell_later hb h.c1, cell_later hb h.m0, cell_later hb h.m1, h.looseq.later hb h.ltq, h.looser.later hb h.ltr⟩
theorem OneC.move {wb wr w' : World} {F : Nat → Prop} {p : Nat} {d d' : Dk} {q r : Nat} {t0 t1 : List Nat} {n0 n1 : Int} (h : OneC R wb wr F p d q r t0 t1 n0 n1) (m : Moved R wr w' F p d') : ∃ F', OneC R wb w' F' p d' q r t0 t1 n0 n1 := by
  have hq := h.ltq
  have hr := h.ltr
  obtain ⟨F', h1, h2, h3, h4, h5⟩ := m.new h.bl h.low
  refine ⟨F', h1, h2, h3, fun hk => ?_, fun hk => ?_, h.qr, h.lq, h.lr, h4.cell h.nq h.c0, h4.cell h.nq h.c1, h4.cell h.nr h.m0, h4.cell h.nr h.m1, h4.loose h.nq hq h.looseq, h4.loose h.nr hr h.looser⟩
  · rcases h5 q hk with h6 | h6
    · exact h.nq h6
    · omega
  · rcases h5 r hk with h6 | h6
    · exact h.nr h6
    · omega
theorem OneC.set0 (I : Face R) {wb wr : World} {F : Nat → Prop} {p : Nat} {d : Dk} {q r : Nat} {t0 t1 : List Nat} {n0 n1 : Int} {t : List Nat} (h : OneC R wb wr F p d q r t0 t1 n0 n1) : OneC R wb (wr.setCell ⟨q, 0, none⟩ (.string (ofNats t))) F p d q r t t1 n0 n1 := by
  have ho : Onl (fun k => k = q) wr (wr.setCell ⟨q, 0, none⟩ (.string (ofNats t))) := (Onl.refl (fun k => k = q) wr).set (p := q) rfl _ _
  exact ⟨I.keep h.at' ho (fun k hk e => h.nq (e ▸ hk)), h.low, h.bl.trans (ho.below (fun k e => e ▸ h.lq) h.bl.size), h.nq, h.nr, h.qr, h.lq, h.lr, World.cell?_setCell_same _ _ _ h.c0, cell_setc (by simp) h.c1, cell_setc (fun e => h.qr (congrArg Addr.block e).symm) h.m0, cell_setc (fun e => h.qr (congrArg Addr.block e).symm) h.m1, h.looseq.setc _ _, h.looser.setc _ _⟩
theorem OneC.set1 (I : Face R) {wb wr : World} {F : Nat → Prop} {p : Nat} {d : Dk} {q r : Nat} {t0 t1 : List Nat} {n0 n1 : Int} {t : List Nat} (h : OneC R wb wr F p d q r t0 t1 n0 n1) : OneC R wb (wr.setCell ⟨q, 1, none⟩ (.string (ofNats t))) F p d q r t0 t n0 n1 := by
  have ho : Onl (fun k => k = q) wr (wr.setCell ⟨q, 1, none⟩ (.string (ofNats t))) := (Onl.refl (fun k => k = q) wr).set (p := q) rfl _ _
  exact ⟨I.keep h.at' ho (fun k hk e => h.nq (e ▸ hk)), h.low, h.bl.trans (ho.below (fun k e => e ▸ h.lq) h.bl.size), h.nq, h.nr, h.qr, h.lq, h.lr, cell_setc (by simp) h.c0, World.cell?_setCell_same _ _ _ h.c1, cell_setc (fun e => h.qr (congrArg Addr.block e).symm) h.m0, cell_setc (fun e => h.qr (congrArg Addr.block e).symm) h.m1, h.looseq.setc _ _, h.looser.setc _ _⟩
theorem OneC.num0 (I : Face R) {wb wr : World} {F : Nat → Prop} {p : Nat} {d : Dk} {q r : Nat} {t0 t1 : List Nat} {n0 n1 : Int} {t : Int} (h : OneC R wb wr F p d q r t0 t1 n0 n1) : OneC R wb (wr.setCell ⟨r, 0, none⟩ (.int .i64 t)) F p d q r t0 t1 t n1 := by
  have ho : Onl (fun k => k = r) wr (wr.setCell ⟨r, 0, none⟩ (.int .i64 t)) := (Onl.refl (fun k => k = r) wr).set (p := r) rfl _ _
  exact ⟨I.keep h.at' ho (fun k hk e => h.nr (e ▸ hk)), h.low, h.bl.trans (ho.below (fun k e => e ▸ h.lr) h.bl.size), h.nq, h.nr, h.qr, h.lq, h.lr, cell_setc (fun e => h.qr (congrArg Addr.block e)) h.c0, cell_setc (fun e => h.qr (congrArg Addr.block e)) h.c1, World.cell?_setCell_same _ _ _ h.m0, cell_setc (by simp) h.m1, h.looseq.setc _ _, h.looser.setc _ _⟩
theorem OneC.num1 (I : Face R) {wb wr : World} {F : Nat → Prop} {p : Nat} {d : Dk} {q r : Nat} {t0 t1 : List Nat} {n0 n1 : Int} {t : Int} (h : OneC R wb wr F p d q r t0 t1 n0 n1) : OneC R wb (wr.setCell ⟨r, 1, none⟩ (.int .i64 t)) F p d q r t0 t1 n0 t := by
  have ho : Onl (fun k => k = r) wr (wr.setCell ⟨r, 1, none⟩ (.int .i64 t)) := (Onl.refl (fun k => k = r) wr).set (p := r) rfl _ _
  exact ⟨I.keep h.at' ho (fun k hk e => h.nr (e ▸ hk)), h.low, h.bl.trans (ho.below (fun k e => e ▸ h.lr) h.bl.size), h.nq, h.nr, h.qr, h.lq, h.lr, cell_setc (fun e => h.qr (congrArg Addr.block e)) h.c0, cell_setc (fun e => h.qr (congrArg Addr.block e)) h.c1, cell_setc (by simp) h.m0, World.cell?_setCell_same _ _ _ h.m1, h.looseq.setc _ _, h.looser.setc _ _⟩
theorem left_is (m : Nat) (k : Int) (hk : I64 k) (hm : m ≤ 1048576) (w : World) :
    Calls Try.prog 17 #[.int .i64 (m : Int), .int .i64 k] w fun e w' => e = .returned (.int .i64 ((min k.toNat m : Nat) : Int)) ∧ w' = w := by
  have h0 := hk.1
  have h1 := hk.2
  by_cases hn : k < 0
  · have hd : decide (k < 0) = true := decide_eq_true hn
    have e : ((min k.toNat m : Nat) : Int) = 0 := by omega
    rw [e]
    go_enter Try.func17, Try.ntmps17
    go_wp2_with fail
    go_ret
    exact ⟨rfl, rfl⟩
  · have hd : decide (k < 0) = false := decide_eq_false hn
    have e : ((min k.toNat m : Nat) : Int) = min (m : Int) k := by omega
    rw [e]
    go_enter Try.func17, Try.ntmps17
    go_wp2_with fail
    all_goals
      go_ret
      refine ⟨congrArg (fun z => Ending.returned (Value.int .i64 z)) ?_, rfl⟩
      omega
theorem left_i {m : Nat} {k z : Int} (hz : z = (m : Int)) (hk : I64 k) (hm : m ≤ 1048576) (w : World) :
    Calls Try.prog 17 #[.int .i64 z, .int .i64 k] w fun e w' => e = .returned (.int .i64 ((min k.toNat m : Nat) : Int)) ∧ w' = w := by
  subst hz; exact left_is m k hk hm w
/-- the disk ahead of the crash -/
def Dk.more (d : Dk) : Dk := if 0 < d.free then d.app 1 [116] else d
theorem acts_cap (d : Dk) (xs : List Stp) : (d.acts xs).cap = d.cap := by
  induction xs generalizing d with
  | nil => rfl
  | cons x xs ih => show (Dk.acts (d.act x) xs).cap = _; rw [ih, act_cap]
theorem more_used {d : Dk} (h : d.ok) (hc : 1 ≤ d.cap) : 1 ≤ d.more.used := by
  unfold Dk.more
  split
  · rename_i hf
    unfold Dk.app
    rw [if_pos (by show 1 ≤ d.free; omega)]
    simp [Dk.used, Sl.app]
    omega
  · rename_i hf
    unfold Dk.free at hf
    omega

/-- the argument of four fields in its box -/
structure BoxC (w : World) (q : Nat) (c : Int) (a1 : Option Addr) (n1 k1 : Nat) (e0 e1 : Int) : Prop where
  c0 : w.cell? ⟨q, 0, none⟩ = some (.int .i64 c)
  c1 : w.cell? ⟨q, 1, none⟩ = some (.slice a1 n1 k1)
  c2 : w.cell? ⟨q, 2, none⟩ = some (.int .i64 e0)
  c3 : w.cell? ⟨q, 3, none⟩ = some (.int .i64 e1)
theorem BoxC.later {w w' : World} {B q : Nat} {c : Int} {a1 : Option Addr} {n1 k1 : Nat} {e0 e1 : Int} (h : BoxC w q c a1 n1 k1 e0 e1) (hB : w.heap.size = B) (hb : Below B w w') : BoxC w' q c a1 n1 k1 e0 e1 := by
  subst hB; exact ⟨cell_later hb h.c0, cell_later hb h.c1, cell_later hb h.c2, cell_later hb h.c3⟩
theorem boxC (w : World) (c : Int) (a1 : Option Addr) (n1 k1 : Nat) (e0 e1 : Int) (T : TypeId) : BoxC (w.alloc (.cells #[.int .i64 c, .slice a1 n1 k1, .int .i64 e0, .int .i64 e1] T)) w.heap.size c a1 n1 k1 e0 e1 := by
  refine ⟨?_, ?_, ?_, ?_⟩ <;> simp [go_sem]

set_option maxHeartbeats 8000000 in
set_option maxRecDepth 8000 in
theorem crash_law (I : Face R) {w : World} {c e0 e1 : Int} {a1 : Option Addr} {k1 : Nat} {xs : List Stp} (hc : I64 c) (hx : RowS w a1 xs) (hxl : xs.length ≤ 9223372036854775807) (he0 : I64 e0) (he1 : I64 e1) :
    Calls Try.prog 5 #[.agg #[.int .i64 c, .slice a1 xs.length k1, .int .i64 e0, .int .i64 e1]] w fun e w' => e = .returned (.bool true) ∧ Below w.heap.size w w' := by
  have hbox := boxC w c a1 xs.length k1 e0 e1 39
  obtain ⟨wb, hwb⟩ : ∃ wb, wb = w.alloc (.cells #[.int .i64 c, .slice a1 xs.length k1, .int .i64 e0, .int .i64 e1] 39) := ⟨_, rfl⟩
  have hb0 : Below w.heap.size w wb := by rw [hwb]; exact Below.al (Below.refl _ _) _
  rw [← hwb] at hbox
  have HI := hid I
  have HX := hid (hx.below rfl hb0)
  have HC := hid hc
  have HE0 := hid he0
  have HE1 := hid he1
  have HBX := hid hbox
  have HB0 := hid hb0
  have HWB := hid hwb
  clear I hx hc hbox hb0 hwb he0 he1
  go_enter Try.func5, Try.ntmps5
  go_wp2_with fail
  rw [← HWB.out]
  refine (HI.out.new c wb HC.out).mono ?_
  rintro e w1 ⟨p, F, rfl, hR, hF, hb1⟩
  have HO : Hid (One R wb w1 p (Dk.new c)) := ⟨F, hR, hF, hb1⟩
  clear hR hF hb1
  go_wp2_with fail
  go_loopg [4] xs.length (fun g s4 wr => ∃ k : Nat, k ≤ xs.length ∧ g = xs.length - k ∧ s4 = .int .i64 k ∧ Hid (One R wb wr p ((Dk.new c).acts (xs.take k))))
  case atStart => exact ⟨0, by omega, by omega, rfl, HO⟩
  case round =>
    obtain ⟨k, hk, rfl, rfl, HK⟩ := hrel
    obtain ⟨F1, hR1, hF1, hb1⟩ := HK.out
    have c1 := (HBX.out.later rfl hb1).c1
    have c0 := (HBX.out.later rfl hb1).c0
    have H1 : Hid (R wr F1 p ((Dk.new c).acts (xs.take k)) ∧ (∀ k, F1 k → wb.heap.size ≤ k) ∧ Below wb.heap.size wb wr) := ⟨hR1, hF1, hb1⟩
    by_cases hlt : k < xs.length
    · obtain ⟨hok, b, off, rfl, d0, d1, d2, d3, d4, d5⟩ := (HX.out.below rfl hb1) k hlt
      have hs : (Dk.new c).acts (xs.take (k + 1)) = ((Dk.new c).acts (xs.take k)).act (nthS xs k) := by rw [nthS_take hlt, acts_snoc]
      have HS := hid hs
      have HOK := hid hok
      clear hR1 hF1 hb1 hs hok
      go_wp2_with fail
      refine (act_any HI.out (x := nthS xs k) H1.out.1 HOK.out).mono ?_
      rintro e w2 ⟨rfl, hm⟩
      have HO2 : Hid (One R wb w2 p ((Dk.new c).acts (xs.take (k + 1)))) := by show One R wb w2 p _; rw [HS.out]; exact One.move H1.out.2.1 H1.out.2.2 hm
      clear hm d0 d1 d2 d3 d4 d5 c1 c0
      go_wp2_with fail
      go_roundg (xs.length - (k + 1))
      case measure => omega
      case rel => exact ⟨k + 1, by omega, rfl, by go_num, HO2⟩
    · obtain rfl : k = xs.length := by omega
      obtain ⟨de, hde⟩ : ∃ de, de = (Dk.new c).acts (xs.take xs.length) := ⟨_, rfl⟩
      rw [← hde] at H1
      have HCAP : Hid (de.cap = fit c) := by show _ = _; rw [hde, acts_cap]; rfl
      have hm := more_used (HI.out.ok H1.out.1)
      have HMU : Hid (0 < c → 1 ≤ de.more.used) := fun h => hm (by rw [HCAP.out]; exact fit_pos h)
      clear hR1 hF1 hb1 hde HK HO hm HCAP
      go_upto_region 8 with fail
      go_cut [36] (fun s36 wx => s36 = .bool false ∧ Hid (One R wb wx p de.more))
      case first =>
        go_wp2_with fail
        refine (HI.out.free H1.out.1).mono ?_
        rintro e w2 ⟨rfl, hb2⟩
        have HB2 := hid hb2
        clear hb2
        by_cases hf : 0 < de.free
        · have hf1 : decide (0 < de.free) = true := decide_eq_true hf
          have HAE : Hid (de.appE 1 [116] = 0) := by
            show _ = _
            unfold Dk.appE
            rw [if_pos (.inr rfl), if_pos (by show 1 ≤ de.free; omega)]
          have HMO : Hid (de.more = de.app 1 [116]) := by show _ = _; unfold Dk.more; rw [if_pos hf]
          clear hf
          go_wp2_with fail
          refine (HI.out.append (HI.out.later H1.out.1 HB2.out) 1 (t := [116]) ⟨by omega, by omega⟩ (B8.one (by omega))).mono ?_
          rintro e w3 ⟨rfl, hm⟩
          rw [HAE.out]
          have hO3 : One R wb w3 p (de.app 1 [116]) := One.move H1.out.2.1 (Below.on H1.out.2.2 HB2.out) hm
          rw [← HMO.out] at hO3
          have HO3 := hid hO3
          clear hO3 hm HAE HMO H1 HB2 hf1
          go_wp2_with fail
          go_meet
          exact ⟨rfl, HO3⟩
        · have hf1 : decide (0 < de.free) = false := decide_eq_false hf
          have HMO : Hid (de.more = de) := by show _ = _; unfold Dk.more; rw [if_neg hf]
          have HO3 : Hid (One R wb w2 p de.more) := by show One R wb w2 p _; rw [HMO.out]; exact ⟨F1, HI.out.later H1.out.1 HB2.out, H1.out.2.1, Below.on H1.out.2.2 HB2.out⟩
          clear hf HMO H1 HB2
          go_wp2_with fail
          go_meet
          exact ⟨rfl, HO3⟩
      case rest =>
        obtain ⟨rfl, HO3⟩ := hcut
        obtain ⟨w3, hw3⟩ : ∃ w3, w3 = wc := ⟨_, rfl⟩
        rw [← hw3] at HO3 ⊢
        clear hw3 H1 c0 c1
        obtain ⟨F3, hR3, hF3, hb3⟩ := HO3.out
        have c0 := (HBX.out.later rfl hb3).c0
        have H3 : Hid (R w3 F3 p de.more ∧ (∀ k, F3 k → wb.heap.size ≤ k) ∧ Below wb.heap.size wb w3) := ⟨hR3, hF3, hb3⟩
        clear hR3 hF3 hb3 HO3
        go_upto_region 10 with fail
        go_cut [44] (fun s44 wx => s44 = .bool false ∧ Hid (One R wb wx p de.more))
        case first =>
          by_cases hpos : 0 < c
          · have hp' : decide (0 < c) = true := decide_eq_true hpos
            have hu : (de.more.used == 0) = false := beq_eq_false_iff_ne.2 (by have := HMU.out hpos; omega)
            have hu2 : ((de.more.used : Int) == 0) = false := beq_eq_false_iff_ne.2 (by have := HMU.out hpos; omega)
            clear hpos
            go_wp2_with fail
            refine (HI.out.used H3.out.1).mono ?_
            rintro e w4 ⟨rfl, hb4⟩
            have HO4 : Hid (One R wb w4 p de.more) := ⟨F3, HI.out.later H3.out.1 hb4, H3.out.2.1, Below.on H3.out.2.2 hb4⟩
            clear hb4 H3 HMU c0
            go_wp2_with fail
            go_meet
            exact ⟨rfl, HO4⟩
          · have hp' : decide (0 < c) = false := decide_eq_false hpos
            have HO4 : Hid (One R wb w3 p de.more) := ⟨F3, H3.out.1, H3.out.2.1, H3.out.2.2⟩
            clear hpos H3 HMU
            go_wp2_with fail
            go_meet
            exact ⟨rfl, HO4⟩
        case rest =>
          obtain ⟨rfl, HO4⟩ := hcut
          obtain ⟨w4, hw4⟩ : ∃ w4, w4 = wc := ⟨_, rfl⟩
          rw [← hw4] at HO4 ⊢
          clear hw4 H3 HMU c0
          go_wp2_with fail
          obtain ⟨F4, hR4, hF4, hb4⟩ := HO4.out
          obtain ⟨ds, hds⟩ : ∃ ds, ds = de.more := ⟨_, rfl⟩
          rw [← hds] at hR4
          obtain ⟨q, hq⟩ : ∃ q, q = w4.heap.size := ⟨_, rfl⟩
          obtain ⟨wz, hwz⟩ : ∃ wz, wz = (w4.alloc (.cells #[.string ⟨#[]⟩, .string ⟨#[]⟩] 35)).alloc (.cells #[.int .i64 0, .int .i64 0] 40) := ⟨_, rfl⟩
          have HZ : Hid (OneC R wb wz F4 p ds q (q + 1) [] [] 0 0) := by
            have hb : Below w4.heap.size w4 wz := by rw [hwz]; exact Below.al (Below.al (Below.refl _ _) _) _
            have hsz := hb4.size
            refine ⟨HI.out.later hR4 hb, hF4, Below.on hb4 hb, fun h => by have := HI.out.lt hR4 _ h; omega, fun h => by have := HI.out.lt hR4 _ h; omega, by omega, by omega, by omega, ?_, ?_, ?_, ?_, fun o => ?_, fun o => ?_⟩
            · rw [hwz, hq]; simp [go_sem]; rfl
            · rw [hwz, hq]; simp [go_sem]; rfl
            · rw [hwz, hq]; simp [go_sem]
            · rw [hwz, hq]; simp [go_sem]
            · rw [hwz, hq]; simp [go_sem]
            · rw [hwz, hq]; simp [go_sem]
          rw [← hwz, ← hq]
          obtain ⟨r, hr⟩ : ∃ r, r = q + 1 := ⟨_, rfl⟩
          rw [← hr] at HZ ⊢
          clear hR4 hF4 hb4 HO4 hds hq hwz hr
          go_loopg [7] 2 (fun g s7 wr => ∃ k : Nat, k ≤ 2 ∧ g = 2 - k ∧ s7 = .int .i64 k ∧ ∃ F, Hid (OneC R wb wr F p ds q r (if k = 0 then [] else ds.bytes 0) (if k ≤ 1 then [] else ds.bytes 1) (if k = 0 then 0 else ((left (ds.bytes 0).length (ds.synced 0) e0 : Nat) : Int)) (if k ≤ 1 then 0 else ((left (ds.bytes 1).length (ds.synced 1) e1 : Nat) : Int))))
          case atStart => exact ⟨0, by omega, by omega, rfl, _, HZ⟩
          case round =>
            obtain ⟨k, hk, rfl, rfl, F5, HK⟩ := hrel
            clear HZ
            obtain rfl | rfl | rfl : k = 0 ∨ k = 1 ∨ k = 2 := by omega
            · have c2 := (HBX.out.later rfl HK.out.bl).c2
              have c2' := (HBX.out.later rfl HK.out.bl).c2
              obtain ⟨T, hT⟩ : ∃ T, T = ofNats (ds.bytes 0) := ⟨_, rfl⟩
              obtain ⟨sy, hsy⟩ : ∃ sy, sy = ds.synced 0 := ⟨_, rfl⟩
              have hok := HI.out.ok HK.out.at'
              have hTs : T.size = (ds.bytes 0).length := by rw [hT, ofNats_size]
              have hTl : T.size ≤ 1048576 := by have h1 := hok.used; have h2 := hok.cap; rw [hTs]; show ds.x.b.length ≤ _; omega
              have hsl : sy ≤ T.size := by rw [hsy, hTs]; exact hok.sx
              obtain ⟨mn, hmn⟩ : ∃ mn, mn = min e0.toNat (T.size - sy) := ⟨_, rfl⟩
              have hml : sy + mn ≤ T.size := by omega
              have HN : Hid (((left (ds.bytes 0).length (ds.synced 0) e0 : Nat) : Int) = (sy : Int) + (mn : Int)) := by
                show _ = _
                unfold left
                rw [← hTs, ← hsy, hmn]
                omega
              have HT := hid hT
              have HSY := hid hsy
              have HMN := hid hmn
              have l0 : decide ((sy : Int) < 0) = false := decide_eq_false (by omega)
              have l1 : decide ((T.size : Int) < (sy : Int) + (mn : Int)) = false := decide_eq_false (by omega)
              have l2 : decide (T.size < sy + mn) = false := decide_eq_false (by omega)
              have hsub : (T.size : Int) - (sy : Int) = ((T.size - sy : Nat) : Int) := by omega
              have HSB := hid hsub
              clear hT hsy hok hTs hmn hsub
              go_wp2_with fail
              refine (HI.out.bytes HK.out.at' 0 ⟨by omega, by omega⟩).mono ?_
              rintro e w5 ⟨rfl, hb5⟩
              have HK5 := hid (HK.out.later HI.out hb5)
              have d0 := HK5.out.c0
              have f0 := HK5.out.looseq 0
              replace c2 := cell_later hb5 c2
              replace c2' := cell_later hb5 c2'
              clear hb5
              rw [← HT.out]
              have HK6 := hid (HK5.out.set0 HI.out (t := ds.bytes 0))
              rw [← HT.out] at HK6
              have hq1 : ¬ w.heap.size = q := by have h1 := HK5.out.lq; have h2 := World.block_lt_of_cell? _ _ HBX.out.c0; dsimp only at h2; omega
              go_wp2_with fail
              obtain ⟨w6, hw6⟩ : ∃ w6, w6 = w5.setCell ⟨q, 0, none⟩ (.string T) := ⟨_, rfl⟩
              rw [← hw6] at HK6 ⊢
              have g0 : w6.cell? ⟨q, 0, none⟩ = some (.string T) := by have := HK6.out.c0; rw [← HT.out] at this; exact this
              have g1 := HK6.out.m0
              have g2 := HK6.out.looser 0
              have hlr := HK6.out.ltr
              clear d0 f0 hw6 c2 c2'
              go_cut [] (fun wx => Hid (OneC R wb wx F5 p ds q r (ds.bytes 0) [] (left (ds.bytes 0).length (ds.synced 0) e0 : Nat) 0))
              case first =>
                go_region_with (first | (go_at_call 15; refine (HI.out.synced (HI.out.later HK6.out.at' (by (repeat (first | exact Below.refl _ _ | assumption | refine Below.drew ?_ | refine Below.al ?_ _ | refine Below.setCell ?_ (by first | exact Nat.le_refl _ | (simp; omega) | (simp; done)) _ | refine Below.on ?_ (by assumption))))) 0 ⟨by omega, by omega⟩).mono ?_; rw [← HSY.out]; rintro e w7 ⟨rfl, hb7⟩; have hB7 : Below w6.heap.size w6 w7 := (by refine Below.on ?_ hb7; (repeat (first | exact Below.refl _ _ | assumption | refine Below.drew ?_ | refine Below.al ?_ _ | refine Below.setCell ?_ (by first | exact Nat.le_refl _ | (simp; omega) | (simp; done)) _ | refine Below.on ?_ (by assumption)))); have j0 := cell_later hB7 g0; have j1 := cell_later hB7 g1; have j2 := (hB7.frozen (p := ⟨r, 0, none⟩) hlr).trans g2; clear hb7) | (go_at_call 17; refine (left_i (m := T.size - sy) (by first | exact HSB.out | (have := HSB.out; rw [IntKind.wrap_i64]; omega)) HE0.out (by omega) _).mono ?_; rw [← HMN.out]; rintro e w8 ⟨rfl, rfl⟩))
                all_goals (try go_wp2_with fail)
                all_goals go_meet
                all_goals
                  have hw : IntKind.i64.wrap ((sy : Int) + (mn : Int)) = ((left (ds.bytes 0).length (ds.synced 0) e0 : Nat) : Int) := by rw [HN.out, IntKind.wrap_i64]; omega
                  rw [hw]
                  exact (HK6.out.later HI.out hB7).num0 HI.out
              case rest =>
                have HJ := hcut
                clear hcut g0 g1 g2 hlr HK6
                have g0 := HJ.out.c0
                have g1 := HJ.out.m0
                rw [← HT.out] at g0
                rw [HN.out] at g1
                have r0 := cell_regrown g0
                have r1 := cell_regrown g1
                have HSC : Hid (∀ w', Below wc.heap.size wc w' → Calls Try.prog 15 #[ptr p, .int .i64 0] w' fun e w'' => e = .returned (.int .i64 (sy : Int)) ∧ Below w'.heap.size w' w'') := fun w' hb => by
                  have := HI.out.synced (HI.out.later HJ.out.at' hb) 0 ⟨by omega, by omega⟩
                  rw [← HSY.out] at this
                  exact this
                clear g0 g1
                go_wp2_with fail
                refine wp_region_quiet_below (by kernel_rfl) (by kernel_rfl) ?_
                repeat (go_big_quiet_step ((go_at_call 15; exact Calls.regrown_of (HSC.out _ (below_regrown _ _ _)))))
                refine wpQuiet_nil ?_
                intro w9 hw9
                replace hw9 := below_of_regrown hw9
                have HJ9 := hid (HJ.out.later HI.out hw9)
                clear hw9 r0 r1 HSC
                go_wp2_with fail
                go_roundg 1
                case measure => omega
                case rel => exact ⟨1, by omega, rfl, by go_num, _, HJ9⟩
            · have c2 := (HBX.out.later rfl HK.out.bl).c3
              have c2' := (HBX.out.later rfl HK.out.bl).c2
              obtain ⟨T, hT⟩ : ∃ T, T = ofNats (ds.bytes 1) := ⟨_, rfl⟩
              obtain ⟨sy, hsy⟩ : ∃ sy, sy = ds.synced 1 := ⟨_, rfl⟩
              have hok := HI.out.ok HK.out.at'
              have hTs : T.size = (ds.bytes 1).length := by rw [hT, ofNats_size]
              have hTl : T.size ≤ 1048576 := by have h1 := hok.used; have h2 := hok.cap; rw [hTs]; show ds.y.b.length ≤ _; omega
              have hsl : sy ≤ T.size := by rw [hsy, hTs]; exact hok.sy
              obtain ⟨mn, hmn⟩ : ∃ mn, mn = min e1.toNat (T.size - sy) := ⟨_, rfl⟩
              have hml : sy + mn ≤ T.size := by omega
              have HN : Hid (((left (ds.bytes 1).length (ds.synced 1) e1 : Nat) : Int) = (sy : Int) + (mn : Int)) := by
                show _ = _
                unfold left
                rw [← hTs, ← hsy, hmn]
                omega
              have HT := hid hT
              have HSY := hid hsy
              have HMN := hid hmn
              have l0 : decide ((sy : Int) < 0) = false := decide_eq_false (by omega)
              have l1 : decide ((T.size : Int) < (sy : Int) + (mn : Int)) = false := decide_eq_false (by omega)
              have l2 : decide (T.size < sy + mn) = false := decide_eq_false (by omega)
              have hsub : (T.size : Int) - (sy : Int) = ((T.size - sy : Nat) : Int) := by omega
              have HSB := hid hsub
              clear hT hsy hok hTs hmn hsub
              go_wp2_with fail
              refine (HI.out.bytes HK.out.at' 1 ⟨by omega, by omega⟩).mono ?_
              rintro e w5 ⟨rfl, hb5⟩
              have HK5 := hid (HK.out.later HI.out hb5)
              have d0 := HK5.out.c1
              have f0 := HK5.out.looseq 1
              replace c2 := cell_later hb5 c2
              replace c2' := cell_later hb5 c2'
              clear hb5
              rw [← HT.out]
              have HK6 := hid (HK5.out.set1 HI.out (t := ds.bytes 1))
              rw [← HT.out] at HK6
              have hq1 : ¬ w.heap.size = q := by have h1 := HK5.out.lq; have h2 := World.block_lt_of_cell? _ _ HBX.out.c0; dsimp only at h2; omega
              go_wp2_with fail
              obtain ⟨w6, hw6⟩ : ∃ w6, w6 = w5.setCell ⟨q, 1, none⟩ (.string T) := ⟨_, rfl⟩
              rw [← hw6] at HK6 ⊢
              have g0 : w6.cell? ⟨q, 1, none⟩ = some (.string T) := by have := HK6.out.c1; rw [← HT.out] at this; exact this
              have g1 := HK6.out.m1
              have g2 := HK6.out.looser 1
              have hlr := HK6.out.ltr
              clear d0 f0 hw6 c2 c2'
              go_cut [] (fun wx => Hid (OneC R wb wx F5 p ds q r (ds.bytes 0) (ds.bytes 1) (left (ds.bytes 0).length (ds.synced 0) e0 : Nat) (left (ds.bytes 1).length (ds.synced 1) e1 : Nat)))
              case first =>
                go_region_with (first | (go_at_call 15; refine (HI.out.synced (HI.out.later HK6.out.at' (by (repeat (first | exact Below.refl _ _ | assumption | refine Below.drew ?_ | refine Below.al ?_ _ | refine Below.setCell ?_ (by first | exact Nat.le_refl _ | (simp; omega) | (simp; done)) _ | refine Below.on ?_ (by assumption))))) 1 ⟨by omega, by omega⟩).mono ?_; rw [← HSY.out]; rintro e w7 ⟨rfl, hb7⟩; have hB7 : Below w6.heap.size w6 w7 := (by refine Below.on ?_ hb7; (repeat (first | exact Below.refl _ _ | assumption | refine Below.drew ?_ | refine Below.al ?_ _ | refine Below.setCell ?_ (by first | exact Nat.le_refl _ | (simp; omega) | (simp; done)) _ | refine Below.on ?_ (by assumption)))); have j0 := cell_later hB7 g0; have j1 := cell_later hB7 g1; have j2 := (hB7.frozen (p := ⟨r, 1, none⟩) hlr).trans g2; clear hb7) | (go_at_call 17; refine (left_i (m := T.size - sy) (by first | exact HSB.out | (have := HSB.out; rw [IntKind.wrap_i64]; omega)) HE1.out (by omega) _).mono ?_; rw [← HMN.out]; rintro e w8 ⟨rfl, rfl⟩))
                all_goals (try go_wp2_with fail)
                all_goals go_meet
                all_goals
                  have hw : IntKind.i64.wrap ((sy : Int) + (mn : Int)) = ((left (ds.bytes 1).length (ds.synced 1) e1 : Nat) : Int) := by rw [HN.out, IntKind.wrap_i64]; omega
                  rw [hw]
                  exact (HK6.out.later HI.out hB7).num1 HI.out
              case rest =>
                have HJ := hcut
                clear hcut g0 g1 g2 hlr HK6
                have g0 := HJ.out.c1
                have g1 := HJ.out.m1
                rw [← HT.out] at g0
                rw [HN.out] at g1
                have r0 := cell_regrown g0
                have r1 := cell_regrown g1
                have HSC : Hid (∀ w', Below wc.heap.size wc w' → Calls Try.prog 15 #[ptr p, .int .i64 1] w' fun e w'' => e = .returned (.int .i64 (sy : Int)) ∧ Below w'.heap.size w' w'') := fun w' hb => by
                  have := HI.out.synced (HI.out.later HJ.out.at' hb) 1 ⟨by omega, by omega⟩
                  rw [← HSY.out] at this
                  exact this
                clear g0 g1
                go_wp2_with fail
                refine wp_region_quiet_below (by kernel_rfl) (by kernel_rfl) ?_
                repeat (go_big_quiet_step ((go_at_call 15; exact Calls.regrown_of (HSC.out _ (below_regrown _ _ _)))))
                refine wpQuiet_nil ?_
                intro w9 hw9
                replace hw9 := below_of_regrown hw9
                have HJ9 := hid (HJ.out.later HI.out hw9)
                clear hw9 r0 r1 HSC
                go_wp2_with fail
                go_roundg 0
                case measure => omega
                case rel => exact ⟨2, by omega, rfl, by go_num, _, HJ9⟩
            · have c2 := (HBX.out.later rfl HK.out.bl).c2
              have c3 := (HBX.out.later rfl HK.out.bl).c3
              obtain ⟨m0, hm0⟩ : ∃ m0, m0 = left (ds.bytes 0).length (ds.synced 0) e0 := ⟨_, rfl⟩
              obtain ⟨m1, hm1⟩ : ∃ m1, m1 = left (ds.bytes 1).length (ds.synced 1) e1 := ⟨_, rfl⟩
              have hok := HI.out.ok HK.out.at'
              have HK2 : Hid (OneC R wb wr F5 p ds q r (ds.bytes 0) (ds.bytes 1) (m0 : Int) (m1 : Int)) := by rw [hm0, hm1]; exact HK.out
              have hl0 : m0 ≤ (ds.bytes 0).length := by rw [hm0]; unfold left; have : ds.synced 0 ≤ (ds.bytes 0).length := hok.sx; omega
              have hl1 : m1 ≤ (ds.bytes 1).length := by rw [hm1]; unfold left; have : ds.synced 1 ≤ (ds.bytes 1).length := hok.sy; omega
              have hll : (ds.bytes 0).length + (ds.bytes 1).length ≤ 1048576 := Nat.le_trans hok.used hok.cap
              obtain ⟨dc, hdc⟩ : ∃ dc, dc = ds.crash e0 e1 := ⟨_, rfl⟩
              have HD : Hid (dc.bytes 0 = (ds.bytes 0).take m0 ∧ dc.bytes 1 = (ds.bytes 1).take m1 ∧ dc.synced 0 = m0 ∧ dc.synced 1 = m1) := by rw [hdc, hm0, hm1]; exact ⟨rfl, rfl, rfl, rfl⟩
              have HU : Hid (dc.used = m0 + m1) := by
                show (dc.bytes 0).length + (dc.bytes 1).length = _
                rw [HD.out.1, HD.out.2.1, List.length_take, List.length_take]
                omega
              have HB8 : Hid (B8 (ds.bytes 0) ∧ B8 (ds.bytes 1)) := ⟨hok.bx, hok.by'⟩
              have HL : Hid (m0 ≤ (ds.bytes 0).length ∧ m1 ≤ (ds.bytes 1).length) := ⟨hl0, hl1⟩
              have hs0 : m0 ≤ 1048576 := by omega
              have hs1 : m1 ≤ 1048576 := by omega
              clear HK hok hl0 hl1 hll hm0 hm1
              go_wp2_with fail
              refine (HI.out.crash HK2.out.at' HE0.out HE1.out).mono ?_
              rintro e w5 ⟨rfl, hm⟩
              rw [← hdc] at hm
              obtain ⟨F6, h6⟩ := HK2.out.move hm
              have HC6 := hid h6
              clear hm h6 hdc c2 c3 HK2
              go_wp2_with fail
              go_loopg [9] 2 (fun g s9 wr => ∃ k : Nat, k ≤ 2 ∧ g = 2 - k ∧ s9 = .int .i64 k ∧ Hid (OneC R wb wr F6 p dc q r (ds.bytes 0) (ds.bytes 1) (m0 : Int) (m1 : Int)))
              case atStart => exact ⟨0, by omega, by omega, rfl, HC6⟩
              case round =>
                obtain ⟨k, hk, rfl, rfl, HK⟩ := hrel
                clear HC6
                obtain rfl | rfl | rfl : k = 0 ∨ k = 1 ∨ k = 2 := by omega
                · obtain ⟨T, hT⟩ : ∃ T, T = ofNats (ds.bytes 0) := ⟨_, rfl⟩
                  obtain ⟨N, hN⟩ : ∃ N, N = ofNats (dc.bytes 0) := ⟨_, rfl⟩
                  have hex : T.extract 0 m0 = N := by rw [hT, hN, ofNats_extract HB8.out.1, HD.out.1, List.drop_zero]
                  have hle : m0 ≤ T.size := by rw [hT, ofNats_size]; exact HL.out.1
                  have g0 := HK.out.c0
                  rw [← hT] at g0
                  have r0 := cell_regrown g0
                  have r1 := cell_regrown HK.out.m0
                  have HSB : Hid (∀ w', Below wr.heap.size wr w' → Calls Try.prog 11 #[ptr p, .int .i64 0] w' fun e w'' => e = .returned (.string N) ∧ Below w'.heap.size w' w'') := fun w' hb => by
                    rw [hN]; exact HI.out.bytes (HI.out.later HK.out.at' hb) 0 ⟨by omega, by omega⟩
                  have HSC : Hid (∀ w', Below wr.heap.size wr w' → Calls Try.prog 15 #[ptr p, .int .i64 0] w' fun e w'' => e = .returned (.int .i64 (m0 : Int)) ∧ Below w'.heap.size w' w'') := fun w' hb => by
                    have := HI.out.synced (HI.out.later HK.out.at' hb) 0 ⟨by omega, by omega⟩
                    rw [HD.out.2.2.1] at this
                    exact this
                  clear hT hN g0
                  go_wp2_with fail
                  refine wp_region_quiet_below (by kernel_rfl) (by kernel_rfl) ?_
                  repeat (go_big_quiet_step (first | (go_at_call 11; exact Calls.regrown_of (HSB.out _ (below_regrown _ _ _))) | (go_at_call 15; exact Calls.regrown_of (HSC.out _ (below_regrown _ _ _)))))
                  refine wpQuiet_nil ?_
                  intro w9 hw9
                  replace hw9 := below_of_regrown hw9
                  have HJ9 := hid (HK.out.later HI.out hw9)
                  clear hw9 r0 r1 HSC HSB
                  go_wp2_with fail
                  go_roundg 1
                  case measure => omega
                  case rel => exact ⟨1, by omega, rfl, by go_num, HJ9⟩
                · obtain ⟨T, hT⟩ : ∃ T, T = ofNats (ds.bytes 1) := ⟨_, rfl⟩
                  obtain ⟨N, hN⟩ : ∃ N, N = ofNats (dc.bytes 1) := ⟨_, rfl⟩
                  have hex : T.extract 0 m1 = N := by rw [hT, hN, ofNats_extract HB8.out.2, HD.out.2.1, List.drop_zero]
                  have hle : m1 ≤ T.size := by rw [hT, ofNats_size]; exact HL.out.2
                  have g0 := HK.out.c1
                  rw [← hT] at g0
                  have r0 := cell_regrown g0
                  have r1 := cell_regrown HK.out.m1
                  have HSB : Hid (∀ w', Below wr.heap.size wr w' → Calls Try.prog 11 #[ptr p, .int .i64 1] w' fun e w'' => e = .returned (.string N) ∧ Below w'.heap.size w' w'') := fun w' hb => by
                    rw [hN]; exact HI.out.bytes (HI.out.later HK.out.at' hb) 1 ⟨by omega, by omega⟩
                  have HSC : Hid (∀ w', Below wr.heap.size wr w' → Calls Try.prog 15 #[ptr p, .int .i64 1] w' fun e w'' => e = .returned (.int .i64 (m1 : Int)) ∧ Below w'.heap.size w' w'') := fun w' hb => by
                    have := HI.out.synced (HI.out.later HK.out.at' hb) 1 ⟨by omega, by omega⟩
                    rw [HD.out.2.2.2] at this
                    exact this
                  clear hT hN g0
                  go_wp2_with fail
                  refine wp_region_quiet_below (by kernel_rfl) (by kernel_rfl) ?_
                  repeat (go_big_quiet_step (first | (go_at_call 11; exact Calls.regrown_of (HSB.out _ (below_regrown _ _ _))) | (go_at_call 15; exact Calls.regrown_of (HSC.out _ (below_regrown _ _ _)))))
                  refine wpQuiet_nil ?_
                  intro w9 hw9
                  replace hw9 := below_of_regrown hw9
                  have HJ9 := hid (HK.out.later HI.out hw9)
                  clear hw9 r0 r1 HSC HSB
                  go_wp2_with fail
                  go_roundg 0
                  case measure => omega
                  case rel => exact ⟨2, by omega, rfl, by go_num, HJ9⟩
                · have r0 := cell_regrown HK.out.m0
                  have r1 := cell_regrown HK.out.m1
                  have HSU : Hid (∀ w', Below wr.heap.size wr w' → Calls Try.prog 13 #[ptr p] w' fun e w'' => e = .returned (.int .i64 ((m0 + m1 : Nat) : Int)) ∧ Below w'.heap.size w' w'') := fun w' hb => by
                    have := HI.out.used (HI.out.later HK.out.at' hb)
                    rw [HU.out] at this
                    exact this
                  have hwr : wrap64 ((m0 : Int) + (m1 : Int)) = ((m0 + m1 : Nat) : Int) := by unfold wrap64; omega
                  go_wp2_with fail
                  refine wp_region_quiet_below (by kernel_rfl) (by kernel_rfl) ?_
                  repeat (go_big_quiet_step ((go_at_call 13; exact Calls.regrown_of (HSU.out _ (below_regrown _ _ _)))))
                  refine wpQuiet_nil ?_
                  intro w9 hw9
                  replace hw9 := below_of_regrown hw9
                  have HB9 := hid (Below.on HB0.out (Below.on HK.out.bl hw9))
                  clear hw9 r0 r1 HSU
                  go_wp2_with fail
                  go_ret
                  exact ⟨by first | rfl | simp, HB9.out⟩

end Go.Proofs.Ytmbmagfdeadibaa
