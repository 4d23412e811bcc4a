import Derived.Test.YtmbmagfdeadibaaDAlike
namespace Go.Proofs.Ytmbmagfdeadibaa
open Go.RowKit Go.Sort
set_option linter.unusedVariables false
variable {R : World → (Nat → Prop) → Nat → Dk → Prop}

/-- one disk whose blocks lie behind wb -/
def One (R : World → (Nat → Prop) → Nat → Dk → Prop) (wb wr : World) (p : Nat) (d : Dk) : Prop := ∃ F, R wr F p d ∧ (∀ k, F k → wb.heap.size ≤ k) ∧ Below wb.heap.size wb wr
theorem One.move {wb wr w' : World} {p : Nat} {d' : Dk} {F : Nat → Prop} (hF : ∀ k, F k → wb.heap.size ≤ k) (hb : Below wb.heap.size wb wr) (m : Moved R wr w' F p d') : One R wb w' p d' := by
  obtain ⟨F', h1, h2, h3, _⟩ := m.new hb hF
  exact ⟨F', h1, h2, h3⟩
/-- three disks, apart from each other -/
structure Three (R : World → (Nat → Prop) → Nat → Dk → Prop) (wb wr : World) (F G H : Nat → Prop) (p q r : Nat) (d e f : Dk) : Prop where
  a : R wr F p d
  b : R wr G q e
  c : R wr H r f
  fg : ∀ k, F k → ¬ G k
  fh : ∀ k, F k → ¬ H k
  gh : ∀ k, G k → ¬ H k
  lf : ∀ k, F k → wb.heap.size ≤ k
  lg : ∀ k, G k → wb.heap.size ≤ k
  lh : ∀ k, H k → wb.heap.size ≤ k
  bl : Below wb.heap.size wb wr
theorem Three.later (I : Face R) {wb wr w' : World} {F G H : Nat → Prop} {p q r : Nat} {d e f : Dk} (h : Three R wb wr F G H p q r d e f) (hb : Below wr.heap.size wr w') : Three R wb w' F G H p q r d e f :=
  ⟨I.later h.a hb, I.later h.b hb, I.later h.c hb, h.fg, h.fh, h.gh, h.lf, h.lg, h.lh, Below.on h.bl hb⟩
theorem Three.turn {wb wr : World} {F G H : Nat → Prop} {p q r : Nat} {d e f : Dk} (h : Three R wb wr F G H p q r d e f) : Three R wb wr G F H q p r e d f :=
  ⟨h.b, h.a, h.c, fun k hk hf => h.fg k hf hk, h.gh, h.fh, h.lg, h.lf, h.lh, h.bl⟩
/-- the first is moved -/
theorem Three.move (I : Face R) {wb wr w' : World} {F G H : Nat → Prop} {p q r : Nat} {d d' e f : Dk} (h : Three R wb wr F G H p q r d e f) (m : Moved R wr w' F p d') : ∃ F', Three R wb w' F' G H p q r d' e f := by
  obtain ⟨F', h1, h2, h3, h4, h5⟩ := m.new h.bl h.lf
  refine ⟨F', h1, I.keep h.b h4 (fun k hk hf => h.fg k hf hk), I.keep h.c h4 (fun k hk hf => h.fh k hf hk), fun k hk hg => ?_, fun k hk hg => ?_, h.gh, h2, h.lg, h.lh, h3⟩
  · rcases h5 k hk with h6 | h6
    · exact h.fg k h6 hg
    · have := I.lt h.b k hg; omega
  · rcases h5 k hk with h6 | h6
    · exact h.fh k h6 hg
    · have := I.lt h.c k hg; omega

/-- the argument of three fields in its box -/
structure BoxT (w : World) (q : Nat) (c : Int) (a1 : Option Addr) (n1 k1 : Nat) (a2 : Option Addr) (n2 k2 : Nat) : Prop where
  c0 : w.cell? ⟨q, 0, none⟩ = some (.int .i64 c)
  c1 : w.cell? ⟨q, 1, none⟩ = some (.slice a1 n1 k1)
  c2 : w.cell? ⟨q, 2, none⟩ = some (.slice a2 n2 k2)
theorem BoxT.later {w w' : World} {B q : Nat} {c : Int} {a1 a2 : Option Addr} {n1 k1 n2 k2 : Nat} (h : BoxT w q c a1 n1 k1 a2 n2 k2) (hB : w.heap.size = B) (hb : Below B w w') : BoxT w' q c a1 n1 k1 a2 n2 k2 := by
  subst hB; exact ⟨cell_later hb h.c0, cell_later hb h.c1, cell_later hb h.c2⟩
theorem boxT (w : World) (c : Int) (a1 a2 : Option Addr) (n1 k1 n2 k2 : Nat) (T : TypeId) : BoxT (w.alloc (.cells #[.int .i64 c, .slice a1 n1 k1, .slice a2 n2 k2] T)) w.heap.size c a1 n1 k1 a2 n2 k2 := by
  refine ⟨?_, ?_, ?_⟩ <;> simp [go_sem]
theorem fit_pos {c : Int} (h : 0 < c) : 1 ≤ fit c := by unfold fit; omega
/-- the disk at the beginning of DiskClone -/
def cloned0 (c : Int) : Dk := if 0 < c then (Dk.new c).app 1 [99] else Dk.new c
theorem new_app {c : Int} (h : 0 < c) (s : Int) (hs : s = 0 ∨ s = 1) (v : Nat) : (Dk.new c).appE s [v] = 0 := by
  have := fit_pos h
  have hf : ([v] : List Nat).length ≤ (Dk.new c).free := by simp [Dk.new, Dk.free, Dk.used]; omega
  unfold Dk.appE
  rw [if_pos hs, if_pos hf]

set_option maxHeartbeats 8000000 in
set_option maxRecDepth 8000 in
theorem clone_law (I : Face R) {w : World} {c : Int} {a1 a2 : Option Addr} {k1 k2 : Nat} {xs ys : List Stp} (hc : I64 c) (hx : RowS w a1 xs) (hy : RowS w a2 ys) (hxl : xs.length ≤ 9223372036854775807) (hyl : ys.length ≤ 9223372036854775807) :
    Calls Try.prog 6 #[.agg #[.int .i64 c, .slice a1 xs.length k1, .slice a2 ys.length k2]] w fun e w' => e = .returned (.bool true) ∧ Below w.heap.size w w' := by
  have hbox := boxT w c a1 a2 xs.length k1 ys.length k2 24
  obtain ⟨wb, hwb⟩ : ∃ wb, wb = w.alloc (.cells #[.int .i64 c, .slice a1 xs.length k1, .slice a2 ys.length k2] 24) := ⟨_, rfl⟩
  have hb0 : Below w.heap.size w wb := by rw [hwb]; exact Below.al (Below.refl _ _) _
  rw [← hwb] at hbox
  have HI := hid I
  have HX := hid (hx.below rfl hb0)
  have HY := hid (hy.below rfl hb0)
  have HC := hid hc
  have HBX := hid hbox
  have HB0 := hid hb0
  have HWB := hid hwb
  clear I hx hy hc hbox hb0 hwb
  go_enter Try.func6, Try.ntmps6
  go_wp2_with fail
  rw [← HWB.out]
  refine (HI.out.new c wb HC.out).mono ?_
  rintro e w1 ⟨p, F, rfl, hR, hF, hb1⟩
  have c0 := (HBX.out.later rfl hb1).c0
  have H1 : Hid (R w1 F p (Dk.new c) ∧ (∀ k, F k → wb.heap.size ≤ k) ∧ Below wb.heap.size wb w1) := ⟨hR, hF, hb1⟩
  clear hR hF hb1
  by_cases hpos : 0 < c
  · have hp' : decide (0 < c) = true := decide_eq_true hpos
    have HP := hid hpos
    have HE := hid (new_app hpos 1 (.inr rfl) 99)
    have HD : Hid (cloned0 c = (Dk.new c).app 1 [99]) := by show _ = _; unfold cloned0; rw [if_pos hpos]
    clear hpos
    go_wp2_with fail
    refine (HI.out.append H1.out.1 1 (t := [99]) ⟨by omega, by omega⟩ (B8.one (by omega))).mono ?_
    rintro e w2 ⟨rfl, hm⟩
    rw [HE.out]
    have HO : Hid (One R wb w2 p (cloned0 c)) := by show One R wb w2 p _; rw [HD.out]; exact One.move H1.out.2.1 H1.out.2.2 hm
    clear hm H1
    go_wp2_with fail
    go_loopg [4] xs.length (fun g s4 wr => ∃ k : Nat, k ≤ xs.length ∧ g = xs.length - k ∧ s4 = .int .i64 k ∧ Hid (One R wb wr p ((cloned0 c).acts (xs.take k))))
    case atStart => exact ⟨0, by omega, by omega, rfl, HO⟩
    case round =>
      obtain ⟨k, hk, rfl, rfl, HK⟩ := hrel
      obtain ⟨F1, hR1, hF1, hb1⟩ := HK.out
      have c1 := (HBX.out.later rfl hb1).c1
      have H1 : Hid (R wr F1 p ((cloned0 c).acts (xs.take k)) ∧ (∀ k, F1 k → wb.heap.size ≤ k) ∧ Below wb.heap.size wb wr) := ⟨hR1, hF1, hb1⟩
      by_cases hlt : k < xs.length
      · obtain ⟨hok, b, off, rfl, d0, d1, d2, d3, d4, d5⟩ := (HX.out.below rfl hb1) k hlt
        have hs : (cloned0 c).acts (xs.take (k + 1)) = ((cloned0 c).acts (xs.take k)).act (nthS xs k) := by rw [nthS_take hlt, acts_snoc]
        have HS := hid hs
        have HOK := hid hok
        clear hR1 hF1 hb1 hs hok
        go_wp2_with fail
        refine (act_any HI.out (x := nthS xs k) H1.out.1 HOK.out).mono ?_
        rintro e w2 ⟨rfl, hm⟩
        have HO2 : Hid (One R wb w2 p ((cloned0 c).acts (xs.take (k + 1)))) := by show One R wb w2 p _; rw [HS.out]; exact One.move H1.out.2.1 H1.out.2.2 hm
        clear hm d0 d1 d2 d3 d4 d5 c1
        go_wp2_with fail
        go_roundg (xs.length - (k + 1))
        case measure => omega
        case rel => exact ⟨k + 1, by omega, rfl, by go_num, HO2⟩
      · obtain rfl : k = xs.length := by omega
        rw [List.take_of_length_le (Nat.le_refl _)] at H1
        obtain ⟨dd, hdd⟩ : ∃ dd, dd = (cloned0 c).acts xs := ⟨_, rfl⟩
        rw [← hdd] at H1
        have HDD := hid hdd
        clear hR1 hF1 hb1 hdd HK
        go_wp2_with fail
        refine (HI.out.clone H1.out.1).mono ?_
        rintro e w2 ⟨q, G, rfl, hR2, hG2, hb2⟩
        have H2 : Hid (R w2 F1 p dd ∧ R w2 G q dd ∧ (∀ k, F1 k → ¬ G k) ∧ (∀ k, G k → wb.heap.size ≤ k) ∧ Below wb.heap.size wb w2) :=
          ⟨HI.out.later H1.out.1 hb2, hR2, fun k hk hg => by have := HI.out.lt H1.out.1 k hk; have := hG2 k hg; omega, fun k hk => Nat.le_trans H1.out.2.2.size (hG2 k hk), Below.on H1.out.2.2 hb2⟩
        clear hR2 hG2 hb2
        go_wp2_with fail
        refine (HI.out.clone H2.out.1).mono ?_
        rintro e w3 ⟨r, J, rfl, hR3, hG3, hb3⟩
        have H3 : Hid (Three R wb w3 G F1 J q p r dd dd dd) :=
          ⟨HI.out.later H2.out.2.1 hb3, HI.out.later H2.out.1 hb3, hR3, fun k hk hf => H2.out.2.2.1 k hf hk, fun k hk hg => by have := HI.out.lt H2.out.2.1 k hk; have := hG3 k hg; omega,
            fun k hk hg => by have := HI.out.lt H2.out.1 k hk; have := hG3 k hg; omega, H2.out.2.2.2.1, H1.out.2.1, fun k hk => Nat.le_trans H2.out.2.2.2.2.size (hG3 k hk), Below.on H2.out.2.2.2.2 hb3⟩
        clear hR3 hG3 hb3 H2
        go_wp2_with fail
        refine (alike_is HI.out H3.out.a H3.out.b).mono ?_
        rintro e w4 ⟨rfl, hb4⟩
        have H4 := hid (H3.out.later HI.out hb4)
        clear hb4 H3
        go_wp2_with fail
        go_loopg [7] ys.length (fun g s7 wr => ∃ k : Nat, k ≤ ys.length ∧ g = ys.length - k ∧ s7 = .int .i64 k ∧ ∃ G', Hid (Three R wb wr G' F1 J q p r (dd.acts (ys.take k)) dd dd))
        case atStart => exact ⟨0, by omega, by omega, rfl, G, H4⟩
        case round =>
          obtain ⟨k, hk, rfl, rfl, G', HK⟩ := hrel
          obtain ⟨W2, hW2⟩ : ∃ W2, W2 = wr := ⟨_, rfl⟩
          rw [← hW2] at HK ⊢
          clear hW2
          have hb := HK.out.bl
          have c2 := (HBX.out.later rfl hb).c2
          by_cases hlt : k < ys.length
          · obtain ⟨hok, b, off, rfl, d0, d1, d2, d3, d4, d5⟩ := (HY.out.below rfl hb) k hlt
            have hs : dd.acts (ys.take (k + 1)) = (dd.acts (ys.take k)).act (nthS ys k) := by rw [nthS_take hlt, acts_snoc]
            have HS := hid hs
            have HOK := hid hok
            clear hs hok hb
            go_wp2_with fail
            refine (act_any HI.out (x := nthS ys k) HK.out.a HOK.out).mono ?_
            rintro e w5 ⟨rfl, hm⟩
            obtain ⟨G2, hT⟩ := HK.out.move HI.out hm
            rw [← HS.out] at hT
            have H5 := hid hT
            clear hm hT d0 d1 d2 d3 d4 d5 c2
            go_wp2_with fail
            refine (alike_is HI.out H5.out.c H5.out.b).mono ?_
            rintro e w6 ⟨rfl, hb6⟩
            have H6 := hid (H5.out.later HI.out hb6)
            clear hb6 H5
            go_wp2_with fail
            go_roundg (ys.length - (k + 1))
            case measure => omega
            case rel => exact ⟨k + 1, by omega, rfl, by go_num, G2, H6⟩
          · obtain rfl : k = ys.length := by omega
            rw [List.take_of_length_le (Nat.le_refl _)] at HK
            have c0 := (HBX.out.later rfl hb).c0
            have c1 := (HBX.out.later rfl hb).c1
            clear hb
            by_cases hz : xs.length = 0
            · have hz' : ((xs.length : Int) == 0) = true := by rw [hz]; rfl
              have hby : Hid (ofNats (dd.bytes 1) = ⟨#[99]⟩) := by
                show _ = _
                rw [HDD.out, List.length_eq_zero_iff.1 hz, show (cloned0 c).acts [] = cloned0 c from rfl, HD.out]
                have hf : ([99] : List Nat).length ≤ (Dk.new c).free := by
                  have := fit_pos HP.out
                  simp [Dk.new, Dk.free, Dk.used]; omega
                unfold Dk.app
                rw [if_pos hf]
                rfl
              have hz2 : xs = [] := List.length_eq_zero_iff.1 hz
              clear hz
              go_wp2_with fail
              refine (HI.out.bytes HK.out.c 1 ⟨by omega, by omega⟩).mono ?_
              rintro e w7 ⟨rfl, hb7⟩
              have H7 := hid (HK.out.later HI.out hb7)
              rw [hby.out]
              clear hb7
              go_wp2_with fail
              refine (HI.out.bytes H7.out.b 1 ⟨by omega, by omega⟩).mono ?_
              rintro e w8 ⟨rfl, hb8⟩
              have HL : Hid (Three R wb w8 F1 G' J p q r dd (dd.acts ys) dd) := (H7.out.later HI.out hb8).turn
              rw [hby.out]
              clear hb8 H7 HK
              go_wp2_with fail
              go_loopg [8] ys.length (fun g s8 wr => ∃ k : Nat, k ≤ ys.length ∧ g = ys.length - k ∧ s8 = .int .i64 k ∧ ∃ F', Hid (Three R wb wr F' G' J p q r (dd.acts (ys.take k)) (dd.acts ys) dd))
              case atStart => exact ⟨0, by omega, by omega, rfl, F1, HL⟩
              case round =>
                obtain ⟨k, hk, rfl, rfl, F', HK3⟩ := hrel
                obtain ⟨W3, hW3⟩ : ∃ W3, W3 = wr := ⟨_, rfl⟩
                rw [← hW3] at HK3 ⊢
                clear hW3
                have hb := HK3.out.bl
                have c2 := (HBX.out.later rfl hb).c2
                by_cases hlt : k < ys.length
                · obtain ⟨hok, b, off, rfl, d0, d1, d2, d3, d4, d5⟩ := (HY.out.below rfl hb) k hlt
                  have hs : dd.acts (ys.take (k + 1)) = (dd.acts (ys.take k)).act (nthS ys k) := by rw [nthS_take hlt, acts_snoc]
                  have HS := hid hs
                  have HOK := hid hok
                  clear hs hok hb
                  go_wp2_with fail
                  refine (act_any HI.out (x := nthS ys k) HK3.out.a HOK.out).mono ?_
                  rintro e w5 ⟨rfl, hm⟩
                  obtain ⟨F2, hT⟩ := HK3.out.move HI.out hm
                  rw [← HS.out] at hT
                  have H5 := hid hT
                  clear hm hT d0 d1 d2 d3 d4 d5 c2
                  go_wp2_with fail
                  go_roundg (ys.length - (k + 1))
                  case measure => omega
                  case rel => exact ⟨k + 1, by omega, rfl, by go_num, F2, H5⟩
                · obtain rfl : k = ys.length := by omega
                  rw [List.take_of_length_le (Nat.le_refl _)] at HK3
                  clear hb
                  go_wp2_with fail
                  refine (alike_is HI.out HK3.out.b HK3.out.a).mono ?_
                  rintro e w9 ⟨rfl, hb9⟩
                  have HBF := hid (Below.on HB0.out (Below.on HK3.out.bl hb9))
                  clear hb9
                  go_wp2_with fail
                  go_ret
                  exact ⟨rfl, HBF.out⟩
            · have hz' : ((xs.length : Int) == 0) = false := by rw [beq_eq_false_iff_ne]; omega
              have HL : Hid (Three R wb W2 F1 G' J p q r dd (dd.acts ys) dd) := HK.out.turn
              clear hz HK
              go_wp2_with fail
              go_loopg [8] ys.length (fun g s8 wr => ∃ k : Nat, k ≤ ys.length ∧ g = ys.length - k ∧ s8 = .int .i64 k ∧ ∃ F', Hid (Three R wb wr F' G' J p q r (dd.acts (ys.take k)) (dd.acts ys) dd))
              case atStart => exact ⟨0, by omega, by omega, rfl, F1, HL⟩
              case round =>
                obtain ⟨k, hk, rfl, rfl, F', HK3⟩ := hrel
                obtain ⟨W3, hW3⟩ : ∃ W3, W3 = wr := ⟨_, rfl⟩
                rw [← hW3] at HK3 ⊢
                clear hW3
                have hb := HK3.out.bl
                have c2 := (HBX.out.later rfl hb).c2
                by_cases hlt : k < ys.length
                · obtain ⟨hok, b, off, rfl, d0, d1, d2, d3, d4, d5⟩ := (HY.out.below rfl hb) k hlt
                  have hs : dd.acts (ys.take (k + 1)) = (dd.acts (ys.take k)).act (nthS ys k) := by rw [nthS_take hlt, acts_snoc]
                  have HS := hid hs
                  have HOK := hid hok
                  clear hs hok hb
                  go_wp2_with fail
                  refine (act_any HI.out (x := nthS ys k) HK3.out.a HOK.out).mono ?_
                  rintro e w5 ⟨rfl, hm⟩
                  obtain ⟨F2, hT⟩ := HK3.out.move HI.out hm
                  rw [← HS.out] at hT
                  have H5 := hid hT
                  clear hm hT d0 d1 d2 d3 d4 d5 c2
                  go_wp2_with fail
                  go_roundg (ys.length - (k + 1))
                  case measure => omega
                  case rel => exact ⟨k + 1, by omega, rfl, by go_num, F2, H5⟩
                · obtain rfl : k = ys.length := by omega
                  rw [List.take_of_length_le (Nat.le_refl _)] at HK3
                  clear hb
                  go_wp2_with fail
                  refine (alike_is HI.out HK3.out.b HK3.out.a).mono ?_
                  rintro e w9 ⟨rfl, hb9⟩
                  have HBF := hid (Below.on HB0.out (Below.on HK3.out.bl hb9))
                  clear hb9
                  go_wp2_with fail
                  go_ret
                  exact ⟨rfl, HBF.out⟩
  · have hp' : decide (0 < c) = false := decide_eq_false hpos
    have HD : Hid (cloned0 c = Dk.new c) := by show _ = _; unfold cloned0; rw [if_neg hpos]
    have HO : Hid (One R wb w1 p (cloned0 c)) := by show One R wb w1 p _; rw [HD.out]; exact ⟨F, H1.out.1, H1.out.2.1, H1.out.2.2⟩
    clear H1 hpos
    go_wp2_with fail
    go_loopg [4] xs.length (fun g s4 wr => ∃ k : Nat, k ≤ xs.length ∧ g = xs.length - k ∧ s4 = .int .i64 k ∧ Hid (One R wb wr p ((cloned0 c).acts (xs.take k))))
    case atStart => exact ⟨0, by omega, by omega, rfl, HO⟩
    case round =>
      obtain ⟨k, hk, rfl, rfl, HK⟩ := hrel
      obtain ⟨F1, hR1, hF1, hb1⟩ := HK.out
      have c1 := (HBX.out.later rfl hb1).c1
      have H1 : Hid (R wr F1 p ((cloned0 c).acts (xs.take k)) ∧ (∀ k, F1 k → wb.heap.size ≤ k) ∧ Below wb.heap.size wb wr) := ⟨hR1, hF1, hb1⟩
      by_cases hlt : k < xs.length
      · obtain ⟨hok, b, off, rfl, d0, d1, d2, d3, d4, d5⟩ := (HX.out.below rfl hb1) k hlt
        have hs : (cloned0 c).acts (xs.take (k + 1)) = ((cloned0 c).acts (xs.take k)).act (nthS xs k) := by rw [nthS_take hlt, acts_snoc]
        have HS := hid hs
        have HOK := hid hok
        clear hR1 hF1 hb1 hs hok
        go_wp2_with fail
        refine (act_any HI.out (x := nthS xs k) H1.out.1 HOK.out).mono ?_
        rintro e w2 ⟨rfl, hm⟩
        have HO2 : Hid (One R wb w2 p ((cloned0 c).acts (xs.take (k + 1)))) := by show One R wb w2 p _; rw [HS.out]; exact One.move H1.out.2.1 H1.out.2.2 hm
        clear hm d0 d1 d2 d3 d4 d5 c1
        go_wp2_with fail
        go_roundg (xs.length - (k + 1))
        case measure => omega
        case rel => exact ⟨k + 1, by omega, rfl, by go_num, HO2⟩
      · obtain rfl : k = xs.length := by omega
        rw [List.take_of_length_le (Nat.le_refl _)] at H1
        obtain ⟨dd, hdd⟩ : ∃ dd, dd = (cloned0 c).acts xs := ⟨_, rfl⟩
        rw [← hdd] at H1
        have HDD := hid hdd
        clear hR1 hF1 hb1 hdd HK
        go_wp2_with fail
        refine (HI.out.clone H1.out.1).mono ?_
        rintro e w2 ⟨q, G, rfl, hR2, hG2, hb2⟩
        have H2 : Hid (R w2 F1 p dd ∧ R w2 G q dd ∧ (∀ k, F1 k → ¬ G k) ∧ (∀ k, G k → wb.heap.size ≤ k) ∧ Below wb.heap.size wb w2) :=
          ⟨HI.out.later H1.out.1 hb2, hR2, fun k hk hg => by have := HI.out.lt H1.out.1 k hk; have := hG2 k hg; omega, fun k hk => Nat.le_trans H1.out.2.2.size (hG2 k hk), Below.on H1.out.2.2 hb2⟩
        clear hR2 hG2 hb2
        go_wp2_with fail
        refine (HI.out.clone H2.out.1).mono ?_
        rintro e w3 ⟨r, J, rfl, hR3, hG3, hb3⟩
        have H3 : Hid (Three R wb w3 G F1 J q p r dd dd dd) :=
          ⟨HI.out.later H2.out.2.1 hb3, HI.out.later H2.out.1 hb3, hR3, fun k hk hf => H2.out.2.2.1 k hf hk, fun k hk hg => by have := HI.out.lt H2.out.2.1 k hk; have := hG3 k hg; omega,
            fun k hk hg => by have := HI.out.lt H2.out.1 k hk; have := hG3 k hg; omega, H2.out.2.2.2.1, H1.out.2.1, fun k hk => Nat.le_trans H2.out.2.2.2.2.size (hG3 k hk), Below.on H2.out.2.2.2.2 hb3⟩
        clear hR3 hG3 hb3 H2
        go_wp2_with fail
        refine (alike_is HI.out H3.out.a H3.out.b).mono ?_
        rintro e w4 ⟨rfl, hb4⟩
        have H4 := hid (H3.out.later HI.out hb4)
        clear hb4 H3
        go_wp2_with fail
        go_loopg [7] ys.length (fun g s7 wr => ∃ k : Nat, k ≤ ys.length ∧ g = ys.length - k ∧ s7 = .int .i64 k ∧ ∃ G', Hid (Three R wb wr G' F1 J q p r (dd.acts (ys.take k)) dd dd))
        case atStart => exact ⟨0, by omega, by omega, rfl, G, H4⟩
        case round =>
          obtain ⟨k, hk, rfl, rfl, G', HK⟩ := hrel
          obtain ⟨W2, hW2⟩ : ∃ W2, W2 = wr := ⟨_, rfl⟩
          rw [← hW2] at HK ⊢
          clear hW2
          have hb := HK.out.bl
          have c2 := (HBX.out.later rfl hb).c2
          by_cases hlt : k < ys.length
          · obtain ⟨hok, b, off, rfl, d0, d1, d2, d3, d4, d5⟩ := (HY.out.below rfl hb) k hlt
            have hs : dd.acts (ys.take (k + 1)) = (dd.acts (ys.take k)).act (nthS ys k) := by rw [nthS_take hlt, acts_snoc]
            have HS := hid hs
            have HOK := hid hok
            clear hs hok hb
            go_wp2_with fail
            refine (act_any HI.out (x := nthS ys k) HK.out.a HOK.out).mono ?_
            rintro e w5 ⟨rfl, hm⟩
            obtain ⟨G2, hT⟩ := HK.out.move HI.out hm
            rw [← HS.out] at hT
            have H5 := hid hT
            clear hm hT d0 d1 d2 d3 d4 d5 c2
            go_wp2_with fail
            refine (alike_is HI.out H5.out.c H5.out.b).mono ?_
            rintro e w6 ⟨rfl, hb6⟩
            have H6 := hid (H5.out.later HI.out hb6)
            clear hb6 H5
            go_wp2_with fail
            go_roundg (ys.length - (k + 1))
            case measure => omega
            case rel => exact ⟨k + 1, by omega, rfl, by go_num, G2, H6⟩
          · obtain rfl : k = ys.length := by omega
            rw [List.take_of_length_le (Nat.le_refl _)] at HK
            have c0 := (HBX.out.later rfl hb).c0
            have c1 := (HBX.out.later rfl hb).c1
            clear hb
            have HL : Hid (Three R wb W2 F1 G' J p q r dd (dd.acts ys) dd) := HK.out.turn
            clear HK
            go_wp2_with fail
            go_loopg [8] ys.length (fun g s8 wr => ∃ k : Nat, k ≤ ys.length ∧ g = ys.length - k ∧ s8 = .int .i64 k ∧ ∃ F', Hid (Three R wb wr F' G' J p q r (dd.acts (ys.take k)) (dd.acts ys) dd))
            case atStart => exact ⟨0, by omega, by omega, rfl, F1, HL⟩
            case round =>
              obtain ⟨k, hk, rfl, rfl, F', HK3⟩ := hrel
              obtain ⟨W3, hW3⟩ : ∃ W3, W3 = wr := ⟨_, rfl⟩
              rw [← hW3] at HK3 ⊢
              clear hW3
              have hb := HK3.out.bl
              have c2 := (HBX.out.later rfl hb).c2
              by_cases hlt : k < ys.length
              · obtain ⟨hok, b, off, rfl, d0, d1, d2, d3, d4, d5⟩ := (HY.out.below rfl hb) k hlt
                have hs : dd.acts (ys.take (k + 1)) = (dd.acts (ys.take k)).act (nthS ys k) := by rw [nthS_take hlt, acts_snoc]
                have HS := hid hs
                have HOK := hid hok
                clear hs hok hb
                go_wp2_with fail
                refine (act_any HI.out (x := nthS ys k) HK3.out.a HOK.out).mono ?_
                rintro e w5 ⟨rfl, hm⟩
                obtain ⟨F2, hT⟩ := HK3.out.move HI.out hm
                rw [← HS.out] at hT
                have H5 := hid hT
                clear hm hT d0 d1 d2 d3 d4 d5 c2
                go_wp2_with fail
                go_roundg (ys.length - (k + 1))
                case measure => omega
                case rel => exact ⟨k + 1, by omega, rfl, by go_num, F2, H5⟩
              · obtain rfl : k = ys.length := by omega
                rw [List.take_of_length_le (Nat.le_refl _)] at HK3
                clear hb
                go_wp2_with fail
                refine (alike_is HI.out HK3.out.b HK3.out.a).mono ?_
                rintro e w9 ⟨rfl, hb9⟩
                have HBF := hid (Below.on HB0.out (Below.on HK3.out.bl hb9))
                clear hb9
                go_wp2_with fail
                go_ret
                exact ⟨rfl, HBF.out⟩

end Go.Proofs.Ytmbmagfdeadibaa
