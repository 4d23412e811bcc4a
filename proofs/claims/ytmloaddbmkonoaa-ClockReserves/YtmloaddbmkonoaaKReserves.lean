import Derived.Test.YtmloaddbmkonoaaKCrash
namespace Go.Proofs.Ytmloaddbmkonoaa
open Go.RowKit Go.Sort
set_option linter.unusedVariables false

/-- the argument's box, the book and a clock -/
structure ResAt (w W : World) (N b p : Nat) (vs : List Value) (k : Int) (u : St) (c : Ck) : Prop where
  below : Below w.heap.size w W
  box : BoxAt W N vs
  bk : BookAt W b k u true
  ck : ClockAt W p c
  nb : N ≠ b
  np : N ≠ p
  bp : b ≠ p
  b0 : w.heap.size ≤ b
  p0 : w.heap.size ≤ p
theorem ResAt.later {w W W' : World} {N b p : Nat} {vs : List Value} {k : Int} {u : St} {c : Ck} (R : ResAt w W N b p vs k u c) (hb : Below W.heap.size W W') : ResAt w W' N b p vs k u c :=
  ⟨Below.on R.below hb, R.box.later hb, R.bk.later hb, R.ck.later hb, R.nb, R.np, R.bp, R.b0, R.p0⟩
theorem ResAt.onC {w W W' : World} {N b p : Nat} {vs : List Value} {k : Int} {u : St} {c c' : Ck} (R : ResAt w W N b p vs k u c) (ho : Only p W W') (h : ClockAt W' p c') : ResAt w W' N b p vs k u c' :=
  ⟨R.below.trans (ho.below R.p0 R.below.size), R.box.only ho R.np, R.bk.only ho R.bp, h, R.nb, R.np, R.bp, R.b0, R.p0⟩
theorem ResAt.on2 {w W W' : World} {N b p : Nat} {vs : List Value} {k k' : Int} {u u' : St} {c c' : Ck} (R : ResAt w W N b p vs k u c) (ho : Only2 b p W W') (hb : BookAt W' b k' u' true) (h : ClockAt W' p c') : ResAt w W' N b p vs k' u' c' :=
  ⟨R.below.trans (ho.below R.b0 R.p0 R.below.size), R.box.only2 ho R.nb R.np, hb, h, R.nb, R.np, R.bp, R.b0, R.p0⟩
theorem ResAt.reopen {w W W' : World} {N b p q : Nat} {vs : List Value} {k : Int} {u : St} {c c' : Ck} (R : ResAt w W N b p vs k u c) (hN : N < W.heap.size) (hb : Below W.heap.size W W') (hq : W.heap.size ≤ q) (h : ClockAt W' q c') : ResAt w W' N b q vs k u c' :=
  ⟨Below.on R.below hb, R.box.later hb, R.bk.later hb, h, R.nb, by omega, by have := R.bk.lt; omega, R.b0, by have := R.below.size; omega⟩

set_option maxRecDepth 8000 in
set_option maxHeartbeats 8000000 in
theorem reserves_walk (n g c : Int) (a : Option Addr) (len cap : Nat) (f : Nat → SStep) (w : World) (hn : U32 n) (hg : U64 g) (hc : U64 c) (hm : len ≤ 9223372036854775807) (hrow : StepRow w a len f) (hok : ∀ i, i < len → (f i).ok) :
    Calls Try.prog 6 #[.agg #[.int .u32 n, .int .u64 g, .int .u64 c, .slice a len cap]] w fun e w' => e = .returned (.bool true) ∧ Below w.heap.size w w' := by
  have z64 : U64 0 := ⟨by decide, by decide⟩
  have z32 : U32 0 := ⟨by decide, by decide⟩
  have KOK : Hid (∀ kp ri (l : St), U64 kp → U64 ri → l.ok → Ck.ok ⟨g, kp, n, ri, l⟩) := fun kp ri l h1 h2 h3 => ⟨hg, h1, hn, h2, h3⟩
  have HROW := hid hrow
  have HOK := hid hok
  have HC0 : Hid (Ck.ok ⟨g, 0, n, 0, zst⟩) := ⟨hg, z64, hn, z64, ⟨z64, z32, z32⟩⟩
  have HZ : Hid (U64 0 ∧ U32 0) := ⟨z64, z32⟩
  clear hrow hok hn hg hc z32 z64
  go_enter Try.func6, Try.ntmps6
  go_wp2_with (first
    | (go_at_call 16; refine (new_at (q := w.heap.size + 1) (by simp)).mono ?_; rintro e w1 ⟨rfl, hb1, hc1⟩; have B1 := (box_at w [.int .u32 n, .int .u64 g, .int .u64 c, .slice a len cap] 26).later hb1; have hw1 := Below.on (al_below w _) hb1; have x0 := B1 0 _ rfl; have x1 := B1 1 _ rfl; have x2 := B1 2 _ rfl; have x3 := B1 3 _ rfl; have hsz : w.heap.size + 1 < w1.heap.size := hc1.lt; have hszN : w.heap.size < w1.heap.size := (by omega))
    | (go_at_call 19; refine (begun_any w1.heap.size (w.heap.size + 1) g n c _ ⟨_, _, _, rfl⟩ _ HC0.out (hc1.later (al_below w1 _)) ⟨by simp [go_sem], by simp [go_sem, zst], by simp [go_sem, zst], by simp [go_sem, zst], by simp [go_sem], fun o => by simp [go_sem]⟩ (by omega)).mono ?_; rintro e w2 ⟨rfl, ho, K, l, U, I, hB, hK⟩; have R2 := hid (show ResAt w w2 w.heap.size w1.heap.size (w.heap.size + 1) [.int .u32 n, .int .u64 g, .int .u64 c, .slice a len cap] K U ⟨g, K, n, 5, l⟩ from ⟨(Below.on hw1 (al_below w1 _)).trans (ho.below (by omega) (by omega) (by have := (Below.on hw1 (al_below w1 (.cells #[.int .u64 0, .int .u64 0, .int .u32 0, .int .u32 0, .bool false] 55))).size; exact this)), (B1.later (al_below w1 _)).only2 ho (by omega) (by omega), hB, hK, by omega, by omega, by omega, by omega, by omega⟩); have I2 := hid I; clear ho hB hK I))
  obtain ⟨b, hb⟩ : ∃ b, b = w1.heap.size := ⟨_, rfl⟩
  rw [← hb] at R2
  rw [← hb]
  clear hb hb1 hc1 B1 hw1 x0 x1 x2 x3 hsz hszN HC0
  go_loopg [3, 5, 6] len (fun gg s3 s5 s6 wr => ∃ (k p : Nat) (K r : Int) (l U : St), k ≤ len ∧ gg = len - k ∧ s3 = .pointer (some ⟨p, 0, none⟩) ∧ s5 = .bool true ∧ s6 = .int .i64 k ∧ ResI K r l U ∧ ResAt w wr w.heap.size b p [.int .u32 n, .int .u64 g, .int .u64 c, .slice a len cap] K U ⟨g, K, n, r, l⟩)
  case atStart => exact ⟨0, _, K, 5, l, U, by omega, by omega, rfl, rfl, rfl, I2.out, R2.out⟩
  case round =>
    clear R2 I2
    obtain ⟨k, p, K, r, ⟨lw, ll, ln⟩, U, hk, rfl, rfl, rfl, rfl, I, R⟩ := hrel
    have x0 := R.box 0 _ rfl
    have x1 := R.box 1 _ rfl
    have x2 := R.box 2 _ rfl
    have x3 := R.box 3 _ rfl
    have hN : w.heap.size < wr.heap.size := World.block_lt_of_cell? _ _ x0
    have hpw : p < wr.heap.size := R.ck.lt
    have hbw : b < wr.heap.size := R.bk.lt
    by_cases hlt : k < len
    · obtain ⟨bb, off, rfl, d0, d1, d2, d3, d4⟩ := HROW.out.later R.below k hlt
      have hst := HOK.out k hlt
      generalize f k = x at d0 d1 d2 d3 d4 hst
      obtain ⟨kd, wl, s0, s1, s2⟩ := x
      obtain ⟨hwl, hss⟩ := hst
      dsimp only at d0 d1 d2 d3 d4 hwl hss
      have hn8 : wr.heap.size ≠ p := by omega
      have hn9 : wr.heap.size ≠ b := by omega
      by_cases h1 : kd = 1
      · subst h1
        have HOA := hid (box_at wr [.int .i64 1, .int .u64 wl, .int .u64 s0, .int .u32 s1, .int .u32 s2] 32)
        have HRA := hid (R.later (al_below wr (.cells [.int .i64 1, .int .u64 wl, .int .u64 s0, .int .u32 s1, .int .u32 s2].toArray 32)))
        have HI := hid I
        clear R I
        go_wp2_with (first
          | (go_at_call 10; refine (read_any _ _ wl _ HRA.out.ck).mono ?_; rintro e w5 ⟨rfl, ho, hk5⟩; have R5 := hid (HRA.out.onC ho hk5); clear ho hk5))
        go_roundg (len - (k + 1))
        case measure => omega
        case rel => exact ⟨k + 1, p, K, wl, ⟨lw, ll, ln⟩, U, by omega, rfl, rfl, rfl, by go_num, ⟨HI.out.uk, hwl, HI.out.ul, HI.out.low, HI.out.last⟩, R5.out⟩
      · have h1' : (kd == 1) = false := beq_eq_false_iff_ne.2 h1
        by_cases h2 : kd = 2
        · subst h2
          have HOA := hid (box_at wr [.int .i64 2, .int .u64 wl, .int .u64 s0, .int .u32 s1, .int .u32 s2] 32)
          have HRA := hid (R.later (al_below wr (.cells [.int .i64 2, .int .u64 wl, .int .u64 s0, .int .u32 s1, .int .u32 s2].toArray 32)))
          have HI := hid I
          clear R I
          go_wp2_with (first
            | (go_at_call 20; refine (ticked_any b p g K n r ⟨lw, ll, ln⟩ U true _ (KOK.out _ _ _ HI.out.uk HI.out.ur HI.out.ul) HRA.out.ck HRA.out.bk HRA.out.bp HI.out).mono ?_; rintro e w5 ⟨rfl, ho, K', l', U', I', hB, hK⟩; have R5 := hid (HRA.out.on2 ho hB hK); have I5 := hid I'; clear ho hB hK I'))
          go_roundg (len - (k + 1))
          case measure => omega
          case rel => exact ⟨k + 1, p, K', r, l', U', by omega, rfl, rfl, rfl, by go_num, I5.out, R5.out⟩
        · have h2' : (kd == 2) = false := beq_eq_false_iff_ne.2 h2
          by_cases h5 : kd = 5
          · subst h5
            have HOA := hid (box_at wr [.int .i64 5, .int .u64 wl, .int .u64 s0, .int .u32 s1, .int .u32 s2] 32)
            have HRA := hid (R.later (al_below wr (.cells [.int .i64 5, .int .u64 wl, .int .u64 s0, .int .u32 s1, .int .u32 s2].toArray 32)))
            have HI := hid I
            clear R I
            go_wp2_with (first
              | (go_at_call 20; refine (ticked_any b p g K n r ⟨lw, ll, ln⟩ U false _ (KOK.out _ _ _ HI.out.uk HI.out.ur HI.out.ul) HRA.out.ck HRA.out.bk HRA.out.bp HI.out).mono ?_; rintro e w5 ⟨rfl, ho, K', l', U', I', hB, hK⟩; have R5 := hid (HRA.out.on2 ho hB hK); have I5 := hid I'; clear ho hB hK I'))
            go_roundg (len - (k + 1))
            case measure => omega
            case rel => exact ⟨k + 1, p, K', r, l', U', by omega, rfl, rfl, rfl, by go_num, I5.out, R5.out⟩
          · have h5' : (kd == 5) = false := beq_eq_false_iff_ne.2 h5
            by_cases h3 : kd = 3
            · subst h3
              have HOA := hid (box_at wr [.int .i64 3, .int .u64 wl, .int .u64 s0, .int .u32 s1, .int .u32 s2] 32)
              have HRA := hid (R.later (al_below wr (.cells [.int .i64 3, .int .u64 wl, .int .u64 s0, .int .u32 s1, .int .u32 s2].toArray 32)))
              have HI := hid I
              clear R I
              by_cases ht : s0 = 18446744073709551615
              · have HE : Hid (obsE ⟨s0, s1, s2⟩ = 11) := by show _ = _; unfold obsE; rw [if_pos ht]
                have HO : Hid (obsC ⟨g, K, n, r, ⟨lw, ll, ln⟩⟩ ⟨s0, s1, s2⟩ = ⟨g, K, n, r, ⟨lw, ll, ln⟩⟩) := by show _ = _; unfold obsC; rw [if_pos ht]
                clear ht
                go_wp2_with (first
                  | (go_at_call 12; refine (observe_is HE.out HO.out _ HRA.out.ck (KOK.out _ _ _ HI.out.uk HI.out.ur HI.out.ul)).mono ?_; rintro e w5 ⟨rfl, ho, hk5⟩; have R5 := hid (HRA.out.onC ho hk5); clear ho hk5))
                go_roundg (len - (k + 1))
                case measure => omega
                case rel => exact ⟨k + 1, p, K, r, ⟨lw, ll, ln⟩, U, by omega, rfl, rfl, rfl, by go_num, HI.out, R5.out⟩
              · have HE : Hid (obsE ⟨s0, s1, s2⟩ = 0) := by show _ = _; unfold obsE; rw [if_neg ht]
                obtain ⟨L, hL⟩ : ∃ L : St, (if St.less ⟨lw, ll, ln⟩ ⟨s0, s1, s2⟩ then ⟨s0, s1, s2⟩ else ⟨lw, ll, ln⟩) = L := ⟨_, rfl⟩
                have HO : Hid (obsC ⟨g, K, n, r, ⟨lw, ll, ln⟩⟩ ⟨s0, s1, s2⟩ = ⟨g, K, n, r, L⟩) := by show _ = _; rw [← hL]; unfold obsC; rw [if_neg ht]
                have HL : Hid (L.ok ∧ L.less U = false ∧ L.less ⟨s0, s1, s2⟩ = false) := by
                  show _ ∧ _
                  rw [← hL]
                  cases hv : St.less ⟨lw, ll, ln⟩ ⟨s0, s1, s2⟩ with
                  | true => exact ⟨hss, (less_chain hv HI.out.last).2, less_irr _ _ _⟩
                  | false => exact ⟨HI.out.ul, HI.out.last, hv⟩
                have HT := hid ht
                clear ht hL
                go_wp2_with (first
                  | (go_at_call 12; refine (observe_is HE.out HO.out _ HRA.out.ck (KOK.out _ _ _ HI.out.uk HI.out.ur HI.out.ul)).mono ?_; rintro e w5 ⟨rfl, ho, hk5⟩; have R5 := hid (HRA.out.onC ho hk5); have O5 := HOA.out.only ho hn8; have z2 := O5 2 _ rfl; have z3 := O5 3 _ rfl; have z4 := O5 4 _ rfl; clear ho hk5 O5)
                  | (go_at_call 21; refine (use_any b p g K n r L ⟨s0, s1, s2⟩ U true _ (KOK.out _ _ _ HI.out.uk HI.out.ur HL.out.1) hss HT.out R5.out.ck R5.out.bk R5.out.bp).mono ?_; rintro e w6 ⟨rfl, ho, K', U', hU, -, hB, hK⟩; have R6 := hid (R5.out.on2 ho hB hK); have HU := hid hU; clear ho hB hK hU))
                have I6 : Hid (ResI K' r L U') := by
                  obtain ⟨k1, k2, k3, k4⟩ := HU.out
                  refine ⟨k1, HI.out.ur, HL.out.1, ?_, ?_⟩
                  · rcases k4 with rfl | rfl
                    · exact k2
                    · have := HI.out.low
                      omega
                  · rcases k4 with rfl | rfl
                    · exact HL.out.2.2
                    · exact HL.out.2.1
                go_roundg (len - (k + 1))
                case measure => omega
                case rel => exact ⟨k + 1, p, K', r, L, U', by omega, rfl, rfl, rfl, by go_num, I6.out, R6.out⟩
            · have h3' : (kd == 3) = false := beq_eq_false_iff_ne.2 h3
              by_cases h4 : kd = 4
              · subst h4
                have HOA := hid (box_at wr [.int .i64 4, .int .u64 wl, .int .u64 s0, .int .u32 s1, .int .u32 s2] 32)
                have HRA := hid (R.later (al_below wr (.cells [.int .i64 4, .int .u64 wl, .int .u64 s0, .int .u32 s1, .int .u32 s2].toArray 32)))
                have HI := hid I
                clear R I
                obtain ⟨uw, ul, un⟩ := U
                go_wp2_with (first
                  | (go_at_call 22; refine (crash_any b g K n c uw ul un _ ⟨_, _, _, rfl⟩ _ HRA.out.bk HI.out.low).mono ?_; rintro e w5 ⟨q, rfl, hb5, hq, hk5⟩; have R5 := hid (HRA.out.reopen (Nat.lt_trans hN (by simp)) hb5 hq hk5); clear hb5 hq hk5))
                go_roundg (len - (k + 1))
                case measure => omega
                case rel => exact ⟨k + 1, q, K, 0, ⟨K, 0, 0⟩, ⟨uw, ul, un⟩, by omega, rfl, rfl, rfl, by go_num, ⟨HI.out.uk, HZ.out.1, ⟨HI.out.uk, HZ.out.2, HZ.out.2⟩, HI.out.low, lessB_iff_false.2 (by have := HI.out.low; dsimp only at this ⊢; omega)⟩, R5.out⟩
              · have h4' : (kd == 4) = false := beq_eq_false_iff_ne.2 h4
                have HOA := hid (box_at wr [.int .i64 kd, .int .u64 wl, .int .u64 s0, .int .u32 s1, .int .u32 s2] 32)
                have HRA := hid (R.later (al_below wr (.cells [.int .i64 kd, .int .u64 wl, .int .u64 s0, .int .u32 s1, .int .u32 s2].toArray 32)))
                have HI := hid I
                clear R I
                go_wp2_with fail
                go_roundg (len - (k + 1))
                case measure => omega
                case rel => exact ⟨k + 1, p, K, r, ⟨lw, ll, ln⟩, U, by omega, rfl, rfl, rfl, by go_num, HI.out, HRA.out⟩
    · have HR := hid R
      have HI := hid I
      clear R I
      obtain ⟨uw, ul, un⟩ := U
      go_wp2_with (first
        | (go_at_call 22; refine (crash_any b g K n c uw ul un _ ⟨_, _, _, rfl⟩ _ HR.out.bk HI.out.low).mono ?_; rintro e w5 ⟨q, rfl, hb5, hq, hk5⟩; have R5 := hid (HR.out.reopen hN hb5 hq hk5); clear hb5 hq hk5))
      go_ret
      exact ⟨rfl, R5.out.below⟩

end Go.Proofs.Ytmloaddbmkonoaa
