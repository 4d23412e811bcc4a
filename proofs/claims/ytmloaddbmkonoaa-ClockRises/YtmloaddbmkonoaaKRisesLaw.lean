import Derived.Test.YtmloaddbmkonoaaKLife
namespace Go.Proofs.Ytmloaddbmkonoaa
open Go.RowKit Go.Sort
set_option linter.unusedVariables false

set_option maxRecDepth 8000 in
set_option maxHeartbeats 8000000 in
theorem risesLaw_walk (n g c : Int) (a : Option Addr) (len cap : Nat) (f : Nat → SStep) (w : World) (hn : U32 n) (hg : U64 g) (hc : U64 c) (hm : len ≤ 9223372036854775807) (hrow : StepRow w a len f) (hok : ∀ i, i < len → (f i).ok) :
    Calls Try.prog 4 #[.agg #[.int .u32 n, .int .u64 g, .int .u64 c, .slice a len cap]] w fun e w' => e = .returned (.bool true) ∧ Below w.heap.size w w' := by
  have z64 : U64 0 := ⟨by decide, by decide⟩
  have z32 : U32 0 := ⟨by decide, by decide⟩
  have KOK : Hid (∀ ri (l : St), U64 ri → l.ok → Ck.ok ⟨g, c, n, ri, l⟩) := fun ri l h2 h3 => ⟨hg, hc, hn, h2, h3⟩
  have HROW := hid hrow
  have HOK := hid hok
  have hl0 : St.ok ⟨c, 0, 0⟩ := ⟨hc, z32, z32⟩
  clear hrow hok hn hg hc z32
  go_enter Try.func4, Try.ntmps4
  go_wp2_with (first
    | (go_at_call 9; refine (reopen_at (q := w.heap.size + 1) (by simp)).mono ?_; rintro e w1 ⟨rfl, hb1, hc1⟩; have B1 := (box_at w [.int .u32 n, .int .u64 g, .int .u64 c, .slice a len cap] 26).later hb1; have hw1 := Below.on (al_below w _) hb1; have x2 := B1 2 _ rfl; have hsz : w.heap.size + 1 < w1.heap.size := hc1.lt))
  have R0 : LifeAt w (w3c w1 c 0 0) w.heap.size (w.heap.size + 1) w1.heap.size [.int .u32 n, .int .u64 g, .int .u64 c, .slice a len cap] ⟨g, c, n, 0, ⟨c, 0, 0⟩⟩ ⟨c, 0, 0⟩ :=
    ⟨Below.on hw1 (w3c_below _ _ _ _), B1.later (w3c_below _ _ _ _), hc1.later (w3c_below _ _ _ _), w3c_at _ _ _ _, w3c_loose _ _ _ _, Nat.le_refl _, by omega, by omega, by omega, by omega, hw1.size⟩
  have HR0 := hid R0
  have hq0 := hw1.size
  obtain ⟨q, hq⟩ : ∃ q, q = w1.heap.size := ⟨_, rfl⟩
  rw [← hq] at HR0
  clear R0 B1 hb1 hc1 x2 hw1
  go_loopg [5, 6] len (fun gg s5 s6 wr => ∃ (k : Nat) (r : Int) (l : St), k ≤ len ∧ gg = len - k ∧ s5 = .int .u64 r ∧ s6 = .int .i64 k ∧ U64 r ∧ l.ok ∧ LifeAt w wr w.heap.size (w.heap.size + 1) w1.heap.size [.int .u32 n, .int .u64 g, .int .u64 c, .slice a len cap] ⟨g, c, n, r, l⟩ l)
  case atStart => exact ⟨0, 0, ⟨c, 0, 0⟩, by omega, by omega, rfl, rfl, z64, hl0, hq ▸ HR0.out⟩
  case round =>
    obtain ⟨k, r, ⟨lw, ll, ln⟩, hk, rfl, rfl, rfl, hr, hl, R⟩ := hrel
    have hsz0 : w.heap.size + 1 < wr.heap.size := R.ck.lt
    have hqw : w1.heap.size < wr.heap.size := R.hi.lt
    have hN : w.heap.size < wr.heap.size := by omega
    have x3 := R.box 3 _ rfl
    have x0 := R.box 0 _ rfl
    clear HR0 hq
    by_cases hlt : k < len
    · obtain ⟨bb, off, rfl, d0, d1, d2, d3, d4⟩ := HROW.out.later R.below k hlt
      have hst := HOK.out k hlt
      generalize f k = x at d0 d1 d2 d3 d4 hst
      obtain ⟨kd, wl, s0, s1, s2⟩ := x
      obtain ⟨hwl, hss⟩ := hst
      dsimp only at d0 d1 d2 d3 d4 hwl hss
      have hn8 : wr.heap.size ≠ w.heap.size + 1 := by omega
      have hn9 : wr.heap.size ≠ w1.heap.size := by omega
      by_cases h1 : kd = 1
      · subst h1
        have OA := box_at wr [.int .i64 1, .int .u64 wl, .int .u64 s0, .int .u32 s1, .int .u32 s2] 32
        have RA := R.later (al_below wr (.cells [.int .i64 1, .int .u64 wl, .int .u64 s0, .int .u32 s1, .int .u32 s2].toArray 32))
        have HRA := hid RA
        have HOA := hid OA
        clear RA OA R
        have q1 : ∀ w, (binOp .neq 30 (stv lw ll ln) (stv lw ll ln)).run Try.prog w = .ok (.bool false) w := fun w => by rw [run_ne, sameB_self]; rfl
        have HLT : Hid (lessB lw ll ln lw ll ln = false) := less_irr _ _ _
        go_wp2_with (first
          | (go_at_call 10; refine (read_any _ _ wl _ HRA.out.ck).mono ?_; rintro e w5 ⟨rfl, ho, hk5⟩; have R5 := hid (HRA.out.onC ho hk5); have O5 := hid (HOA.out.only ho hn8); have z1 := O5.out 1 _ rfl; clear ho hk5)
          | (have hh := R5; go_at_call 13; refine (last_any _ _ _ (R5.out).ck).mono ?_; rintro e w8 ⟨rfl, hb8⟩; have R8 := hid ((R5.out).later hb8); have O8 := hid ((O5.out).later hb8); have ⟨y0, y1, y2⟩ := R8.out.hi; have hq8 := R8.out.hi.lt; clear hb8 hh R5 O5)
          | (have hh := R8; go_at_call 15; refine (after_is HLT.out _).mono ?_; rintro e w9 ⟨rfl, hb9⟩; have R9 := hid ((R8.out.later (w3c_below w8 lw ll ln)).later hb9); have O9 := hid ((O8.out.later (w3c_below w8 lw ll ln)).later hb9); have ⟨t0, t1, t2⟩ := (w3c_at w8 lw ll ln).later hb9; have ⟨y0, y1, y2⟩ := R9.out.hi; have kf : ∀ o, w9.frozen? ⟨w1.heap.size, o, none⟩ = false := R9.out.loose; have z0 := O9.out 0 _ rfl; clear hb9 hh R8 O8))
        go_roundg (len - (k + 1))
        case measure => omega
        case rel => exact ⟨k + 1, wl, ⟨lw, ll, ln⟩, by omega, rfl, rfl, by go_num, hwl, hl, R9.out.put ⟨lw, ll, ln⟩⟩
      · by_cases h2 : kd = 2
        · subst h2
          have OA := box_at wr [.int .i64 2, .int .u64 wl, .int .u64 s0, .int .u32 s1, .int .u32 s2] 32
          have RA := R.later (al_below wr (.cells [.int .i64 2, .int .u64 wl, .int .u64 s0, .int .u32 s1, .int .u32 s2].toArray 32))
          have HRA := hid RA
          have HOA := hid OA
          clear RA OA R
          obtain ⟨⟨lw', ll', ln'⟩, HT, hl', hlt'⟩ := tick_shape (KOK.out r ⟨lw, ll, ln⟩ hr hl)
          have HLT : Hid (lessB lw' ll' ln' lw ll ln = false) := hlt'
          have HT' := hid HT
          clear hlt' HT
          go_wp2_with (first
            | (go_at_call 14; refine (rises_any _ ⟨g, c, n, r, ⟨lw, ll, ln⟩⟩ _ HRA.out.ck (KOK.out r _ hr hl)).mono ?_; rw [HT'.out]; rintro e w5 ⟨rfl, ho, hk5⟩; have R5 := hid (HRA.out.onC ho hk5); have O5 := hid (HOA.out.only ho hn8); clear ho hk5)
            | (have hh := R5; go_at_call 13; refine (last_any _ _ _ (R5.out).ck).mono ?_; rintro e w8 ⟨rfl, hb8⟩; have R8 := hid ((R5.out).later hb8); have O8 := hid ((O5.out).later hb8); have ⟨y0, y1, y2⟩ := R8.out.hi; have hq8 := R8.out.hi.lt; clear hb8 hh R5 O5)
            | (have hh := R8; go_at_call 15; refine (after_is HLT.out _).mono ?_; rintro e w9 ⟨rfl, hb9⟩; have R9 := hid ((R8.out.later (w3c_below w8 lw' ll' ln')).later hb9); have O9 := hid ((O8.out.later (w3c_below w8 lw' ll' ln')).later hb9); have ⟨t0, t1, t2⟩ := (w3c_at w8 lw' ll' ln').later hb9; have ⟨y0, y1, y2⟩ := R9.out.hi; have kf : ∀ o, w9.frozen? ⟨w1.heap.size, o, none⟩ = false := R9.out.loose; have z0 := O9.out 0 _ rfl; clear hb9 hh R8 O8))
          go_roundg (len - (k + 1))
          case measure => omega
          case rel => exact ⟨k + 1, r, ⟨lw', ll', ln'⟩, by omega, rfl, rfl, by go_num, hr, hl', R9.out.put ⟨lw', ll', ln'⟩⟩
        · have h2' : (kd == 2) = false := beq_eq_false_iff_ne.2 h2
          have h1' : (kd == 1) = false := beq_eq_false_iff_ne.2 h1
          by_cases h3 : kd = 3
          · subst h3
            have OA := box_at wr [.int .i64 3, .int .u64 wl, .int .u64 s0, .int .u32 s1, .int .u32 s2] 32
            have RA := R.later (al_below wr (.cells [.int .i64 3, .int .u64 wl, .int .u64 s0, .int .u32 s1, .int .u32 s2].toArray 32))
            have HRA := hid RA
            have HOA := hid OA
            clear RA OA R
            by_cases ht : s0 = 18446744073709551615
            · have HE : Hid (obsE ⟨s0, s1, s2⟩ = 11) := by show _ = _; unfold obsE; rw [if_pos ht]
              have HO : Hid (obsC ⟨g, c, n, r, ⟨lw, ll, ln⟩⟩ ⟨s0, s1, s2⟩ = ⟨g, c, n, r, ⟨lw, ll, ln⟩⟩) := by show _ = _; unfold obsC; rw [if_pos ht]
              have ht' : (s0 != 18446744073709551615) = false := by simp [ht]
              have q1 : ∀ w, (binOp .neq 30 (stv lw ll ln) (stv lw ll ln)).run Try.prog w = .ok (.bool false) w := fun w => by rw [run_ne, sameB_self]; rfl
              have HLT : Hid (lessB lw ll ln lw ll ln = false) := less_irr _ _ _
              clear ht
              go_wp2_with (first
                | (go_at_call 12; refine (observe_is HE.out HO.out _ HRA.out.ck (KOK.out r _ hr hl)).mono ?_; rintro e w5 ⟨rfl, ho, hk5⟩; have R5 := hid (HRA.out.onC ho hk5); have O5 := hid (HOA.out.only ho hn8); have z2 := O5.out 2 _ rfl; have z3 := O5.out 3 _ rfl; have z4 := O5.out 4 _ rfl; have ⟨y0, y1, y2⟩ := R5.out.hi; clear ho hk5)
                | (have hh := R5; go_at_call 13; refine (last_any _ _ _ (R5.out).ck).mono ?_; rintro e w8 ⟨rfl, hb8⟩; have R8 := hid ((R5.out).later hb8); have O8 := hid ((O5.out).later hb8); have ⟨y0, y1, y2⟩ := R8.out.hi; have hq8 := R8.out.hi.lt; clear hb8 hh R5 O5)
                | (have hh := R8; go_at_call 15; refine (after_is HLT.out _).mono ?_; rintro e w9 ⟨rfl, hb9⟩; have R9 := hid ((R8.out.later (w3c_below w8 lw ll ln)).later hb9); have O9 := hid ((O8.out.later (w3c_below w8 lw ll ln)).later hb9); have ⟨t0, t1, t2⟩ := (w3c_at w8 lw ll ln).later hb9; have ⟨y0, y1, y2⟩ := R9.out.hi; have kf : ∀ o, w9.frozen? ⟨w1.heap.size, o, none⟩ = false := R9.out.loose; have z0 := O9.out 0 _ rfl; clear hb9 hh R8 O8))
              go_roundg (len - (k + 1))
              case measure => omega
              case rel => exact ⟨k + 1, r, ⟨lw, ll, ln⟩, by omega, rfl, rfl, by go_num, hr, hl, R9.out.put ⟨lw, ll, ln⟩⟩
            · have HE : Hid (obsE ⟨s0, s1, s2⟩ = 0) := by show _ = _; unfold obsE; rw [if_neg ht]
              have ht' : (s0 != 18446744073709551615) = true := by simp [ht]
              cases hv : St.less ⟨lw, ll, ln⟩ ⟨s0, s1, s2⟩ with
              | true =>
                have HO : Hid (obsC ⟨g, c, n, r, ⟨lw, ll, ln⟩⟩ ⟨s0, s1, s2⟩ = ⟨g, c, n, r, ⟨s0, s1, s2⟩⟩) := by show _ = _; unfold obsC; rw [if_neg ht, hv]; rfl
                have HV : Hid (lessB lw ll ln s0 s1 s2 = true) := hv
                have q1 : ∀ w, (binOp .neq 30 (stv s0 s1 s2) (stv s0 s1 s2)).run Try.prog w = .ok (.bool false) w := fun w => by rw [run_ne, sameB_self]; rfl
                have HLT : Hid (lessB s0 s1 s2 s0 s1 s2 = false) := less_irr _ _ _
                clear ht hv
                go_wp2_with (first
                  | (go_at_call 12; refine (observe_is HE.out HO.out _ HRA.out.ck (KOK.out r _ hr hl)).mono ?_; rintro e w5 ⟨rfl, ho, hk5⟩; have R5 := hid (HRA.out.onC ho hk5); have O5 := hid (HOA.out.only ho hn8); have z2 := O5.out 2 _ rfl; have z3 := O5.out 3 _ rfl; have z4 := O5.out 4 _ rfl; have ⟨y0, y1, y2⟩ := R5.out.hi; clear ho hk5)
                  | (have hh := R5; go_at_call 15; refine (after_is HV.out _).mono ?_; rintro e w6 ⟨rfl, hb6⟩; have R6 := hid (R5.out.later hb6); have O6 := hid (O5.out.later hb6); have z2 := O6.out 2 _ rfl; have z3 := O6.out 3 _ rfl; have z4 := O6.out 4 _ rfl; have ⟨y0, y1, y2⟩ := R6.out.hi; have kf : ∀ o, w6.frozen? ⟨w1.heap.size, o, none⟩ = false := R6.out.loose; clear hb6 hh R5 O5)
                  | (have hh := R6; go_at_call 13; refine (last_any _ _ _ (R6.out.put ⟨s0, s1, s2⟩).ck).mono ?_; rintro e w8 ⟨rfl, hb8⟩; have R8 := hid ((R6.out.put ⟨s0, s1, s2⟩).later hb8); have O8 := hid ((O6.out.only (put_only w6 w1.heap.size s0 s1 s2) hn9).later hb8); have ⟨y0, y1, y2⟩ := R8.out.hi; have hq8 := R8.out.hi.lt; clear hb8 hh R6 O6)
                  | (have hh := R8; go_at_call 15; refine (after_is HLT.out _).mono ?_; rintro e w9 ⟨rfl, hb9⟩; have R9 := hid ((R8.out.later (w3c_below w8 s0 s1 s2)).later hb9); have O9 := hid ((O8.out.later (w3c_below w8 s0 s1 s2)).later hb9); have ⟨t0, t1, t2⟩ := (w3c_at w8 s0 s1 s2).later hb9; have ⟨y0, y1, y2⟩ := R9.out.hi; have kf : ∀ o, w9.frozen? ⟨w1.heap.size, o, none⟩ = false := R9.out.loose; have z0 := O9.out 0 _ rfl; clear hb9 hh R8 O8))
                go_roundg (len - (k + 1))
                case measure => omega
                case rel => exact ⟨k + 1, r, ⟨s0, s1, s2⟩, by omega, rfl, rfl, by go_num, hr, hss, R9.out.put ⟨s0, s1, s2⟩⟩
              | false =>
                have HO : Hid (obsC ⟨g, c, n, r, ⟨lw, ll, ln⟩⟩ ⟨s0, s1, s2⟩ = ⟨g, c, n, r, ⟨lw, ll, ln⟩⟩) := by show _ = _; unfold obsC; rw [if_neg ht, hv]; rfl
                have HV : Hid (lessB lw ll ln s0 s1 s2 = false) := hv
                have q1 : ∀ w, (binOp .neq 30 (stv lw ll ln) (stv lw ll ln)).run Try.prog w = .ok (.bool false) w := fun w => by rw [run_ne, sameB_self]; rfl
                have HLT : Hid (lessB lw ll ln lw ll ln = false) := less_irr _ _ _
                clear ht hv
                go_wp2_with (first
                  | (go_at_call 12; refine (observe_is HE.out HO.out _ HRA.out.ck (KOK.out r _ hr hl)).mono ?_; rintro e w5 ⟨rfl, ho, hk5⟩; have R5 := hid (HRA.out.onC ho hk5); have O5 := hid (HOA.out.only ho hn8); have z2 := O5.out 2 _ rfl; have z3 := O5.out 3 _ rfl; have z4 := O5.out 4 _ rfl; have ⟨y0, y1, y2⟩ := R5.out.hi; clear ho hk5)
                  | (have hh := R5; go_at_call 15; refine (after_is HV.out _).mono ?_; rintro e w6 ⟨rfl, hb6⟩; have R6 := hid (R5.out.later hb6); have O6 := hid (O5.out.later hb6); clear hb6 hh R5 O5)
                  | (have hh := R6; go_at_call 13; refine (last_any _ _ _ (R6.out).ck).mono ?_; rintro e w8 ⟨rfl, hb8⟩; have R8 := hid ((R6.out).later hb8); have O8 := hid ((O6.out).later hb8); have ⟨y0, y1, y2⟩ := R8.out.hi; have hq8 := R8.out.hi.lt; clear hb8 hh R6 O6)
                  | (have hh := R8; go_at_call 15; refine (after_is HLT.out _).mono ?_; rintro e w9 ⟨rfl, hb9⟩; have R9 := hid ((R8.out.later (w3c_below w8 lw ll ln)).later hb9); have O9 := hid ((O8.out.later (w3c_below w8 lw ll ln)).later hb9); have ⟨t0, t1, t2⟩ := (w3c_at w8 lw ll ln).later hb9; have ⟨y0, y1, y2⟩ := R9.out.hi; have kf : ∀ o, w9.frozen? ⟨w1.heap.size, o, none⟩ = false := R9.out.loose; have z0 := O9.out 0 _ rfl; clear hb9 hh R8 O8))
                go_roundg (len - (k + 1))
                case measure => omega
                case rel => exact ⟨k + 1, r, ⟨lw, ll, ln⟩, by omega, rfl, rfl, by go_num, hr, hl, R9.out.put ⟨lw, ll, ln⟩⟩
          · have h3' : (kd == 3) = false := beq_eq_false_iff_ne.2 h3
            have h2'' : (kd != 2) = true := by simp [h2]
            have OA := box_at wr [.int .i64 kd, .int .u64 wl, .int .u64 s0, .int .u32 s1, .int .u32 s2] 32
            have RA := R.later (al_below wr (.cells [.int .i64 kd, .int .u64 wl, .int .u64 s0, .int .u32 s1, .int .u32 s2].toArray 32))
            have HRA := hid RA
            have HOA := hid OA
            clear RA OA R
            have q1 : ∀ w, (binOp .neq 30 (stv lw ll ln) (stv lw ll ln)).run Try.prog w = .ok (.bool false) w := fun w => by rw [run_ne, sameB_self]; rfl
            have HLT : Hid (lessB lw ll ln lw ll ln = false) := less_irr _ _ _
            go_wp2_with (first
              | (have hh := HRA; go_at_call 13; refine (last_any _ _ _ (HRA.out).ck).mono ?_; rintro e w8 ⟨rfl, hb8⟩; have R8 := hid ((HRA.out).later hb8); have O8 := hid ((HOA.out).later hb8); have ⟨y0, y1, y2⟩ := R8.out.hi; have hq8 := R8.out.hi.lt; clear hb8 hh HRA HOA)
              | (have hh := R8; go_at_call 15; refine (after_is HLT.out _).mono ?_; rintro e w9 ⟨rfl, hb9⟩; have R9 := hid ((R8.out.later (w3c_below w8 lw ll ln)).later hb9); have O9 := hid ((O8.out.later (w3c_below w8 lw ll ln)).later hb9); have ⟨t0, t1, t2⟩ := (w3c_at w8 lw ll ln).later hb9; have ⟨y0, y1, y2⟩ := R9.out.hi; have kf : ∀ o, w9.frozen? ⟨w1.heap.size, o, none⟩ = false := R9.out.loose; have z0 := O9.out 0 _ rfl; clear hb9 hh R8 O8))
            go_roundg (len - (k + 1))
            case measure => omega
            case rel => exact ⟨k + 1, r, ⟨lw, ll, ln⟩, by omega, rfl, rfl, by go_num, hr, hl, R9.out.put ⟨lw, ll, ln⟩⟩
    · have HR := hid R
      clear R
      go_wp2_with (first
        | (go_at_call 14; refine (rises_any _ ⟨g, c, n, r, ⟨lw, ll, ln⟩⟩ _ HR.out.ck (KOK.out r _ hr hl)).mono ?_; rintro e w5 ⟨rfl, ho, hk5⟩))
      go_ret
      exact ⟨rfl, (HR.out.onC ho hk5).below⟩

end Go.Proofs.Ytmloaddbmkonoaa
