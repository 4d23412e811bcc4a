import Derived.Test.YtmloaddbmkonoaaKNearMath
namespace Go.Proofs.Ytmloaddbmkonoaa
open Go.RowKit Go.Sort
set_option linter.unusedVariables false

set_option maxRecDepth 8000 in
set_option maxHeartbeats 8000000 in
theorem near_walk (n g c : Int) (a : Option Addr) (len cap : Nat) (f : Nat → SStep) (w : World) (hn : U32 n) (hg : U64 g) (hc : U64 c) (hm : len ≤ 9223372036854775807) (hrow : StepRow w a len f) (hok : ∀ i, i < len → (f i).ok) :
    Calls Try.prog 3 #[.agg #[.int .u32 n, .int .u64 g, .int .u64 c, .slice a len cap]] w fun e w' => e = .returned (.bool true) ∧ Below w.heap.size w w' := by
  have z64 : U64 0 := ⟨by decide, by decide⟩
  have z32 : U32 0 := ⟨by decide, by decide⟩
  have KOK : Hid (∀ ri (l : St), U64 ri → l.ok → Ck.ok ⟨g, c, n, ri, l⟩) := fun ri l h2 h3 => ⟨hg, hc, hn, h2, h3⟩
  have HROW := hid hrow
  have HOK := hid hok
  have I0 : NearI c c 0 0 ⟨c, 0, 0⟩ := ⟨z64, ⟨hc, z32, z32⟩, hc, Int.le_refl _, hc.1, Int.le_refl _, .inl (Int.le_refl _)⟩
  have HB : Hid (U64 g ∧ U64 c ∧ U32 n) := ⟨hg, hc, hn⟩
  clear hrow hok hn hg hc z32 z64
  go_enter Try.func3, Try.ntmps3
  go_wp2_with (first
    | (go_at_call 9; refine (reopen_at (q := w.heap.size + 1) (by simp)).mono ?_; rintro e w1 ⟨rfl, hb1, hc1⟩; have B1 := (box_at w [.int .u32 n, .int .u64 g, .int .u64 c, .slice a len cap] 26).later hb1; have hw1 := Below.on (al_below w _) hb1; have x2 := B1 2 _ rfl))
  have R0 := hid (show OneAt w w1 w.heap.size (w.heap.size + 1) [.int .u32 n, .int .u64 g, .int .u64 c, .slice a len cap] ⟨g, c, n, 0, ⟨c, 0, 0⟩⟩ from ⟨hw1, B1, hc1, Nat.le_refl _, by omega, by omega⟩)
  clear B1 hb1 hc1 x2 hw1
  go_loopg [4, 5] len (fun gg s4 s5 wr => ∃ (k : Nat) (hi r : Int) (l : St), k ≤ len ∧ k ≤ 1048576 ∧ gg = len - k ∧ s4 = .int .u64 hi ∧ s5 = .int .i64 k ∧ NearI c hi k r l ∧ OneAt w wr w.heap.size (w.heap.size + 1) [.int .u32 n, .int .u64 g, .int .u64 c, .slice a len cap] ⟨g, c, n, r, l⟩)
  case atStart => exact ⟨0, c, 0, ⟨c, 0, 0⟩, by omega, by omega, by omega, rfl, rfl, I0, R0.out⟩
  case round =>
    clear R0 I0
    obtain ⟨k, hi, r, ⟨lw, ll, ln⟩, hk, hk2, rfl, rfl, rfl, I, R⟩ := hrel
    have hsz0 : w.heap.size + 1 < wr.heap.size := R.ck.lt
    have hN : w.heap.size < wr.heap.size := by omega
    have x3 := R.box 3 _ rfl
    have x2 := R.box 2 _ rfl
    have HI := hid I
    by_cases hlt : k < len ∧ k < 1048576
    · obtain ⟨hlt, hlt2⟩ := hlt
      obtain ⟨bb, off, rfl, d0, d1, d2, d3, d4⟩ := HROW.out.later R.below k hlt
      have hst := HOK.out k hlt
      generalize f k = x at d0 d1 d2 d3 d4 hst
      obtain ⟨kd, wl, s0, s1, s2⟩ := x
      obtain ⟨hwl, hss⟩ := hst
      dsimp only at d0 d1 d2 d3 d4 hwl hss
      have hn8 : wr.heap.size ≠ w.heap.size + 1 := by omega
      have hlt3 : (k : Int) < 1048576 := by omega
      have HK2 := hid hlt2
      clear hlt2 hk2
      by_cases h1 : kd = 1
      · subst h1
        have HOA := hid (box_at wr [.int .i64 1, .int .u64 wl, .int .u64 s0, .int .u32 s1, .int .u32 s2] 32)
        have HRA := hid (R.later (al_below wr (.cells [.int .i64 1, .int .u64 wl, .int .u64 s0, .int .u32 s1, .int .u32 s2].toArray 32)))
        clear R I
        have HX := hid (HI.out.read hwl)
        by_cases hgt : wl > hi
        · have hgt' : hi < wl := hgt
          rw [if_pos hgt] at HX
          go_wp2_with (first
            | (go_at_call 10; refine (read_any _ _ wl _ HRA.out.ck).mono ?_; rintro e w5 ⟨rfl, ho, hk5⟩; have R5 := hid (HRA.out.onC ho hk5); have O5 := hid (HOA.out.only ho hn8); have z1 := O5.out 1 _ rfl; clear ho hk5))
          go_roundg (len - (k + 1))
          case measure => omega
          case rel => exact ⟨k + 1, wl, wl, ⟨lw, ll, ln⟩, by omega, HK2.out, rfl, rfl, by go_num, HX.out, R5.out⟩
        · have hgt' : decide (hi < wl) = false := decide_eq_false hgt
          rw [if_neg hgt] at HX
          clear hgt
          go_wp2_with (first
            | (go_at_call 10; refine (read_any _ _ wl _ HRA.out.ck).mono ?_; rintro e w5 ⟨rfl, ho, hk5⟩; have R5 := hid (HRA.out.onC ho hk5); have O5 := hid (HOA.out.only ho hn8); have z1 := O5.out 1 _ rfl; clear ho hk5))
          go_roundg (len - (k + 1))
          case measure => omega
          case rel => exact ⟨k + 1, hi, wl, ⟨lw, ll, ln⟩, by omega, HK2.out, rfl, rfl, by go_num, HX.out, R5.out⟩
      · have h1' : (kd == 1) = false := beq_eq_false_iff_ne.2 h1
        by_cases h2 : kd = 2
        · subst h2
          have HOA := hid (box_at wr [.int .i64 2, .int .u64 wl, .int .u64 s0, .int .u32 s1, .int .u32 s2] 32)
          have HRA := hid (R.later (al_below wr (.cells [.int .i64 2, .int .u64 wl, .int .u64 s0, .int .u32 s1, .int .u32 s2].toArray 32)))
          clear R I
          obtain ⟨hx, hT, hhi⟩ | ⟨W, L, hx, hT, I2⟩ := HI.out.tick HB.out.1 HB.out.2.1 HB.out.2.2 HK2.out
          · have HX := hid hx
            have HT := hid hT
            have hgt' : decide (hi < 18446744073709551614) = false := decide_eq_false hhi
            clear hx hT hhi
            go_wp2_with (first
              | (go_at_call 11; refine (tick_is HX.out _ HRA.out.ck (KOK.out r _ HI.out.ur HI.out.ul)).mono ?_; rw [HT.out]; rintro e w5 ⟨rfl, ho, hk5⟩; have R5 := hid (HRA.out.onC ho hk5); clear ho hk5))
            go_roundg (len - (k + 1))
            case measure => omega
            case rel => exact ⟨k + 1, hi, r, ⟨lw, ll, ln⟩, by omega, HK2.out, rfl, rfl, by go_num, HI.out.skip, R5.out.later (w3c_below _ _ _ _)⟩
          · have HX := hid hx
            have HT := hid hT
            have HI2 := hid I2
            clear hx hT I2
            by_cases hgt : W > hi
            · have hgt' : hi < W := hgt
              obtain rfl : W = hi + 1 := by
                have := HI2.out.near
                dsimp only at this
                omega
              have hu := HI2.out.ul.1.2
              have hu2 := HI2.out.uh.1
              dsimp only at hu
              have hsub : (hi + 1 - hi : Int) = 1 := by omega
              go_wp2_with (first
                | (go_at_call 11; refine (tick_is HX.out _ HRA.out.ck (KOK.out r _ HI.out.ur HI.out.ul)).mono ?_; rw [HT.out]; rintro e w5 ⟨rfl, ho, hk5⟩; have R5 := hid (HRA.out.onC ho hk5); clear ho hk5))
              go_roundg (len - (k + 1))
              case measure => omega
              case rel => exact ⟨k + 1, hi, r, ⟨hi + 1, L, n⟩, by omega, HK2.out, rfl, rfl, by go_num, HI2.out, R5.out.later (w3c_below _ _ _ _)⟩
            · have hgt' : decide (hi < W) = false := decide_eq_false hgt
              clear hgt
              go_wp2_with (first
                | (go_at_call 11; refine (tick_is HX.out _ HRA.out.ck (KOK.out r _ HI.out.ur HI.out.ul)).mono ?_; rw [HT.out]; rintro e w5 ⟨rfl, ho, hk5⟩; have R5 := hid (HRA.out.onC ho hk5); clear ho hk5))
              go_roundg (len - (k + 1))
              case measure => omega
              case rel => exact ⟨k + 1, hi, r, ⟨W, L, n⟩, by omega, HK2.out, rfl, rfl, by go_num, HI2.out, R5.out.later (w3c_below _ _ _ _)⟩
        · have h2' : (kd == 2) = false := beq_eq_false_iff_ne.2 h2
          by_cases h3 : kd = 3
          · subst h3
            have HOA := hid (box_at wr [.int .i64 3, .int .u64 wl, .int .u64 s0, .int .u32 s1, .int .u32 s2] 32)
            have HRA := hid (R.later (al_below wr (.cells [.int .i64 3, .int .u64 wl, .int .u64 s0, .int .u32 s1, .int .u32 s2].toArray 32)))
            clear R I
            by_cases ht : s0 = 18446744073709551615
            · have HE : Hid (obsE ⟨s0, s1, s2⟩ = 11) := by show _ = _; unfold obsE; rw [if_pos ht]
              have HO : Hid (obsC ⟨g, c, n, r, ⟨lw, ll, ln⟩⟩ ⟨s0, s1, s2⟩ = ⟨g, c, n, r, ⟨lw, ll, ln⟩⟩) := by show _ = _; unfold obsC; rw [if_pos ht]
              have ht' : (s0 != 18446744073709551615) = false := by simp [ht]
              clear ht
              by_cases hgt : hi < s0
              · go_wp2_with (first
                  | (go_at_call 12; refine (observe_is HE.out HO.out _ HRA.out.ck (KOK.out r _ HI.out.ur HI.out.ul)).mono ?_; rintro e w5 ⟨rfl, ho, hk5⟩; have R5 := hid (HRA.out.onC ho hk5); have O5 := hid (HOA.out.only ho hn8); have z2 := O5.out 2 _ rfl; clear ho hk5))
                go_roundg (len - (k + 1))
                case measure => omega
                case rel => exact ⟨k + 1, hi, r, ⟨lw, ll, ln⟩, by omega, HK2.out, rfl, rfl, by go_num, HI.out.skip, R5.out⟩
              · have hgt' : decide (hi < s0) = false := decide_eq_false hgt
                clear hgt
                go_wp2_with (first
                  | (go_at_call 12; refine (observe_is HE.out HO.out _ HRA.out.ck (KOK.out r _ HI.out.ur HI.out.ul)).mono ?_; rintro e w5 ⟨rfl, ho, hk5⟩; have R5 := hid (HRA.out.onC ho hk5); have O5 := hid (HOA.out.only ho hn8); have z2 := O5.out 2 _ rfl; clear ho hk5))
                go_roundg (len - (k + 1))
                case measure => omega
                case rel => exact ⟨k + 1, hi, r, ⟨lw, ll, ln⟩, by omega, HK2.out, rfl, rfl, by go_num, HI.out.skip, R5.out⟩
            · have HE : Hid (obsE ⟨s0, s1, s2⟩ = 0) := by show _ = _; unfold obsE; rw [if_neg ht]
              have HO : Hid (obsC ⟨g, c, n, r, ⟨lw, ll, ln⟩⟩ ⟨s0, s1, s2⟩ = ⟨g, c, n, r, if St.less ⟨lw, ll, ln⟩ ⟨s0, s1, s2⟩ then ⟨s0, s1, s2⟩ else ⟨lw, ll, ln⟩⟩) := by show _ = _; unfold obsC; rw [if_neg ht]
              have ht' : (s0 != 18446744073709551615) = true := by simp [ht]
              have HX := hid (HI.out.obs hss ht)
              clear ht
              by_cases hgt : s0 > hi
              · have hgt' : hi < s0 := hgt
                rw [if_pos hgt] at HX
                go_wp2_with (first
                  | (go_at_call 12; refine (observe_is HE.out HO.out _ HRA.out.ck (KOK.out r _ HI.out.ur HI.out.ul)).mono ?_; rintro e w5 ⟨rfl, ho, hk5⟩; have R5 := hid (HRA.out.onC ho hk5); have O5 := hid (HOA.out.only ho hn8); have z2 := O5.out 2 _ rfl; clear ho hk5))
                go_roundg (len - (k + 1))
                case measure => omega
                case rel => exact ⟨k + 1, s0, r, _, by omega, HK2.out, rfl, rfl, by go_num, HX.out, R5.out⟩
              · have hgt' : decide (hi < s0) = false := decide_eq_false hgt
                rw [if_neg hgt] at HX
                clear hgt
                go_wp2_with (first
                  | (go_at_call 12; refine (observe_is HE.out HO.out _ HRA.out.ck (KOK.out r _ HI.out.ur HI.out.ul)).mono ?_; rintro e w5 ⟨rfl, ho, hk5⟩; have R5 := hid (HRA.out.onC ho hk5); have O5 := hid (HOA.out.only ho hn8); have z2 := O5.out 2 _ rfl; clear ho hk5))
                go_roundg (len - (k + 1))
                case measure => omega
                case rel => exact ⟨k + 1, hi, r, _, by omega, HK2.out, rfl, rfl, by go_num, HX.out, R5.out⟩
          · have h3' : (kd == 3) = false := beq_eq_false_iff_ne.2 h3
            have HOA := hid (box_at wr [.int .i64 kd, .int .u64 wl, .int .u64 s0, .int .u32 s1, .int .u32 s2] 32)
            have HRA := hid (R.later (al_below wr (.cells [.int .i64 kd, .int .u64 wl, .int .u64 s0, .int .u32 s1, .int .u32 s2].toArray 32)))
            clear R I
            go_wp2_with fail
            go_roundg (len - (k + 1))
            case measure => omega
            case rel => exact ⟨k + 1, hi, r, ⟨lw, ll, ln⟩, by omega, HK2.out, rfl, rfl, by go_num, HI.out.skip, HRA.out⟩
    · have HR := hid R
      clear R I
      have hlow := HI.out.low
      dsimp only at hlow
      have hnear := HI.out.near
      have hu := HI.out.ul.1.2
      have hu2 := HI.out.uh.1
      have hge : decide (c ≤ lw) = true := decide_eq_true hlow
      dsimp only at hnear hu
      by_cases hle : lw ≤ hi
      · have hle' : decide (lw ≤ hi) = true := decide_eq_true hle
        clear hnear
        by_cases hl1 : k < len
        · obtain rfl : k = 1048576 := by omega
          clear hlt hk hk2
          go_wp2_with (first
            | (go_at_call 13; refine (last_any _ _ _ HR.out.ck).mono ?_; rintro e w5 ⟨rfl, hb5⟩; have R5 := hid (HR.out.later hb5); have x2 := R5.out.box 2 _ rfl; have hN5 : w.heap.size < w5.heap.size := World.block_lt_of_cell? _ _ x2; clear hb5))
          go_ret
          exact ⟨rfl, (R5.out.later (w3c_below _ _ _ _)).below⟩
        · obtain rfl : k = len := by omega
          clear hlt hk hk2 hl1
          go_wp2_with (first
            | (go_at_call 13; refine (last_any _ _ _ HR.out.ck).mono ?_; rintro e w5 ⟨rfl, hb5⟩; have R5 := hid (HR.out.later hb5); have x2 := R5.out.box 2 _ rfl; have hN5 : w.heap.size < w5.heap.size := World.block_lt_of_cell? _ _ x2; clear hb5))
          go_ret
          exact ⟨rfl, (R5.out.later (w3c_below _ _ _ _)).below⟩
      · have hle' : decide (lw ≤ hi) = false := decide_eq_false hle
        obtain rfl : lw = hi + 1 := by omega
        have hsub : (hi + 1 - hi : Int) = 1 := by omega
        clear hnear hle
        by_cases hl1 : k < len
        · obtain rfl : k = 1048576 := by omega
          clear hlt hk hk2
          go_wp2_with (first
            | (go_at_call 13; refine (last_any _ _ _ HR.out.ck).mono ?_; rintro e w5 ⟨rfl, hb5⟩; have R5 := hid (HR.out.later hb5); have x2 := R5.out.box 2 _ rfl; have hN5 : w.heap.size < w5.heap.size := World.block_lt_of_cell? _ _ x2; clear hb5))
          go_ret
          exact ⟨rfl, (R5.out.later (w3c_below _ _ _ _)).below⟩
        · obtain rfl : k = len := by omega
          clear hlt hk hk2 hl1
          go_wp2_with (first
            | (go_at_call 13; refine (last_any _ _ _ HR.out.ck).mono ?_; rintro e w5 ⟨rfl, hb5⟩; have R5 := hid (HR.out.later hb5); have x2 := R5.out.box 2 _ rfl; have hN5 : w.heap.size < w5.heap.size := World.block_lt_of_cell? _ _ x2; clear hb5))
          go_ret
          exact ⟨rfl, (R5.out.later (w3c_below _ _ _ _)).below⟩

end Go.Proofs.Ytmloaddbmkonoaa
