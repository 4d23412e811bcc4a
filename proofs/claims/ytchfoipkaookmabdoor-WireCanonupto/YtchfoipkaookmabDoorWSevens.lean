import Derived.Test.YtchfoipkaookmabDoorWDec
import Derived.Test.YtchfoipkaookmabDoorWirePlain
namespace Go.Proofs.YtchfoipkaookmabDoor
open Go.RowKit Go.Sort
set_option linter.unusedVariables false

/-- what is found behind k bytes that gave acc -/
def vcomb (acc k : Nat) : Vr → Vr
  | .ok v t => .ok (acc + 128 ^ k * v) t
  | .short => .short
  | .form => .form
/-- the outcome of a number -/
def NumEnd (b o : Nat) (r : Int) (w : World) : Vr → Ending → World → Prop
  | .ok v t, e, w' => e = .returned (.int .u64 (v : Int)) ∧ Cel b o 2 w w' ∧ DecR w' b o t r
  | .short, e, w' => e = .panicked [fault 30] ∧ Cel b o 2 w w' ∧ ∃ t, DecR w' b o t r
  | .form, e, w' => e = .panicked [fault 31] ∧ Cel b o 2 w w' ∧ ∃ t, DecR w' b o t r

theorem pow128 (k : Nat) : (128 : Nat) ^ k = 2 ^ (k * 7) := by rw [show (128 : Nat) = 2 ^ 7 by rfl, ← Nat.pow_mul, Nat.mul_comm]

theorem vgo_more {k x acc : Nat} {t : List Nat} (h9 : ¬ k = 9) (hx : 128 ≤ x) (hx' : x < 256) : vcomb acc k (vgo k (x :: t)) = vcomb (acc + x % 128 * 128 ^ k) (k + 1) (vgo (k + 1) t) := by
  rw [vgo, if_neg h9, if_neg (by omega)]
  cases vgo (k + 1) t with
  | ok v r =>
    simp only [vcomb]
    congr 1
    rw [Nat.pow_succ, Nat.mul_add, Nat.mul_assoc, show x - 128 = x % 128 by omega, Nat.mul_comm (128 ^ k) (x % 128), Nat.add_assoc]
  | short => rfl
  | form => rfl
theorem vgo_last {k x acc : Nat} {t : List Nat} (h9 : ¬ k = 9) (hx : x < 128) (h0 : ¬ (x = 0 ∧ k ≠ 0)) : vcomb acc k (vgo k (x :: t)) = .ok (acc + x * 128 ^ k) t := by
  rw [vgo, if_neg h9, if_pos hx, if_neg h0]
  simp only [vcomb]
  rw [Nat.mul_comm]
theorem vgo_idle {k acc : Nat} {t : List Nat} (h9 : ¬ k = 9) (hk : k ≠ 0) : vcomb acc k (vgo k (0 :: t)) = .form := by
  rw [vgo, if_neg h9, if_pos (by decide), if_pos ⟨rfl, hk⟩]; rfl
theorem vgo_nine {acc : Nat} {t : List Nat} : vcomb acc 9 (vgo 9 (1 :: t)) = .ok (acc + 1 * 128 ^ 9) t := by
  rw [vgo, if_pos rfl, if_pos rfl]; rfl
theorem vgo_nine' {x acc : Nat} {t : List Nat} (h : ¬ x = 1) : vcomb acc 9 (vgo 9 (x :: t)) = .form := by
  rw [vgo, if_pos rfl, if_neg h]; rfl
theorem acc_or {acc k y : Nat} (h : acc < 128 ^ k) (hk : k ≤ 9) (hy : y * 128 ^ k < 18446744073709551616) : bits .or .u64 (acc : Int) (IntKind.u64.wrap ((y : Int) * 2 ^ (k * 7))) = ((acc + y * 128 ^ k : Nat) : Int) := by
  rw [pow128] at h hy ⊢
  have e : (y : Int) * 2 ^ (k * 7) = ((y * 2 ^ (k * 7) : Nat) : Int) := by simp
  rw [e]
  have hw : IntKind.u64.wrap ((y * 2 ^ (k * 7) : Nat) : Int) = ((y * 2 ^ (k * 7) : Nat) : Int) := by rw [IntKind.wrap_u64]; omega
  rw [hw]
  exact or_above acc y (k * 7) (by omega) h hy
theorem acc_small {k y : Nat} (hk : k ≤ 8) (hy : y < 128) : y * 128 ^ k < 18446744073709551616 := by
  have h1 : (128 : Nat) ^ k ≤ 128 ^ 8 := Nat.pow_le_pow_right (by decide) hk
  have h2 : y * 128 ^ k ≤ 127 * 128 ^ 8 := Nat.mul_le_mul (by omega) h1
  have h3 : (127 : Nat) * 128 ^ 8 < 18446744073709551616 := by decide
  omega
theorem acc_lt {acc k y : Nat} (h : acc < 128 ^ k) (hy : y < 128) : acc + y * 128 ^ k < 128 ^ (k + 1) := by
  rw [Nat.pow_succ]
  have : y * 128 ^ k ≤ 127 * 128 ^ k := Nat.mul_le_mul_right _ (by omega)
  omega

set_option maxHeartbeats 1000000 in
theorem sevens_any {w : World} {b o : Nat} {s : List Nat} {r : Int} (h : DecR w b o s r) (hl : s.length ≤ 9223372036854775807) :
    Calls Tryd.prog 48 #[.pointer (some ⟨b, o, none⟩)] w fun e w' => NumEnd b o r w (vgo 0 s) e w' := by
  have H := hid h
  clear h
  go_enter Tryd.func48, Tryd.ntmps48
  go_wp2_with fail
  go_loopg [3, 4] 10 (fun n s3 s4 wr => ∃ (k acc : Nat) (sk : List Nat), k ≤ 9 ∧ n = 10 - k ∧ s3 = .int .u64 (acc : Int) ∧ s4 = .int .i64 (k : Int) ∧ Hid (acc < 128 ^ k ∧ vgo 0 s = vcomb acc k (vgo k sk) ∧ Cel b o 2 w wr ∧ DecR wr b o sk r ∧ sk.length ≤ s.length))
  case atStart =>
    refine ⟨0, 0, s, by omega, rfl, rfl, rfl, by decide, ?_, Cel.refl _ _ _ _, H.out, Nat.le_refl _⟩
    cases vgo 0 s <;> simp [vcomb]
  case round =>
    obtain ⟨k, acc, sk, hk, rfl, rfl, rfl, HH⟩ := hrel
    cases sk with
    | nil =>
      go_wp2_with (go_at_call 33; refine (next_bad HH.out.2.2.2.1).mono ?_; rintro e w1 ⟨rfl, rfl⟩)
      refine ⟨rfl, ?_⟩
      obtain ⟨-, hv, hc, hd, -⟩ := HH.out
      rw [hv]
      simp only [vgo, vcomb]
      exact ⟨rfl, hc, [], hd⟩
    | cons x t =>
      have hx : x < 256 := HH.out.2.2.2.1.b8 x (by simp)
      have hlt : t.length + 1 ≤ 9223372036854775807 := by have := HH.out.2.2.2.2; simp at this; omega
      have hn := not128 x hx
      obtain ⟨y, hy⟩ : ∃ y : Nat, y = x % 128 := ⟨_, rfl⟩
      rw [← hy] at hn
      have hy' : y < 128 := by omega
      have hw : IntKind.u64.wrap (y : Int) = (y : Int) := by rw [IntKind.wrap_u64]; omega
      have hm : IntKind.i64.wrap ((k : Int) * 7) = ((k * 7 : Nat) : Int) := by rw [IntKind.wrap_i64]; omega
      have HY := hid hy
      clear hy
      by_cases h9 : k = 9
      · have e9 : decide ((k : Int) = 9) = true := by simp; omega
        have e9' : ((k : Int) == 9) = true := by simp; omega
        have H9 := hid h9
        clear h9
        by_cases h1 : 1 < x
        · have e1 : decide ((1 : Int) < (x : Int)) = true := by simp; omega
          have HX := hid h1
          clear h1
          go_wp2_with (go_at_call 33; refine (next_ok HH.out.2.2.2.1 hlt).mono ?_; rintro e w1 ⟨rfl, hc, hd⟩; have HC := hid hc; have HD := hid hd; clear hc hd)
          refine ⟨rfl, ?_⟩
          obtain ⟨ha, hv, hc0, -, hsl⟩ := HH.out
          rw [hv, H9.out, vgo_nine' (by have := HX.out; omega)]
          exact ⟨rfl, hc0.trans HC.out, t, HD.out⟩
        · have e1 : decide ((1 : Int) < (x : Int)) = false := by simp; omega
          have e128 : decide ((128 : Int) ≤ (x : Int)) = false := by simp; omega
          have HX := hid h1
          clear h1
          by_cases h0 : x = 0
          · have e0 : decide ((x : Int) = 0) = true := by simp; omega
            have e0' : ((x : Int) == 0) = true := by simp; omega
            have ek : decide ((0 : Int) < (k : Int)) = true := by have := H9.out; simp; omega
            have ek' : 0 < k := by have := H9.out; omega
            have H0 := hid h0
            clear h0
            go_wp2_with (go_at_call 33; refine (next_ok HH.out.2.2.2.1 hlt).mono ?_; rintro e w1 ⟨rfl, hc, hd⟩; have HC := hid hc; have HD := hid hd; clear hc hd)
            refine ⟨rfl, ?_⟩
            obtain ⟨ha, hv, hc0, -, hsl⟩ := HH.out
            rw [hv, H9.out, vgo_nine' (by have := H0.out; omega)]
            exact ⟨rfl, hc0.trans HC.out, t, HD.out⟩
          · have e0 : decide ((x : Int) = 0) = false := by simp; omega
            have e0' : ((x : Int) == 0) = false := by simp; omega
            have H0 := hid h0
            clear h0
            go_wp2_with (go_at_call 33; refine (next_ok HH.out.2.2.2.1 hlt).mono ?_; rintro e w1 ⟨rfl, hc, hd⟩; have HC := hid hc; have HD := hid hd; clear hc hd)
            go_ret
            obtain ⟨ha, hv, hc0, -, hsl⟩ := HH.out
            have hy1 : y = 1 := by have := HY.out; have := HX.out; have := H0.out; omega
            have hx1 : x = 1 := by have := HX.out; have := H0.out; omega
            have hor := acc_or (y := y) ha hk (by rw [H9.out, hy1]; decide)
            rw [hor, hv, H9.out, hy1, hx1, vgo_nine]
            exact ⟨rfl, hc0.trans HC.out, HD.out⟩
      · have e9 : decide ((k : Int) = 9) = false := by simp; omega
        have e9' : ((k : Int) == 9) = false := by simp; omega
        have H9 := hid h9
        clear h9
        by_cases h128 : 128 ≤ x
        · have e128 : decide ((128 : Int) ≤ (x : Int)) = true := by simp; omega
          have HX := hid h128
          clear h128
          go_wp2_with (go_at_call 33; refine (next_ok HH.out.2.2.2.1 hlt).mono ?_; rintro e w1 ⟨rfl, hc, hd⟩; have HC := hid hc; have HD := hid hd; clear hc hd)
          obtain ⟨ha, hv, hc0, -, hsl⟩ := HH.out
          have hk8 : k ≤ 8 := by have := H9.out; omega
          have hor := acc_or (y := y) ha hk (acc_small hk8 hy')
          rw [hor]
          go_roundg (10 - (k + 1))
          case measure => omega
          case rel =>
            refine ⟨k + 1, acc + y * 128 ^ k, t, by omega, rfl, rfl, by simp, acc_lt ha hy', ?_, hc0.trans HC.out, HD.out, by simp at hsl; omega⟩
            rw [hv, vgo_more H9.out HX.out hx, HY.out]
        · have e128 : decide ((128 : Int) ≤ (x : Int)) = false := by simp; omega
          have HX := hid h128
          clear h128
          by_cases h0 : x = 0
          · have e0 : decide ((x : Int) = 0) = true := by simp; omega
            have e0' : ((x : Int) == 0) = true := by simp; omega
            have H0 := hid h0
            clear h0
            by_cases hk0 : k = 0
            · have ek : decide ((0 : Int) < (k : Int)) = false := by simp; omega
              have ek' : decide (0 < k) = false := by simp; omega
              have HK := hid hk0
              clear hk0
              go_wp2_with (go_at_call 33; refine (next_ok HH.out.2.2.2.1 hlt).mono ?_; rintro e w1 ⟨rfl, hc, hd⟩; have HC := hid hc; have HD := hid hd; clear hc hd)
              go_ret
              obtain ⟨ha, hv, hc0, -, hsl⟩ := HH.out
              have hk8 : k ≤ 8 := by have := H9.out; omega
              have hor := acc_or (y := y) ha hk (acc_small hk8 hy')
              have hyx : y = x := by have := HY.out; have := HX.out; omega
              rw [hor, hv, vgo_last H9.out (by have := HX.out; omega) (by have := HK.out; omega), hyx]
              exact ⟨rfl, hc0.trans HC.out, HD.out⟩
            · have ek : decide ((0 : Int) < (k : Int)) = true := by simp; omega
              have ek' : 0 < k := by omega
              have HK := hid hk0
              clear hk0
              go_wp2_with (go_at_call 33; refine (next_ok HH.out.2.2.2.1 hlt).mono ?_; rintro e w1 ⟨rfl, hc, hd⟩; have HC := hid hc; have HD := hid hd; clear hc hd)
              refine ⟨rfl, ?_⟩
              obtain ⟨ha, hv, hc0, -, hsl⟩ := HH.out
              rw [hv, H0.out, vgo_idle H9.out HK.out]
              exact ⟨rfl, hc0.trans HC.out, t, HD.out⟩
          · have e0 : decide ((x : Int) = 0) = false := by simp; omega
            have e0' : ((x : Int) == 0) = false := by simp; omega
            have H0 := hid h0
            clear h0
            go_wp2_with (go_at_call 33; refine (next_ok HH.out.2.2.2.1 hlt).mono ?_; rintro e w1 ⟨rfl, hc, hd⟩; have HC := hid hc; have HD := hid hd; clear hc hd)
            go_ret
            obtain ⟨ha, hv, hc0, -, hsl⟩ := HH.out
            have hk8 : k ≤ 8 := by have := H9.out; omega
            have hor := acc_or (y := y) ha hk (acc_small hk8 hy')
            have hyx : y = x := by have := HY.out; have := HX.out; omega
            rw [hor, hv, vgo_last H9.out (by have := HX.out; omega) (by have := H0.out; omega), hyx]
            exact ⟨rfl, hc0.trans HC.out, HD.out⟩

end Go.Proofs.YtchfoipkaookmabDoor
