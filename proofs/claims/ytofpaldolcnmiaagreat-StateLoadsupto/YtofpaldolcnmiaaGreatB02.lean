import Derived.Test.YtofpaldolcnmiaaGreatB01
import Derived.Defers
import Derived.Recover
import Derived.Orders
import Derived.RegionTactic
import GoSem.Op.String
set_option linter.unusedVariables false
set_option maxHeartbeats 1000000
namespace Go.Proofs.YtofpaldolcnmiaaGreat
open Go.RowKit Go.Sort
abbrev fault (c : Int) : PanicEntry := { v := .iface 247 (.agg #[.int .i64 c]), recovered := false }
abbrev fault' (c : Int) : PanicEntry := { v := .iface 247 (.agg #[.int .i64 c]), recovered := true }
theorem open_any {w : World} {s : List Nat} (hs : B8 s) :
  Calls Tryz.prog 39 #[.string (ofNats s)] w fun e w' => e = .returned (.pointer (some ⟨w.heap.size, 0, none⟩)) ∧ Below w.heap.size w w' ∧ w.heap.size < w'.heap.size ∧ DecR w' w.heap.size 0 s 0 := by
 go_enter Tryz.func39, Tryz.ntmps39
 go_wp2_with fail
 go_ret
 refine ⟨rfl, Below.al (Below.refl _ _) _, by simp, ?_, ?_, hs, fun o => by simp [go_sem]⟩
 ·simp [go_sem]
 ·simp [go_sem]
theorem take_ok {w : World} {b o n : Nat} {s : List Nat} {r : Int} (h : DecR w b o s r) (hn : n ≤ s.length) (hl : s.length ≤ 9223372036854775807) :
  Calls Tryz.prog 150 #[.pointer (some ⟨b, o, none⟩), .int .u64 (n : Int)] w fun e w' => e = .returned (.string (ofNats (s.take n))) ∧ Cel b o 2 w w' ∧ DecR w' b o (s.drop n) r := by
 have c0 := h.c0; have H := hid h; have f : ∀ i, w.frozen? ⟨b, i, none⟩ = false := h.loose; have hsz : ((ofNats s).size : Int) = (s.length : Int) := by rw [ons]
 have hsz' : (ofNats s).size = s.length := by rw [ons]
 have hw : IntKind.u64.wrap (s.length : Int) = (s.length : Int) := by rw [IntKind.wrap_u64]; omega
 have hgt : decide ((s.length : Int) < (n : Int)) = false := by simp; omega
 have x1 : (ofNats s).extract 0 n = ofNats (s.take n) := by rw [ofNats_extract h.b8, List.drop_zero]
 have x2 : (ofNats s).extract n s.length = ofNats (s.drop n) := by rw [ofNats_extract h.b8, List.take_of_length_le (Nat.le_refl _)]
 clear h; go_enter Tryz.func150, Tryz.ntmps150
 go_wp2_with fail
 go_ret
 exact ⟨rfl, (Cel.refl _ _ _ _).set o ⟨Nat.le_refl _, by omega⟩ _, H.out.set0 (H.out.b8.drop n)⟩
theorem take_bad {w : World} {b o n : Nat} {s : List Nat} {r : Int} (h : DecR w b o s r) (hn : s.length < n) (hl : s.length ≤ 9223372036854775807) :
  Calls Tryz.prog 150 #[.pointer (some ⟨b, o, none⟩), .int .u64 (n : Int)] w fun e w' => e = .panicked [fault 30] ∧ w' = w := by
 have c0 := h.c0; have hsz : ((ofNats s).size : Int) = (s.length : Int) := by rw [ons]
 have hw : IntKind.u64.wrap (s.length : Int) = (s.length : Int) := by rw [IntKind.wrap_u64]; omega
 have hgt : decide ((s.length : Int) < (n : Int)) = true := by simp; omega
 clear h; go_enter Tryz.func150, Tryz.ntmps150
 go_wp2_with fail
 exact ⟨rfl, rfl, rfl⟩
theorem one_size (x : Nat) : (ofNats [x]).size = 1 := rfl
theorem one_get {x : Nat} (hx : x < 256) (h : 0 < (ofNats [x]).size) : ((ofNats [x])[0]).toNat = x := by
 show (UInt8.ofNat x).toNat = x
 simp; omega
theorem next_ok {w : World} {b o x : Nat} {t : List Nat} {r : Int} (h : DecR w b o (x :: t) r) (hl : t.length + 1 ≤ 9223372036854775807) :
  Calls Tryz.prog 202 #[.pointer (some ⟨b, o, none⟩)] w fun e w' => e = .returned (.int .u8 (x : Int)) ∧ Cel b o 2 w w' ∧ DecR w' b o t r := by
 have H := hid h; have hx : x < 256 := h.b8 x (by simp); clear h; have hg := one_get hx; have hsz := one_size x; go_enter Tryz.func202, Tryz.ntmps202
 go_wp2_with (go_at_call 150; refine (take_ok (n := 1) H.out (by simp) hl).mono ?_; rintro e w1 ⟨rfl, hc, hd⟩; have HC := hid hc; have HD := hid hd; clear hc hd; simp only [List.take_succ_cons, List.take_zero])
 go_ret
 exact ⟨rfl, HC.out, HD.out⟩
theorem next_bad {w : World} {b o : Nat} {r : Int} (h : DecR w b o [] r) :
  Calls Tryz.prog 202 #[.pointer (some ⟨b, o, none⟩)] w fun e w' => e = .panicked [fault 30] ∧ w' = w := by
 have H := hid h; clear h; go_enter Tryz.func202, Tryz.ntmps202
 go_wp2_with (go_at_call 150; refine (take_bad (n := 1) H.out (by simp) (by simp)).mono ?_; rintro e w1 ⟨rfl, rfl⟩)
 exact ⟨rfl, rfl, rfl⟩
def vcomb (acc k : Nat) : Vr → Vr
 | .ok v t => .ok (acc + 128 ^ k * v) t
 | .short => .short
 | .form => .form
def NumEnd (b o : Nat) (r : Int) (w : World) : Vr → Ending → World → Prop
 | .ok v t, e, w' => e = .returned (.int .u64 (v : Int)) ∧ Cel b o 2 w w' ∧ DecR w' b o t r
 | .short, e, w' => e = .panicked [fault 30] ∧ Cel b o 2 w w' ∧ ∃ t, DecR w' b o t r
 | .form, e, w' => e = .panicked [fault 31] ∧ Cel b o 2 w w' ∧ ∃ t, DecR w' b o t r
theorem pow128 (k : Nat) : (128 : Nat) ^ k = 2 ^ (k * 7) := by rw [show (128 : Nat) = 2 ^ 7 by rfl, ← Nat.pow_mul, Nat.mul_comm]
theorem vgo_more {k x acc : Nat} {t : List Nat} (h9 : ¬ k = 9) (hx : 128 ≤ x) (hx' : x < 256) : vcomb acc k (vgo k (x :: t)) = vcomb (acc + x % 128 * 128 ^ k) (k + 1) (vgo (k + 1) t) := by
 rw [vgo, if_neg h9, if_neg (by omega)]; cases vgo (k + 1) t with
 | ok v r =>
  simp only [vcomb]; congr 1
  rw [Nat.pow_succ, Nat.mul_add, Nat.mul_assoc, show x - 128 = x % 128 by omega, Nat.mul_comm (128 ^ k) (x % 128), Nat.add_assoc]
 | short => rfl
 | form => rfl
theorem vgo_last {k x acc : Nat} {t : List Nat} (h9 : ¬ k = 9) (hx : x < 128) (h0 : ¬ (x = 0 ∧ k ≠ 0)) : vcomb acc k (vgo k (x :: t)) = .ok (acc + x * 128 ^ k) t := by
 rw [vgo, if_neg h9, if_pos hx, if_neg h0]; simp only [vcomb]; rw [Nat.mul_comm]
theorem vgo_idle {k acc : Nat} {t : List Nat} (h9 : ¬ k = 9) (hk : k ≠ 0) : vcomb acc k (vgo k (0 :: t)) = .form := by
 rw [vgo, if_neg h9, if_pos (by decide), if_pos ⟨rfl, hk⟩]; rfl
theorem vgo_nine {acc : Nat} {t : List Nat} : vcomb acc 9 (vgo 9 (1 :: t)) = .ok (acc + 1 * 128 ^ 9) t := by
 rw [vgo, if_pos rfl, if_pos rfl]; rfl
theorem vgo_nine' {x acc : Nat} {t : List Nat} (h : ¬ x = 1) : vcomb acc 9 (vgo 9 (x :: t)) = .form := by
 rw [vgo, if_pos rfl, if_neg h]; rfl
theorem acc_or {acc k y : Nat} (h : acc < 128 ^ k) (hk : k ≤ 9) (hy : y * 128 ^ k < 18446744073709551616) : bits .or .u64 (acc : Int) (IntKind.u64.wrap ((y : Int) * 2 ^ (k * 7))) = ((acc + y * 128 ^ k : Nat) : Int) := by
 rw [pow128] at h hy ⊢; have e : (y : Int) * 2 ^ (k * 7) = ((y * 2 ^ (k * 7) : Nat) : Int) := by simp
 rw [e]; have hw : IntKind.u64.wrap ((y * 2 ^ (k * 7) : Nat) : Int) = ((y * 2 ^ (k * 7) : Nat) : Int) := by rw [IntKind.wrap_u64]; omega
 rw [hw]; exact or_above acc y (k * 7) (by omega) h hy
theorem acc_small {k y : Nat} (hk : k ≤ 8) (hy : y < 128) : y * 128 ^ k < 18446744073709551616 := by
 have h1 : (128 : Nat) ^ k ≤ 128 ^ 8 := Nat.pow_le_pow_right (by decide) hk; have h2 : y * 128 ^ k ≤ 127 * 128 ^ 8 := Nat.mul_le_mul (by omega) h1; have h3 : (127 : Nat) * 128 ^ 8 < 18446744073709551616 := by decide
 omega
theorem acc_lt {acc k y : Nat} (h : acc < 128 ^ k) (hy : y < 128) : acc + y * 128 ^ k < 128 ^ (k + 1) := by
 rw [Nat.pow_succ]; have : y * 128 ^ k ≤ 127 * 128 ^ k := Nat.mul_le_mul_right _ (by omega); omega
theorem sevens_any {w : World} {b o : Nat} {s : List Nat} {r : Int} (h : DecR w b o s r) (hl : s.length ≤ 9223372036854775807) :
  Calls Tryz.prog 199 #[.pointer (some ⟨b, o, none⟩)] w fun e w' => NumEnd b o r w (vgo 0 s) e w' := by
 have H := hid h; clear h; go_enter Tryz.func199, Tryz.ntmps199
 go_wp2_with fail
 go_loopg [3, 4] 10 (fun n s3 s4 wr => ∃ (k acc : Nat) (sk : List Nat), k ≤ 9 ∧ n = 10 - k ∧ s3 = .int .u64 (acc : Int) ∧ s4 = .int .i64 (k : Int) ∧ Hid (acc < 128 ^ k ∧ vgo 0 s = vcomb acc k (vgo k sk) ∧ Cel b o 2 w wr ∧ DecR wr b o sk r ∧ sk.length ≤ s.length))
 case atStart =>
  refine ⟨0, 0, s, by omega, rfl, rfl, rfl, by decide, ?_, Cel.refl _ _ _ _, H.out, Nat.le_refl _⟩; cases vgo 0 s <;> simp [vcomb]
 case round =>
  obtain ⟨k, acc, sk, hk, rfl, rfl, rfl, HH⟩ := hrel; cases sk with
  | nil =>
   go_wp2_with (go_at_call 202; refine (next_bad HH.out.2.2.2.1).mono ?_; rintro e w1 ⟨rfl, rfl⟩)
   refine ⟨rfl, ?_⟩; obtain ⟨-, hv, hc, hd, -⟩ := HH.out; rw [hv]; simp only [vgo, vcomb]; exact ⟨rfl, hc, [], hd⟩
  | cons x t =>
   have hx : x < 256 := HH.out.2.2.2.1.b8 x (by simp); have hlt : t.length + 1 ≤ 9223372036854775807 := by have := HH.out.2.2.2.2; simp at this; omega
   have hn := not128 x hx; obtain ⟨y, hy⟩ : ∃ y : Nat, y = x % 128 := ⟨_, rfl⟩; rw [← hy] at hn; have hy' : y < 128 := by omega
   have hw : IntKind.u64.wrap (y : Int) = (y : Int) := by rw [IntKind.wrap_u64]; omega
   have hm : IntKind.i64.wrap ((k : Int) * 7) = ((k * 7 : Nat) : Int) := by rw [IntKind.wrap_i64]; omega
   have HY := hid hy; clear hy; by_cases h9 : k = 9
   ·have e9 : decide ((k : Int) = 9) = true := by simp; omega
    have e9' : ((k : Int) == 9) = true := by simp; omega
    have H9 := hid h9; clear h9; by_cases h1 : 1 < x
    ·have e1 : decide ((1 : Int) < (x : Int)) = true := by simp; omega
     have HX := hid h1; clear h1; go_wp2_with (go_at_call 202; refine (next_ok HH.out.2.2.2.1 hlt).mono ?_; rintro e w1 ⟨rfl, hc, hd⟩; have HC := hid hc; have HD := hid hd; clear hc hd)
     refine ⟨rfl, ?_⟩; obtain ⟨ha, hv, hc0, -, hsl⟩ := HH.out; rw [hv, H9.out, vgo_nine' (by have := HX.out; omega)]; exact ⟨rfl, hc0.trans HC.out, t, HD.out⟩
    ·have e1 : decide ((1 : Int) < (x : Int)) = false := by simp; omega
     have e128 : decide ((128 : Int) ≤ (x : Int)) = false := by simp; omega
     have HX := hid h1; clear h1; by_cases h0 : x = 0
     ·have e0 : decide ((x : Int) = 0) = true := by simp; omega
      have e0' : ((x : Int) == 0) = true := by simp; omega
      have ek : decide ((0 : Int) < (k : Int)) = true := by have := H9.out; simp; omega
      have ek' : 0 < k := by have := H9.out; omega
      have H0 := hid h0; clear h0; go_wp2_with (go_at_call 202; refine (next_ok HH.out.2.2.2.1 hlt).mono ?_; rintro e w1 ⟨rfl, hc, hd⟩; have HC := hid hc; have HD := hid hd; clear hc hd)
      refine ⟨rfl, ?_⟩; obtain ⟨ha, hv, hc0, -, hsl⟩ := HH.out; rw [hv, H9.out, vgo_nine' (by have := H0.out; omega)]; exact ⟨rfl, hc0.trans HC.out, t, HD.out⟩
     ·have e0 : decide ((x : Int) = 0) = false := by simp; omega
      have e0' : ((x : Int) == 0) = false := by simp; omega
      have H0 := hid h0; clear h0; go_wp2_with (go_at_call 202; refine (next_ok HH.out.2.2.2.1 hlt).mono ?_; rintro e w1 ⟨rfl, hc, hd⟩; have HC := hid hc; have HD := hid hd; clear hc hd)
      go_ret
      obtain ⟨ha, hv, hc0, -, hsl⟩ := HH.out; have hy1 : y = 1 := by have := HY.out; have := HX.out; have := H0.out; omega
      have hx1 : x = 1 := by have := HX.out; have := H0.out; omega
      have hor := acc_or (y := y) ha hk (by rw [H9.out, hy1]; decide); rw [hor, hv, H9.out, hy1, hx1, vgo_nine]; exact ⟨rfl, hc0.trans HC.out, HD.out⟩
   ·have e9 : decide ((k : Int) = 9) = false := by simp; omega
    have e9' : ((k : Int) == 9) = false := by simp; omega
    have H9 := hid h9; clear h9; by_cases h128 : 128 ≤ x
    ·have e128 : decide ((128 : Int) ≤ (x : Int)) = true := by simp; omega
     have HX := hid h128; clear h128; go_wp2_with (go_at_call 202; refine (next_ok HH.out.2.2.2.1 hlt).mono ?_; rintro e w1 ⟨rfl, hc, hd⟩; have HC := hid hc; have HD := hid hd; clear hc hd)
     obtain ⟨ha, hv, hc0, -, hsl⟩ := HH.out; have hk8 : k ≤ 8 := by have := H9.out; omega
     have hor := acc_or (y := y) ha hk (acc_small hk8 hy'); rw [hor]; go_roundg (10 - (k + 1))
     case measure => omega
     case rel =>
      refine ⟨k + 1, acc + y * 128 ^ k, t, by omega, rfl, rfl, by simp, acc_lt ha hy', ?_, hc0.trans HC.out, HD.out, by simp at hsl; omega⟩; rw [hv, vgo_more H9.out HX.out hx, HY.out]
    ·have e128 : decide ((128 : Int) ≤ (x : Int)) = false := by simp; omega
     have HX := hid h128; clear h128; by_cases h0 : x = 0
     ·have e0 : decide ((x : Int) = 0) = true := by simp; omega
      have e0' : ((x : Int) == 0) = true := by simp; omega
      have H0 := hid h0; clear h0; by_cases hk0 : k = 0
      ·have ek : decide ((0 : Int) < (k : Int)) = false := by simp; omega
       have ek' : decide (0 < k) = false := by simp; omega
       have HK := hid hk0; clear hk0; go_wp2_with (go_at_call 202; refine (next_ok HH.out.2.2.2.1 hlt).mono ?_; rintro e w1 ⟨rfl, hc, hd⟩; have HC := hid hc; have HD := hid hd; clear hc hd)
       go_ret
       obtain ⟨ha, hv, hc0, -, hsl⟩ := HH.out; have hk8 : k ≤ 8 := by have := H9.out; omega
       have hor := acc_or (y := y) ha hk (acc_small hk8 hy'); have hyx : y = x := by have := HY.out; have := HX.out; omega
       rw [hor, hv, vgo_last H9.out (by have := HX.out; omega) (by have := HK.out; omega), hyx]; exact ⟨rfl, hc0.trans HC.out, HD.out⟩
      ·have ek : decide ((0 : Int) < (k : Int)) = true := by simp; omega
       have ek' : 0 < k := by omega
       have HK := hid hk0; clear hk0; go_wp2_with (go_at_call 202; refine (next_ok HH.out.2.2.2.1 hlt).mono ?_; rintro e w1 ⟨rfl, hc, hd⟩; have HC := hid hc; have HD := hid hd; clear hc hd)
       refine ⟨rfl, ?_⟩; obtain ⟨ha, hv, hc0, -, hsl⟩ := HH.out; rw [hv, H0.out, vgo_idle H9.out HK.out]; exact ⟨rfl, hc0.trans HC.out, t, HD.out⟩
     ·have e0 : decide ((x : Int) = 0) = false := by simp; omega
      have e0' : ((x : Int) == 0) = false := by simp; omega
      have H0 := hid h0; clear h0; go_wp2_with (go_at_call 202; refine (next_ok HH.out.2.2.2.1 hlt).mono ?_; rintro e w1 ⟨rfl, hc, hd⟩; have HC := hid hc; have HD := hid hd; clear hc hd)
      go_ret
      obtain ⟨ha, hv, hc0, -, hsl⟩ := HH.out; have hk8 : k ≤ 8 := by have := H9.out; omega
      have hor := acc_or (y := y) ha hk (acc_small hk8 hy'); have hyx : y = x := by have := HY.out; have := HX.out; omega
      rw [hor, hv, vgo_last H9.out (by have := HX.out; omega) (by have := H0.out; omega), hyx]; exact ⟨rfl, hc0.trans HC.out, HD.out⟩
theorem dnumber_any {w : World} {b o m : Nat} {s : List Nat} {r : Int} (h : DecR w b o s r) (hl : s.length ≤ 9223372036854775807) :
  Calls Tryz.prog 147 #[.pointer (some ⟨b, o, none⟩), .int .u64 (m : Int)] w fun e w' => NumEnd b o r w (vdec m s) e w' := by
 have H := hid h; clear h; unfold vdec; cases hv : vgo 0 s with
 | short =>
  have HV := hid hv; clear hv; go_enter Tryz.func147, Tryz.ntmps147
  go_wp2_with (go_at_call 199; refine (sevens_any H.out hl).mono ?_; rw [HV.out]; rintro e w1 ⟨rfl, hc⟩)
  exact ⟨rfl, rfl, hc⟩
 | form =>
  have HV := hid hv; clear hv; go_enter Tryz.func147, Tryz.ntmps147
  go_wp2_with (go_at_call 199; refine (sevens_any H.out hl).mono ?_; rw [HV.out]; rintro e w1 ⟨rfl, hc⟩)
  exact ⟨rfl, rfl, hc⟩
 | ok v t =>
  have HV := hid hv; clear hv; by_cases hm : v ≤ m
  ·have e1 : decide ((m : Int) < (v : Int)) = false := by simp; omega
   have e2 : decide (m < v) = false := by simp; omega
   simp only [hm, if_true]; have HM := hid hm; clear hm; go_enter Tryz.func147, Tryz.ntmps147
   go_wp2_with (go_at_call 199; refine (sevens_any H.out hl).mono ?_; rw [HV.out]; rintro e w1 ⟨rfl, hc, hd⟩)
   go_ret
   exact ⟨rfl, hc, hd⟩
  ·have e1 : decide ((m : Int) < (v : Int)) = true := by simp; omega
   have e2 : m < v := by omega
   simp only [hm, if_false]; have HM := hid hm; clear hm; go_enter Tryz.func147, Tryz.ntmps147
   go_wp2_with (go_at_call 199; refine (sevens_any H.out hl).mono ?_; rw [HV.out]; rintro e w1 ⟨rfl, hc, hd⟩)
   exact ⟨rfl, rfl, hc, t, hd⟩
theorem stop_nil {w : World} {p : Value} :
  Calls Tryz.prog 146 #[p, .nilIface] w fun e w' => e = .returned (.tuple #[]) ∧ w' = w := by
 go_enter Tryz.func146, Tryz.ntmps146
 go_wp2_with fail
 exact bodyPost_ret (results_none rfl _ _ _) rfl ⟨rfl, rfl⟩
theorem run_assert_fault (v : Value) (w : World) : (Instr.typeAssert (.iface 247 v) 20 247 true).run Tryz.prog w = .ok (.tuple #[v, .bool true]) w := by
 simp [Instr.typeAssert, run_underlying Tryz.underlying247, go_sem, Result.andThen]
def stopR (r c : Int) : Int := if r = 0 then c else r
theorem stop_fault {w : World} {b o : Nat} {s : List Nat} {r c : Int} (h : DecR w b o s r) :
  Calls Tryz.prog 146 #[.pointer (some ⟨b, o, none⟩), .iface 247 (.agg #[.int .i64 c])] w fun e w' => e = .returned (.tuple #[]) ∧ Cel b o 2 w w' ∧ DecR w' b o [] (stopR r c) := by
 have c0 := h.c0; have c1 := h.c1; have f : ∀ i, w.frozen? ⟨b, i, none⟩ = false := h.loose; have hlt := h.lt; have H := hid h; clear h; have hta := run_assert_fault (.agg #[.int .i64 c]); by_cases hr : r = 0
 ·have e1 : decide (r = 0) = true := by simpa using hr
  have e1' : (r == 0) = true := by simpa using hr
  have HR := hid hr; have hs : stopR r c = c := if_pos hr; rw [hs]; clear hr hs; go_enter Tryz.func146, Tryz.ntmps146
  go_wp2_with fail
  go_end0
  exact ⟨rfl, (((Cel.refl b o 2 w).set o ⟨Nat.le_refl _, by omega⟩ _).set (o + 1) ⟨by omega, by omega⟩ _).al _, ((H.out.set0 B8.nil).set1 c).later (Below.al (Below.refl _ _) _)⟩
 ·have e1 : decide (r = 0) = false := by simpa using hr
  have e1' : (r == 0) = false := by simpa using hr
  have HR := hid hr; have hs : stopR r c = r := if_neg hr; rw [hs]; clear hr hs; go_enter Tryz.func146, Tryz.ntmps146
  go_wp2_with fail
  go_end0
  exact ⟨rfl, ((Cel.refl b o 2 w).set o ⟨Nat.le_refl _, by omega⟩ _).al _, (H.out.set0 B8.nil).later (Below.al (Below.refl _ _) _)⟩
theorem wrd {P : Program} {Q : Exit → Act → List Frame → World → Prop} {a : Act} {cs : List Frame} {w : World} {id : Nat} {ops : Array Oper}
  (h : ∀ t, wpOpsS P ops Q (Region.schedule (P.follows .mixedOrders) ops t) a cs { w with drawn := w.drawn + 1 }) : (Code.region id ops true).wpS P Q a cs w :=
 fun b k hb hr => let ⟨e, a', cs', w', q, r⟩ := wp_opsS _ a cs _ (h _) b k hb hr; ⟨e, a', cs', w', q, .of_steps (.one step_region_draw) r⟩
def cOps (pos : String) : Array Oper :=
 #[{ dst := some 1, op := Op.load 73 (Operand.tmp 0), type := 73, pos := pos, after := #[], guard := none },
  { dst := some 2, op := Op.call { callee := Callee.builtin Builtin.recover, args := #[], argTypes := #[] }, type := 20, pos := pos, after := #[], guard := none },
  { dst := some 3, op := Op.call { callee := Callee.value (Operand.func 146), args := #[Operand.tmp 1, Operand.tmp 2], argTypes := #[73, 20] }, type := 0, pos := pos, after := #[{ on := 0, ground := Ground.data }, { on := 1, ground := Ground.data }, { on := 1, ground := Ground.chain }], guard := none }]
theorem c_orders (pos : String) (mo : Bool) (t : Nat) : Region.schedule mo (cOps pos) t = [0, 1, 2] ∨ Region.schedule mo (cOps pos) t = [1, 0, 2] := by
 have hd : Region.departs (cOps pos) = false := by simp [Region.departs, cOps, Region.binds]
 have hl : Region.schedule mo (cOps pos) t = Region.linearise .any (cOps pos) t := by simp [Region.schedule, hd]
 rw [hl]; rcases Nat.mod_two_eq_zero_or_one t with ht | ht
 ·left
  simp [Region.linearise, Region.linearise.go, cOps, List.range_succ, Region.binds, ht, Nat.mod_one]
 ·right
  simp [Region.linearise, Region.linearise.go, cOps, List.range_succ, Region.binds, ht, Nat.mod_one]
theorem catch_byte_bad {w : World} {b o q : Nat} {s : List Nat} {r c : Int} {older : List PanicEntry} (hq : w.cell? ⟨q, 0, none⟩ = some (.pointer (some ⟨b, o, none⟩))) (h : DecR w b o s r) :
  CallsD Tryz.prog 201 #[.pointer (some ⟨q, 0, none⟩)] (.panicking (fault c :: older)) w fun e u' w' =>
   e = .returned (.tuple #[]) ∧ u' = .panicking (fault' c :: older) ∧ Cel b o 2 w w' ∧ DecR w' b o [] (stopR r c) := by
 refine callsD_of_wpS Tryz.func201 rfl fun c₀ cs hu => ?_
 apply wrd
 intro t; have h' : DecR w.drew b o s r := ⟨h.c0, h.c1, h.b8, h.loose⟩; change wpOpsS _ (cOps "dec.go:24") _ (Region.schedule _ (cOps "dec.go:24") t) _ _ _
 rcases c_orders "dec.go:24" (Tryz.prog.follows Departure.mixedOrders) t with e | e
 all_goals
  rw [e]; simp [wpOpsS, cOps, go_sem, recoverD, hu, Tryz.ntmps201, hq]; refine (stop_fault h').mono ?_; rintro e1 w1 ⟨rfl, hc, hd⟩; exact ⟨rfl, _, rfl, _, results_none rfl _ _ _, rfl, rfl, (Cel.refl b o 2 w).drew.trans hc, hd⟩
theorem catch_byte_idle {w : World} {b o q : Nat} (hq : w.cell? ⟨q, 0, none⟩ = some (.pointer (some ⟨b, o, none⟩))) :
  CallsD Tryz.prog 201 #[.pointer (some ⟨q, 0, none⟩)] .returning w fun e u' w' => e = .returned (.tuple #[]) ∧ u' = .returning ∧ w' = w.drew := by
 refine callsD_of_wpS Tryz.func201 rfl fun c₀ cs hu => ?_
 apply wrd
 intro t; change wpOpsS _ (cOps "dec.go:24") _ (Region.schedule _ (cOps "dec.go:24") t) _ _ _
 rcases c_orders "dec.go:24" (Tryz.prog.follows Departure.mixedOrders) t with e | e
 all_goals
  rw [e]; simp [wpOpsS, cOps, go_sem, recoverD, hu, Tryz.ntmps201, hq]; refine stop_nil.mono ?_; rintro e1 w1 ⟨rfl, rfl⟩; refine ⟨rfl, .returning, ?_, _, results_none rfl _ _ _, rfl, rfl, rfl⟩; cases c₀
  simp_all
theorem catch_flag_bad {w : World} {b o q : Nat} {s : List Nat} {r c : Int} {older : List PanicEntry} (hq : w.cell? ⟨q, 0, none⟩ = some (.pointer (some ⟨b, o, none⟩))) (h : DecR w b o s r) :
  CallsD Tryz.prog 206 #[.pointer (some ⟨q, 0, none⟩)] (.panicking (fault c :: older)) w fun e u' w' =>
   e = .returned (.tuple #[]) ∧ u' = .panicking (fault' c :: older) ∧ Cel b o 2 w w' ∧ DecR w' b o [] (stopR r c) := by
 refine callsD_of_wpS Tryz.func206 rfl fun c₀ cs hu => ?_
 apply wrd
 intro t; have h' : DecR w.drew b o s r := ⟨h.c0, h.c1, h.b8, h.loose⟩; change wpOpsS _ (cOps "dec.go:30") _ (Region.schedule _ (cOps "dec.go:30") t) _ _ _
 rcases c_orders "dec.go:30" (Tryz.prog.follows Departure.mixedOrders) t with e | e
 all_goals
  rw [e]; simp [wpOpsS, cOps, go_sem, recoverD, hu, Tryz.ntmps206, hq]; refine (stop_fault h').mono ?_; rintro e1 w1 ⟨rfl, hc, hd⟩; exact ⟨rfl, _, rfl, _, results_none rfl _ _ _, rfl, rfl, (Cel.refl b o 2 w).drew.trans hc, hd⟩
theorem catch_flag_idle {w : World} {b o q : Nat} (hq : w.cell? ⟨q, 0, none⟩ = some (.pointer (some ⟨b, o, none⟩))) :
  CallsD Tryz.prog 206 #[.pointer (some ⟨q, 0, none⟩)] .returning w fun e u' w' => e = .returned (.tuple #[]) ∧ u' = .returning ∧ w' = w.drew := by
 refine callsD_of_wpS Tryz.func206 rfl fun c₀ cs hu => ?_
 apply wrd
 intro t; change wpOpsS _ (cOps "dec.go:30") _ (Region.schedule _ (cOps "dec.go:30") t) _ _ _
 rcases c_orders "dec.go:30" (Tryz.prog.follows Departure.mixedOrders) t with e | e
 all_goals
  rw [e]; simp [wpOpsS, cOps, go_sem, recoverD, hu, Tryz.ntmps206, hq]; refine stop_nil.mono ?_; rintro e1 w1 ⟨rfl, rfl⟩; refine ⟨rfl, .returning, ?_, _, results_none rfl _ _ _, rfl, rfl, rfl⟩; cases c₀
  simp_all
theorem catch_text_bad {w : World} {b o q : Nat} {s : List Nat} {r c : Int} {older : List PanicEntry} (hq : w.cell? ⟨q, 0, none⟩ = some (.pointer (some ⟨b, o, none⟩))) (h : DecR w b o s r) :
  CallsD Tryz.prog 203 #[.pointer (some ⟨q, 0, none⟩)] (.panicking (fault c :: older)) w fun e u' w' =>
   e = .returned (.tuple #[]) ∧ u' = .panicking (fault' c :: older) ∧ Cel b o 2 w w' ∧ DecR w' b o [] (stopR r c) := by
 refine callsD_of_wpS Tryz.func203 rfl fun c₀ cs hu => ?_
 apply wrd
 intro t; have h' : DecR w.drew b o s r := ⟨h.c0, h.c1, h.b8, h.loose⟩; change wpOpsS _ (cOps "dec.go:46") _ (Region.schedule _ (cOps "dec.go:46") t) _ _ _
 rcases c_orders "dec.go:46" (Tryz.prog.follows Departure.mixedOrders) t with e | e
 all_goals
  rw [e]; simp [wpOpsS, cOps, go_sem, recoverD, hu, Tryz.ntmps203, hq]; refine (stop_fault h').mono ?_; rintro e1 w1 ⟨rfl, hc, hd⟩; exact ⟨rfl, _, rfl, _, results_none rfl _ _ _, rfl, rfl, (Cel.refl b o 2 w).drew.trans hc, hd⟩
theorem catch_text_idle {w : World} {b o q : Nat} (hq : w.cell? ⟨q, 0, none⟩ = some (.pointer (some ⟨b, o, none⟩))) :
  CallsD Tryz.prog 203 #[.pointer (some ⟨q, 0, none⟩)] .returning w fun e u' w' => e = .returned (.tuple #[]) ∧ u' = .returning ∧ w' = w.drew := by
 refine callsD_of_wpS Tryz.func203 rfl fun c₀ cs hu => ?_
 apply wrd
 intro t; change wpOpsS _ (cOps "dec.go:46") _ (Region.schedule _ (cOps "dec.go:46") t) _ _ _
 rcases c_orders "dec.go:46" (Tryz.prog.follows Departure.mixedOrders) t with e | e
 all_goals
  rw [e]; simp [wpOpsS, cOps, go_sem, recoverD, hu, Tryz.ntmps203, hq]; refine stop_nil.mono ?_; rintro e1 w1 ⟨rfl, rfl⟩; refine ⟨rfl, .returning, ?_, _, results_none rfl _ _ _, rfl, rfl, rfl⟩; cases c₀
  simp_all
theorem catch_stamp_bad {w : World} {b o q : Nat} {s : List Nat} {r c : Int} {older : List PanicEntry} (hq : w.cell? ⟨q, 0, none⟩ = some (.pointer (some ⟨b, o, none⟩))) (h : DecR w b o s r) :
  CallsD Tryz.prog 148 #[.pointer (some ⟨q, 0, none⟩)] (.panicking (fault c :: older)) w fun e u' w' =>
   e = .returned (.tuple #[]) ∧ u' = .panicking (fault' c :: older) ∧ Cel b o 2 w w' ∧ DecR w' b o [] (stopR r c) := by
 refine callsD_of_wpS Tryz.func148 rfl fun c₀ cs hu => ?_
 apply wrd
 intro t; have h' : DecR w.drew b o s r := ⟨h.c0, h.c1, h.b8, h.loose⟩; change wpOpsS _ (cOps "dec.go:68") _ (Region.schedule _ (cOps "dec.go:68") t) _ _ _
 rcases c_orders "dec.go:68" (Tryz.prog.follows Departure.mixedOrders) t with e | e
 all_goals
  rw [e]; simp [wpOpsS, cOps, go_sem, recoverD, hu, Tryz.ntmps148, hq]; refine (stop_fault h').mono ?_; rintro e1 w1 ⟨rfl, hc, hd⟩; exact ⟨rfl, _, rfl, _, results_none rfl _ _ _, rfl, rfl, (Cel.refl b o 2 w).drew.trans hc, hd⟩
theorem catch_stamp_idle {w : World} {b o q : Nat} (hq : w.cell? ⟨q, 0, none⟩ = some (.pointer (some ⟨b, o, none⟩))) :
  CallsD Tryz.prog 148 #[.pointer (some ⟨q, 0, none⟩)] .returning w fun e u' w' => e = .returned (.tuple #[]) ∧ u' = .returning ∧ w' = w.drew := by
 refine callsD_of_wpS Tryz.func148 rfl fun c₀ cs hu => ?_
 apply wrd
 intro t; change wpOpsS _ (cOps "dec.go:68") _ (Region.schedule _ (cOps "dec.go:68") t) _ _ _
 rcases c_orders "dec.go:68" (Tryz.prog.follows Departure.mixedOrders) t with e | e
 all_goals
  rw [e]; simp [wpOpsS, cOps, go_sem, recoverD, hu, Tryz.ntmps148, hq]; refine stop_nil.mono ?_; rintro e1 w1 ⟨rfl, rfl⟩; refine ⟨rfl, .returning, ?_, _, results_none rfl _ _ _, rfl, rfl, rfl⟩; cases c₀
  simp_all
open Go.RowKit
def linExts (md : Region.Mode) (ops : Array Oper) : Nat → Array Bool → List (List Nat)
 | 0, _ => [[]]
 | fuel + 1, listed => match Region.ready md ops listed with
  | [] => [[]]
  | x :: xs => (x :: xs).flatMap fun i => (linExts md ops fuel (listed.setIfInBounds i true)).map (i :: ·)
theorem lin_mem (md : Region.Mode) (ops : Array Oper) : ∀ (fuel t : Nat) (listed : Array Bool), Region.linearise.go md ops fuel t listed [] ∈ linExts md ops fuel listed := by
 intro fuel; induction fuel with
 | zero => intro t listed; simp [Region.linearise.go, linExts]
 | succ fuel ih =>
  intro t listed; simp only [Region.linearise.go]; change (match (Region.ready md ops listed)[t % (Region.ready md ops listed).length]? with
   | some i => Region.linearise.go md ops fuel (t / (Region.ready md ops listed).length) (listed.setIfInBounds i true) [i]
   | none => [].reverse) ∈ _
  unfold linExts; cases hr : Region.ready md ops listed with
  | nil => simp
  | cons x xs =>
   have hlt : t % (x :: xs).length < (x :: xs).length := Nat.mod_lt _ (by simp); rw [List.getElem?_eq_getElem hlt]; simp only []; rw [linearise_go_acc, List.reverse_singleton, List.singleton_append]; exact List.mem_flatMap.2 ⟨_, List.getElem_mem hlt, List.mem_map.2 ⟨_, ih _ _, rfl⟩⟩
inductive Picks (ops : Array Oper) : List Nat → List Oper → Prop
 | nil : Picks ops [] []
 | cons {i : Nat} {o : Oper} {l : List Nat} {os : List Oper} (h : ops[i]? = some o) (k : Picks ops l os) : Picks ops (i :: l) (o :: os)
theorem wpOps_forall {P : Program} {ops : Array Oper} {Q : Exit → Act → World → Prop} {l : List Nat} {os : List Oper} (hp : Picks ops l os) : ∀ {a : Act} {w : World}, wpList P ops Q os a w → wpOps P ops Q l a w := by
 induction hp with
 | nil => intro a w h; simpa [wpOps, wpList] using h
 | @cons i o l os h1 _ ih =>
  intro a w h; rw [wpOps_cons]; unfold wpOp; rw [h1]; simp only [wpList] at h; show if Region.wanted o (yielded ops a.tmps) then _ else _
  split
  ·rename_i hw; rw [if_pos hw] at h; exact h.imp (Oper.wp_mono (fun a w => ih)) id
  ·rename_i hw; rw [if_neg hw] at h; exact ih h
theorem wp_region_lin {P : Program} {ops : Array Oper} {Q : Exit → Act → World → Prop} {id : Nat} {a : Act} {w : World} (L : List (List Nat)) (hm : P.follows .mixedOrders = true)
  (hL : linExts .any ops ops.size (Array.replicate ops.size false) = L) (h : ∀ l ∈ L, wpOps P ops Q l a w.drew) : (Code.region id ops true).wp P Q a w :=
 wp_region_draw fun t => by
  simp only [Region.schedule, hm, Bool.true_or, if_true]; exact h _ (hL ▸ lin_mem .any ops ops.size t _)
theorem DecAt.later {w w' : World} {b o : Nat} {d : Ds} (h : DecAt w b o d) (k : Below w.heap.size w w') : DecAt w' b o d := ⟨h.raw.later k, h.ok⟩
theorem open_is {w : World} {s : List Nat} (hs : B8 s) {p : Nat} (hp : w.heap.size = p) :
  Calls Tryz.prog 39 #[.string (ofNats s)] w fun e w' => e = .returned (.pointer (some ⟨p, 0, none⟩)) ∧ Below w.heap.size w w' ∧ p < w'.heap.size ∧ DecAt w' p 0 (.at s) := by
 subst hp; refine (open_any hs).mono ?_; rintro e w' ⟨h1, h2, h3, h4⟩; exact ⟨h1, h2, h3, h4, trivial⟩
theorem open_at {w : World} {s : List Nat} {S : ByteArray} (hS : S = ofNats s) (hs : B8 s) {p : Nat} (hp : w.heap.size = p) :
  Calls Tryz.prog 39 #[.string S] w fun e w' => e = .returned (.pointer (some ⟨p, 0, none⟩)) ∧ Below w.heap.size w w' ∧ p < w'.heap.size ∧ DecAt w' p 0 (.at s) := by
 subst hS; exact open_is hs hp
theorem DecR.drew {w : World} {b o : Nat} {s : List Nat} {r : Int} (h : DecR w b o s r) : DecR w.drew b o s r := ⟨h.c0, h.c1, h.b8, h.loose⟩
theorem nbz_any {w : World} {m : Int} (h1 : -9223372036854775808 ≤ m) (h2 : m ≤ 9223372036854775807) :
  Calls Tryz.prog 205 #[.int .i64 m] w fun e w' => e = .returned (.int .u64 (m.toNat : Int)) ∧ w' = w := by
 by_cases h0 : m < 0
 ·have e1 : decide (m < 0) = true := by simp; omega
  have e2 : ((m.toNat : Nat) : Int) = 0 := by omega
  rw [e2]; go_enter Tryz.func205, Tryz.ntmps205
  go_wp2
  go_ret
  exact ⟨by simp, rfl⟩
 ·have e2 : ((m.toNat : Nat) : Int) = m := by omega
  have hw : IntKind.u64.wrap m = m := by rw [IntKind.wrap_u64]; omega
  rw [e2]; have e1 : decide (m < 0) = false := by simp; omega
  have e3 : 0 ≤ m := by omega
  clear h0; go_enter Tryz.func205, Tryz.ntmps205
  go_wp2
  go_ret
  exact ⟨by simp, rfl⟩
theorem nbz_is {w : World} {m : Int} {n : Nat} (h1 : -9223372036854775808 ≤ m) (h2 : m ≤ 9223372036854775807) (h : m.toNat = n) :
  Calls Tryz.prog 205 #[.int .i64 m] w fun e w' => e = .returned (.int .u64 (n : Int)) ∧ w' = w := h ▸ nbz_any h1 h2
inductive Tr where
 | ok (t r : List Nat)
 | bad (c : Int)
def txt (m : Nat) (s : List Nat) : Tr := match vdec m s with
 | .ok v r => if r.length < v then .bad 30 else .ok (r.take v) (r.drop v)
 | .short => .bad 30
 | .form => .bad 31
def TrEnd (b o : Nat) (r : Int) (w : World) : Tr → Ending → World → Prop
 | .ok t q, e, w' => e = .returned (.string (ofNats t)) ∧ Cel b o 2 w w' ∧ DecR w' b o q r
 | .bad c, e, w' => e = .panicked [fault c] ∧ Cel b o 2 w w' ∧ ∃ q, DecR w' b o q r
theorem vgo_len : ∀ (s : List Nat) (k v : Nat) (r : List Nat), vgo k s = .ok v r → r.length ≤ s.length
 | [], k, v, r, h => by simp [vgo] at h
 | b :: s, k, v, r, h => by
  rw [vgo] at h; split at h
  ·split at h
   ·injection h with h1 h2; subst h2; simp
   ·cases h
  ·split at h
   ·split at h
    ·cases h
    ·injection h with h1 h2; subst h2; simp
   ·split at h
    ·rename_i v' r' hv; injection h with h1 h2
     subst h2; have := vgo_len s (k + 1) v' r' hv; simp; omega
    ·cases h
    ·cases h
theorem vdec_len {m v : Nat} {s r : List Nat} (h : vdec m s = .ok v r) : r.length ≤ s.length := by
 unfold vdec at h; split at h
 ·rename_i v' r' hv; split at h
  ·injection h with h1 h2; subst h2; exact vgo_len _ _ _ _ hv
  ·cases h
 ·cases h
 ·cases h
theorem dtext_any {w : World} {b o m : Nat} {s : List Nat} {r : Int} (h : DecR w b o s r) (hl : s.length ≤ 9223372036854775807) :
  Calls Tryz.prog 204 #[.pointer (some ⟨b, o, none⟩), .int .u64 (m : Int)] w fun e w' => TrEnd b o r w (txt m s) e w' := by
 have H := hid h; clear h; unfold txt; cases hv : vdec m s with
 | short =>
  have HV := hid hv; clear hv; go_enter Tryz.func204, Tryz.ntmps204
  go_wp2_with (go_at_call 147; refine (dnumber_any H.out hl).mono ?_; rw [HV.out]; rintro e w1 ⟨rfl, hc⟩)
  exact ⟨rfl, rfl, hc⟩
 | form =>
  have HV := hid hv; clear hv; go_enter Tryz.func204, Tryz.ntmps204
  go_wp2_with (go_at_call 147; refine (dnumber_any H.out hl).mono ?_; rw [HV.out]; rintro e w1 ⟨rfl, hc⟩)
  exact ⟨rfl, rfl, hc⟩
 | ok v t =>
  have hle := vdec_len hv; have HV := hid hv; clear hv; by_cases hm : t.length < v
  ·simp only [hm, if_true]; have HM := hid hm; clear hm; go_enter Tryz.func204, Tryz.ntmps204
   go_wp2_with fail
   refine (dnumber_any H.out hl).mono ?_; rw [HV.out]; rintro e w1 ⟨rfl, hc, hd⟩; go_wp2_with fail
   refine (take_bad hd HM.out (by omega)).mono ?_; rintro e w2 ⟨rfl, rfl⟩; exact ⟨rfl, rfl, hc, t, hd⟩
  ·simp only [hm, if_false]; have HM := hid hm; clear hm; go_enter Tryz.func204, Tryz.ntmps204
   go_wp2_with fail
   refine (dnumber_any H.out hl).mono ?_; rw [HV.out]; rintro e w1 ⟨rfl, hc, hd⟩; go_wp2_with fail
   refine (take_ok hd (by have := HM.out; omega) (by omega)).mono ?_; rintro e w2 ⟨rfl, hc2, hd2⟩; go_wp2_with fail
   go_ret
   exact ⟨rfl, hc.trans hc2, hd2⟩
theorem left_any {w : World} {b o : Nat} {d : Ds} (h : DecAt w b o d) :
  Calls Tryz.prog 151 #[.pointer (some ⟨b, o, none⟩)] w fun e w' => e = .returned (.int .i64 (d.left.length : Int)) ∧ w' = w := by
 have c0 := h.raw.c0; have hsz : ((ofNats d.left).size : Int) = (d.left.length : Int) := by rw [ons]
 clear h; go_enter Tryz.func151, Tryz.ntmps151
 go_wp2_with fail
 go_ret
 exact ⟨rfl, rfl⟩
def be (v : Int) : Nat → List Int
 | 0 => []
 | n + 1 => be (v / 256) n ++ [v % 256]
theorem bln (v : Int) (n : Nat) : (be v n).length = n := by
 induction n generalizing v with
 | zero => rfl
 | succ n ih => simp [be, ih]
theorem div_pow_succ (v : Int) (k : Nat) : v / 256 / 256 ^ k = v / 256 ^ (k + 1) := by
 rw [Int.ediv_ediv_of_nonneg (by decide), Int.pow_succ, Int.mul_comm]
theorem div_pow_next (v : Int) (k : Nat) : v / 256 ^ k / 256 = v / 256 ^ (k + 1) := by
 rw [Int.ediv_ediv_of_nonneg (Int.le_of_lt (Int.pow_pos (by decide))), Int.pow_succ]
theorem be_cons (v : Int) (k : Nat) : be v (k + 1) = (v / 256 ^ k % 256) :: be v k := by
 induction k generalizing v with
 | zero => simp [be]
 | succ k ih =>
  rw [be, ih (v / 256), div_pow_succ]; rfl
theorem be_byte (v : Int) (n : Nat) : ∀ x ∈ be v n, 0 ≤ x ∧ x < 256 := by
 induction n generalizing v with
 | zero => intro x hx; simp [be] at hx
 | succ n ih =>
  intro x hx; rw [be, List.mem_append] at hx; rcases hx with h | h
  ·exact ih _ x h
  ·simp at h; omega
end Go.Proofs.YtofpaldolcnmiaaGreat
