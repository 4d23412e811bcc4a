import Derived.Test.YtmloaddbmkonoaaKSpent
import Derived.Test.YtmloaddbmkonoaaKAfter
import Derived.Test.YtmloaddbmkonoaaEqs
namespace Go.Proofs.Ytmloaddbmkonoaa
open Go.RowKit Go.Sort
set_option linter.unusedVariables false

/-- a world with one stamp more -/
abbrev w3c (w : World) (a b c : Int) : World := w.alloc (.cells #[.int .u64 a, .int .u32 b, .int .u32 c] 30)
theorem w3c_at (w : World) (a b c : Int) : StampAt (w3c w a b c) w.heap.size a b c := by refine ⟨?_, ?_, ?_⟩ <;> (simp [go_sem]; done)
theorem w3c_loose (w : World) (a b c : Int) : Loose (w3c w a b c) w.heap.size := fun o => by simp [go_sem]
theorem w3c_below (w : World) (a b c : Int) : Below w.heap.size w (w3c w a b c) := Below.al (Below.refl _ _) _
theorem w3c_size (w : World) (a b c : Int) : w.heap.size < (w3c w a b c).heap.size := by simp

set_option maxHeartbeats 2000000 in
theorem rises_no (p : Nat) (win ceil node rd lw ll ln : Int) (w : World) (H : Hid (ClockAt w p ⟨win, ceil, node, rd, ⟨lw, ll, ln⟩⟩)) (HC : Hid (Ck.ok ⟨win, ceil, node, rd, ⟨lw, ll, ln⟩⟩)) (HX : Hid (tickN ⟨win, ceil, node, rd, ⟨lw, ll, ln⟩⟩ = ⟨0, 0, 0, 11⟩)) (HS : Hid (spentB ⟨lw, ll, ln⟩ rd = true))
    (HT : Hid (tickC ⟨win, ceil, node, rd, ⟨lw, ll, ln⟩⟩ = ⟨win, ceil, node, rd, ⟨lw, ll, ln⟩⟩)) :
    Calls Try.prog 14 #[.pointer (some ⟨p, 0, none⟩), .int .u32 node, .int .u64 rd] w fun e w' => e = .returned (.bool true) ∧ Only p w w' ∧ ClockAt w' p ⟨win, ceil, node, rd, ⟨lw, ll, ln⟩⟩ := by
  have hp := H.out.lt
  have q1 : ∀ w, (binOp .eql 30 (stv 0 0 0) (stv 0 0 0)).run Try.prog w = .ok (.bool true) w := fun w => by rw [run_eq, sameB_self]
  have q2 : ∀ w, (binOp .eql 30 (stv lw ll ln) (stv lw ll ln)).run Try.prog w = .ok (.bool true) w := fun w => by rw [run_eq, sameB_self]
  go_enter Try.func14, Try.ntmps14
  go_wp2_with (first
    | (go_at_call 11; refine (tick_is HX.out _ ((H.out.later hb1).later (w3c_below w1 lw ll ln)) HC.out).mono ?_; rw [HT.out]; rintro e w2 ⟨rfl, ho2, hc2⟩; have S2 := (w3c_at w1 lw ll ln).only ho2 (by have := hb1.size; omega))
    | (have _h := ho2; go_at_call 13; refine (last_any p _ _ (hc2.later (w3c_below w2 0 0 0))).mono ?_; rintro e w3 ⟨rfl, hb3⟩; have S3 := (S2.later (w3c_below w2 0 0 0)).later hb3; have T3 := (w3c_at w2 0 0 0).later hb3; have K3 := (hc2.later (w3c_below w2 0 0 0)).later hb3; have ⟨s0, s1, s2⟩ := S3; have hl1 : w1.heap.size < w3.heap.size := S3.lt)
    | (go_at_call 13; refine (last_any p _ _ H.out).mono ?_; rintro e w1 ⟨rfl, hb1⟩)
    | (go_at_call 26; refine (spent_is HS.out _).mono ?_; rintro e w4 ⟨rfl, hb4⟩; have S4 := (S3.later (w3c_below w3 lw ll ln)).later hb4; have T4 := (T3.later (w3c_below w3 lw ll ln)).later hb4; have U4 := (w3c_at w3 lw ll ln).later hb4; have K4 := (K3.later (w3c_below w3 lw ll ln)).later hb4; clear s0 s1 s2; have ⟨s0, s1, s2⟩ := S4; have ⟨t0, t1, t2⟩ := T4; have ⟨u0, u1, u2⟩ := U4)
    | (go_at_call 15; refine (after_is HA.out _).mono ?_; rintro e w5 ⟨rfl, hb5⟩))

  go_ret
  exact ⟨rfl, Only.on (Only.on (Only.on (Only.on ((Only.on (Only.of_below hb1) (w3c_below w1 lw ll ln)).trans ho2) (w3c_below w2 0 0 0)) hb3) (w3c_below w3 lw ll ln)) hb4, K4⟩

set_option maxHeartbeats 2000000 in
theorem rises_low (p : Nat) (win ceil node rd lw ll ln : Int) (W L : Int) (w : World) (H : Hid (ClockAt w p ⟨win, ceil, node, rd, ⟨lw, ll, ln⟩⟩)) (HC : Hid (Ck.ok ⟨win, ceil, node, rd, ⟨lw, ll, ln⟩⟩)) (HX : Hid (tickN ⟨win, ceil, node, rd, ⟨lw, ll, ln⟩⟩ = ⟨W, L, node, 0⟩)) (HS : Hid (spentB ⟨lw, ll, ln⟩ rd = false)) (hW : (W == 18446744073709551615) = false) (HA : Hid (lessB lw ll ln W L node = true)) (hr : ¬ rd > lw)
    (HT : Hid (tickC ⟨win, ceil, node, rd, ⟨lw, ll, ln⟩⟩ = ⟨win, ceil, node, rd, ⟨W, L, node⟩⟩)) :
    Calls Try.prog 14 #[.pointer (some ⟨p, 0, none⟩), .int .u32 node, .int .u64 rd] w fun e w' => e = .returned (.bool true) ∧ Only p w w' ∧ ClockAt w' p ⟨win, ceil, node, rd, ⟨W, L, node⟩⟩ := by
  have hp := H.out.lt
  have q1 : ∀ w, (binOp .neq 30 (stv W L node) (stv W L node)).run Try.prog w = .ok (.bool false) w := fun w => by rw [run_ne, sameB_self]; rfl
  go_enter Try.func14, Try.ntmps14
  go_wp2_with (first
    | (go_at_call 11; refine (tick_is HX.out _ ((H.out.later hb1).later (w3c_below w1 lw ll ln)) HC.out).mono ?_; rw [HT.out]; rintro e w2 ⟨rfl, ho2, hc2⟩; have S2 := (w3c_at w1 lw ll ln).only ho2 (by have := hb1.size; omega))
    | (have _h := ho2; go_at_call 13; refine (last_any p _ _ (hc2.later (w3c_below w2 W L node))).mono ?_; rintro e w3 ⟨rfl, hb3⟩; have S3 := (S2.later (w3c_below w2 W L node)).later hb3; have T3 := (w3c_at w2 W L node).later hb3; have K3 := (hc2.later (w3c_below w2 W L node)).later hb3; have ⟨s0, s1, s2⟩ := S3; have hl1 : w1.heap.size < w3.heap.size := S3.lt)
    | (go_at_call 13; refine (last_any p _ _ H.out).mono ?_; rintro e w1 ⟨rfl, hb1⟩)
    | (go_at_call 26; refine (spent_is HS.out _).mono ?_; rintro e w4 ⟨rfl, hb4⟩; have S4 := (S3.later (w3c_below w3 W L node)).later hb4; have T4 := (T3.later (w3c_below w3 W L node)).later hb4; have U4 := (w3c_at w3 W L node).later hb4; have K4 := (K3.later (w3c_below w3 W L node)).later hb4; clear s0 s1 s2; have ⟨s0, s1, s2⟩ := S4; have ⟨t0, t1, t2⟩ := T4; have ⟨u0, u1, u2⟩ := U4)
    | (go_at_call 15; refine (after_is HA.out _).mono ?_; rintro e w5 ⟨rfl, hb5⟩))

  go_ret
  exact ⟨rfl, Only.on (Only.on (Only.on (Only.on (Only.on ((Only.on (Only.of_below hb1) (w3c_below w1 lw ll ln)).trans ho2) (w3c_below w2 W L node)) hb3) (w3c_below w3 W L node)) hb4) hb5, K4.later hb5⟩

set_option maxHeartbeats 2000000 in
theorem rises_on (p : Nat) (win ceil node rd lw ll ln : Int) (w : World) (H : Hid (ClockAt w p ⟨win, ceil, node, rd, ⟨lw, ll, ln⟩⟩)) (HC : Hid (Ck.ok ⟨win, ceil, node, rd, ⟨lw, ll, ln⟩⟩)) (HX : Hid (tickN ⟨win, ceil, node, rd, ⟨lw, ll, ln⟩⟩ = ⟨rd, 0, node, 0⟩)) (HS : Hid (spentB ⟨lw, ll, ln⟩ rd = false)) (hW : (rd == 18446744073709551615) = false) (HA : Hid (lessB lw ll ln rd 0 node = true)) (hr : rd > lw)
    (HT : Hid (tickC ⟨win, ceil, node, rd, ⟨lw, ll, ln⟩⟩ = ⟨win, ceil, node, rd, ⟨rd, 0, node⟩⟩)) :
    Calls Try.prog 14 #[.pointer (some ⟨p, 0, none⟩), .int .u32 node, .int .u64 rd] w fun e w' => e = .returned (.bool true) ∧ Only p w w' ∧ ClockAt w' p ⟨win, ceil, node, rd, ⟨rd, 0, node⟩⟩ := by
  have hp := H.out.lt
  have q1 : ∀ w, (binOp .neq 30 (stv rd 0 node) (stv rd 0 node)).run Try.prog w = .ok (.bool false) w := fun w => by rw [run_ne, sameB_self]; rfl
  go_enter Try.func14, Try.ntmps14
  go_wp2_with (first
    | (go_at_call 11; refine (tick_is HX.out _ ((H.out.later hb1).later (w3c_below w1 lw ll ln)) HC.out).mono ?_; rw [HT.out]; rintro e w2 ⟨rfl, ho2, hc2⟩; have S2 := (w3c_at w1 lw ll ln).only ho2 (by have := hb1.size; omega))
    | (have _h := ho2; go_at_call 13; refine (last_any p _ _ (hc2.later (w3c_below w2 rd 0 node))).mono ?_; rintro e w3 ⟨rfl, hb3⟩; have S3 := (S2.later (w3c_below w2 rd 0 node)).later hb3; have T3 := (w3c_at w2 rd 0 node).later hb3; have K3 := (hc2.later (w3c_below w2 rd 0 node)).later hb3; have ⟨s0, s1, s2⟩ := S3; have hl1 : w1.heap.size < w3.heap.size := S3.lt)
    | (go_at_call 13; refine (last_any p _ _ H.out).mono ?_; rintro e w1 ⟨rfl, hb1⟩)
    | (go_at_call 26; refine (spent_is HS.out _).mono ?_; rintro e w4 ⟨rfl, hb4⟩; have S4 := (S3.later (w3c_below w3 rd 0 node)).later hb4; have T4 := (T3.later (w3c_below w3 rd 0 node)).later hb4; have U4 := (w3c_at w3 rd 0 node).later hb4; have K4 := (K3.later (w3c_below w3 rd 0 node)).later hb4; clear s0 s1 s2; have ⟨s0, s1, s2⟩ := S4; have ⟨t0, t1, t2⟩ := T4; have ⟨u0, u1, u2⟩ := U4)
    | (go_at_call 15; refine (after_is HA.out _).mono ?_; rintro e w5 ⟨rfl, hb5⟩))

  go_ret
  exact ⟨rfl, Only.on (Only.on (Only.on (Only.on (Only.on ((Only.on (Only.of_below hb1) (w3c_below w1 lw ll ln)).trans ho2) (w3c_below w2 rd 0 node)) hb3) (w3c_below w3 rd 0 node)) hb4) hb5, K4.later hb5⟩

theorem rises_any (p : Nat) (c : Ck) (w : World) (h : ClockAt w p c) (hc : c.ok) :
    Calls Try.prog 14 #[.pointer (some ⟨p, 0, none⟩), .int .u32 c.node, .int .u64 c.rd] w fun e w' => e = .returned (.bool true) ∧ Only p w w' ∧ ClockAt w' p (tickC c) := by
  obtain ⟨win, ceil, node, rd, lw, ll, ln⟩ := c
  rcases tickN_cases _ hc with ⟨h1, h2⟩ | ⟨h1, h2, h3, h4, h5, h6⟩
  · rw [h2]
    exact rises_no p win ceil node rd lw ll ln w h hc h1 ((spent_iff _ hc).2 h1) h2
  · have hs : spentB ⟨lw, ll, ln⟩ rd = false := by
      cases e : spentB ⟨lw, ll, ln⟩ rd with
      | false => rfl
      | true => rw [(spent_iff ⟨win, ceil, node, rd, ⟨lw, ll, ln⟩⟩ hc).1 e] at h1; exact absurd h1 (by decide)
    by_cases hr : rd > lw
    · have hle : ¬ rd ≤ lw := by omega
      have hne : ¬ rd = 18446744073709551615 := by
        intro e
        have : tickN ⟨win, ceil, node, rd, ⟨lw, ll, ln⟩⟩ = ⟨0, 0, 0, 11⟩ := by unfold tickN; rw [if_neg hle, if_pos e]
        rw [this] at h1; exact absurd h1 (by decide)
      have e : tickN ⟨win, ceil, node, rd, ⟨lw, ll, ln⟩⟩ = ⟨rd, 0, node, 0⟩ := by unfold tickN; rw [if_neg hle, if_neg hne]
      rw [e] at h5 h6
      rw [h6]
      exact rises_on p win ceil node rd lw ll ln w h hc e hs (beq_eq_false_iff_ne.2 hne) h5 hr h6
    · obtain ⟨W, L, N, E, e⟩ : ∃ W L N E, tickN ⟨win, ceil, node, rd, ⟨lw, ll, ln⟩⟩ = ⟨W, L, N, E⟩ := ⟨_, _, _, _, rfl⟩
      rw [e] at h1 h3 h4 h5 h6
      simp only at h1 h3 h4
      subst h1 h3
      rw [h6]
      exact rises_low p win ceil _ rd lw ll ln W L w h hc e hs (beq_eq_false_iff_ne.2 (by omega)) h5 hr h6

end Go.Proofs.Ytmloaddbmkonoaa
