import Derived.Test.YtmloaddbmkonoaaKTick
import Derived.Test.YtmloaddbmkonoaaEqs
namespace Go.Proofs.Ytmloaddbmkonoaa
open Go.RowKit Go.Sort
set_option linter.unusedVariables false

set_option maxHeartbeats 1000000 in
theorem refuses_any (p : Nat) (c : Ck) (w : World) (h : ClockAt w p c) (hc : c.ok) (hx : tickN c = ⟨0, 0, 0, 11⟩) :
    Calls Try.prog 17 #[.pointer (some ⟨p, 0, none⟩)] w fun e w' => e = .returned (.bool true) ∧ Only p w w' ∧ ClockAt w' p c := by
  have H := hid h
  have hp := h.lt
  have HX := hid hx
  have HC := hid hc
  have HT : Hid (tickC c = c) := hid (tickC_no hx (by omega))
  clear h hx hc
  obtain ⟨win, ceil, node, rd, lw, ll, ln⟩ := c
  have q1 : ∀ w, (binOp .eql 30 (stv 0 0 0) (stv 0 0 0)).run Try.prog w = .ok (.bool true) w := fun w => by rw [run_eq, sameB_self]
  have q2 : ∀ w, (binOp .eql 30 (stv lw ll ln) (stv lw ll ln)).run Try.prog w = .ok (.bool true) w := fun w => by rw [run_eq, sameB_self]
  go_enter Try.func17, Try.ntmps17
  go_wp2_with (first
    | (go_at_call 13; refine (last_any p _ _ H.out).mono ?_; rintro e w1 ⟨rfl, hb1⟩)
    | (go_at_call 11; refine (tick_is HX.out _ ((H.out.later hb1).later (Below.al (Below.refl _ _) _)) HC.out).mono ?_; rw [HT.out]; rintro e w2 ⟨rfl, ho2, hc2⟩))
  have S1 : StampAt (w1.alloc (.cells #[.int .u64 lw, .int .u32 ll, .int .u32 ln] 30)) w1.heap.size lw ll ln := by refine ⟨?_, ?_, ?_⟩ <;> (simp [go_sem]; done)
  have hne : w1.heap.size ≠ p := by have := hb1.size; omega
  have S2 := S1.only ho2 hne
  obtain ⟨w3, hw3⟩ : ∃ w3, w3 = w2.alloc (.cells #[.int .u64 0, .int .u32 0, .int .u32 0] 30) := ⟨_, rfl⟩
  have b3 : Below w2.heap.size w2 w3 := by rw [hw3]; exact Below.al (Below.refl _ _) _
  have Z3 : StampAt w3 w2.heap.size 0 0 0 := by rw [hw3]; exact wz_at w2
  have S3 := S2.later b3
  have K3 := hid (hc2.later b3)
  have O3 := hid (Only.on ((Only.on (Only.of_below hb1) (Below.al (Below.refl _ _) _)).trans ho2) b3)
  rw [← hw3]
  have ⟨s0, s1, s2⟩ := S3
  have ⟨z0, z1, z2⟩ := Z3
  have ks0 := cell_regrown s0; have ks1 := cell_regrown s1; have ks2 := cell_regrown s2
  have kz0 := cell_regrown z0; have kz1 := cell_regrown z1; have kz2 := cell_regrown z2
  clear hw3 S1 S2 S3 Z3 hc2 ho2 hb1 b3
  refine wp_region_quiet_below (by kernel_rfl) (by kernel_rfl) ?_
  repeat (go_big_quiet_step ((go_at_call 13; exact Calls.regrown_of (last_any p _ _ (K3.out.later (below_regrown _ _ _))))))
  refine wpQuiet_nil ?_
  intro w4 hw
  replace hw := below_of_regrown hw
  go_wp2_with fail
  go_ret
  exact ⟨rfl, Only.on O3.out hw, K3.out.later hw⟩

end Go.Proofs.Ytmloaddbmkonoaa
