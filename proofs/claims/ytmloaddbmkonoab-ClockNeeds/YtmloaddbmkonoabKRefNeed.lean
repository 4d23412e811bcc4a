import Derived.Test.YtmloaddbmkonoabKRefLast
namespace Go.Proofs.Ytmloaddbmkonoab
open Go.RowKit Go.Sort
set_option linter.unusedVariables false

theorem rceiling_is {B : Nat} {x : Rd} {cl : Int} (h : maxL 0 x.ls = cl) (w : World) (H : RefAt w B x) (hl : x.ls.length ≤ 9223372036854775807) :
    Calls Try.prog 24 #[.pointer (some ⟨x.d, 0, none⟩)] w fun e w' => e = .returned (.int .u64 cl) ∧ Below w.heap.size w w' := h ▸ rceiling_any B x w H hl
theorem rlast_is {B : Nat} {x : Rd} {m : St} (h : maxSt zst x.ss = m) (w : World) (H : RefAt w B x) (hl : x.ss.length ≤ 9223372036854775807) :
    Calls Try.prog 18 #[.pointer (some ⟨x.d, 0, none⟩)] w fun e w' => e = .returned (stv m.w m.l m.n) ∧ Below w.heap.size w w' := h ▸ rlast_any B x w H hl

set_option maxHeartbeats 1000000 in
theorem rneed_top (B : Nat) (x : Rd) (a b d cl : Int) (w : World) (H : Hid (RefAt w B x)) (hl : x.ls.length ≤ 9223372036854775807) (HCE : Hid (maxL 0 x.ls = cl)) (ha : (a == 18446744073709551615) = true) :
    Calls Try.prog 20 #[.pointer (some ⟨x.d, 0, none⟩), stv a b d] w fun e w' => e = .returned (.tuple #[.int .u64 0, .bool false]) ∧ Below w.heap.size w w' := by
  have hd := H.out.lt
  go_enter Try.func20, Try.ntmps20
  go_wp2_with fail
  obtain ⟨wa, hwa⟩ : ∃ wa, wa = w3c w a b d := ⟨_, rfl⟩
  have ba : Below w.heap.size w wa := by rw [hwa]; exact w3c_below _ _ _ _
  have A := w3c_at w a b d
  rw [← hwa] at A
  show Code.wp _ _ _ _ (w3c w a b d)
  rw [← hwa]
  have Ha := hid (H.out.later ba)
  have ⟨s0, s1, s2⟩ := A
  have ks0 := cell_regrown s0
  have HA := hid A
  have HBa := hid ba
  clear hwa A ba
  refine wp_region_quiet_below (by kernel_rfl) (by kernel_rfl) ?_
  repeat (go_big_quiet_step ((go_at_call 24; exact Calls.regrown_of (rceiling_is HCE.out _ (Ha.out.later (below_regrown _ _ _)) hl))))
  refine wpQuiet_nil ?_
  intro w1 hw
  have hw := below_of_regrown hw
  have H1 := Ha.out.later hw
  have c1 := H1.c1
  have ⟨s0, s1, s2⟩ := HA.out.later hw
  have HB1 := hid (Below.on HBa.out hw)
  clear H1 ks0 hw HA HBa Ha
  go_wp2_with fail
  go_ret2
  exact ⟨rfl, HB1.out⟩

set_option maxHeartbeats 1000000 in
theorem rneed_in (B : Nat) (x : Rd) (a b d cl : Int) (w : World) (H : Hid (RefAt w B x)) (hl : x.ls.length ≤ 9223372036854775807) (HCE : Hid (maxL 0 x.ls = cl)) (ha : (a == 18446744073709551615) = false) (hlt : a < cl) :
    Calls Try.prog 20 #[.pointer (some ⟨x.d, 0, none⟩), stv a b d] w fun e w' => e = .returned (.tuple #[.int .u64 0, .bool false]) ∧ Below w.heap.size w w' := by
  have hd := H.out.lt
  go_enter Try.func20, Try.ntmps20
  go_wp2_with fail
  obtain ⟨wa, hwa⟩ : ∃ wa, wa = w3c w a b d := ⟨_, rfl⟩
  have ba : Below w.heap.size w wa := by rw [hwa]; exact w3c_below _ _ _ _
  have A := w3c_at w a b d
  rw [← hwa] at A
  show Code.wp _ _ _ _ (w3c w a b d)
  rw [← hwa]
  have Ha := hid (H.out.later ba)
  have ⟨s0, s1, s2⟩ := A
  have ks0 := cell_regrown s0
  have HA := hid A
  have HBa := hid ba
  clear hwa A ba
  refine wp_region_quiet_below (by kernel_rfl) (by kernel_rfl) ?_
  repeat (go_big_quiet_step ((go_at_call 24; exact Calls.regrown_of (rceiling_is HCE.out _ (Ha.out.later (below_regrown _ _ _)) hl))))
  refine wpQuiet_nil ?_
  intro w1 hw
  have hw := below_of_regrown hw
  have H1 := Ha.out.later hw
  have c1 := H1.c1
  have ⟨s0, s1, s2⟩ := HA.out.later hw
  have HB1 := hid (Below.on HBa.out hw)
  clear H1 ks0 hw HA HBa Ha
  go_wp2_with fail
  go_ret2
  exact ⟨rfl, HB1.out⟩

set_option maxHeartbeats 1000000 in
theorem rneed_cut (B : Nat) (x : Rd) (a b d cl : Int) (w : World) (H : Hid (RefAt w B x)) (hl : x.ls.length ≤ 9223372036854775807) (HCE : Hid (maxL 0 x.ls = cl)) (ha : (a == 18446744073709551615) = false) (hlt : decide (a < cl) = false) (h0 : 0 ≤ a) (h1 : a ≤ 18446744073709551615) (hw : 18446744073709551615 - a ≤ x.win) :
    Calls Try.prog 20 #[.pointer (some ⟨x.d, 0, none⟩), stv a b d] w fun e w' => e = .returned (.tuple #[.int .u64 18446744073709551615, .bool true]) ∧ Below w.heap.size w w' := by
  have hd := H.out.lt
  go_enter Try.func20, Try.ntmps20
  go_wp2_with fail
  obtain ⟨wa, hwa⟩ : ∃ wa, wa = w3c w a b d := ⟨_, rfl⟩
  have ba : Below w.heap.size w wa := by rw [hwa]; exact w3c_below _ _ _ _
  have A := w3c_at w a b d
  rw [← hwa] at A
  show Code.wp _ _ _ _ (w3c w a b d)
  rw [← hwa]
  have Ha := hid (H.out.later ba)
  have ⟨s0, s1, s2⟩ := A
  have ks0 := cell_regrown s0
  have HA := hid A
  have HBa := hid ba
  clear hwa A ba
  refine wp_region_quiet_below (by kernel_rfl) (by kernel_rfl) ?_
  repeat (go_big_quiet_step ((go_at_call 24; exact Calls.regrown_of (rceiling_is HCE.out _ (Ha.out.later (below_regrown _ _ _)) hl))))
  refine wpQuiet_nil ?_
  intro w1 hw
  have hw := below_of_regrown hw
  have H1 := Ha.out.later hw
  have c1 := H1.c1
  have ⟨s0, s1, s2⟩ := HA.out.later hw
  have HB1 := hid (Below.on HBa.out hw)
  clear H1 ks0 hw HA HBa Ha
  go_wp2_with fail
  go_ret2
  exact ⟨rfl, HB1.out⟩

set_option maxHeartbeats 1000000 in
theorem rneed_out (B : Nat) (x : Rd) (a b d cl : Int) (w : World) (H : Hid (RefAt w B x)) (hl : x.ls.length ≤ 9223372036854775807) (HCE : Hid (maxL 0 x.ls = cl)) (ha : (a == 18446744073709551615) = false) (hlt : decide (a < cl) = false) (h0 : 0 ≤ a) (h1 : a ≤ 18446744073709551615) (h2 : 0 ≤ x.win) (hw : decide (18446744073709551615 - a ≤ x.win) = false) (h3 : a + x.win ≤ 18446744073709551614) :
    Calls Try.prog 20 #[.pointer (some ⟨x.d, 0, none⟩), stv a b d] w fun e w' => e = .returned (.tuple #[.int .u64 (a + x.win + 1), .bool true]) ∧ Below w.heap.size w w' := by
  have hd := H.out.lt
  have h4 : a + x.win ≤ 18446744073709551615 := by omega
  have h5 : a + x.win + 1 ≤ 18446744073709551615 := by omega
  go_enter Try.func20, Try.ntmps20
  go_wp2_with fail
  obtain ⟨wa, hwa⟩ : ∃ wa, wa = w3c w a b d := ⟨_, rfl⟩
  have ba : Below w.heap.size w wa := by rw [hwa]; exact w3c_below _ _ _ _
  have A := w3c_at w a b d
  rw [← hwa] at A
  show Code.wp _ _ _ _ (w3c w a b d)
  rw [← hwa]
  have Ha := hid (H.out.later ba)
  have ⟨s0, s1, s2⟩ := A
  have ks0 := cell_regrown s0
  have HA := hid A
  have HBa := hid ba
  clear hwa A ba
  refine wp_region_quiet_below (by kernel_rfl) (by kernel_rfl) ?_
  repeat (go_big_quiet_step ((go_at_call 24; exact Calls.regrown_of (rceiling_is HCE.out _ (Ha.out.later (below_regrown _ _ _)) hl))))
  refine wpQuiet_nil ?_
  intro w1 hw
  have hw := below_of_regrown hw
  have H1 := Ha.out.later hw
  have c1 := H1.c1
  have ⟨s0, s1, s2⟩ := HA.out.later hw
  have HB1 := hid (Below.on HBa.out hw)
  clear H1 ks0 hw HA HBa Ha
  go_wp2_with fail
  go_region
  all_goals
    go_wp2_with fail
    go_ret2
    exact ⟨rfl, Below.on HB1.out (Below.drew (Below.refl _ _))⟩

theorem rneed_is (B : Nat) (x : Rd) (c : Ck) (s : St) {n : Int} {b : Bool} (hn : needN c s.w = n) (hb : mustB c s.w = b) (w : World) (H : RefAt w B x) (hl : x.ls.length ≤ 9223372036854775807) (hce : maxL 0 x.ls = c.ceil) (hwi : x.win = c.win) (hc : c.ok) (hs : s.ok) :
    Calls Try.prog 20 #[.pointer (some ⟨x.d, 0, none⟩), stv s.w s.l s.n] w fun e w' => e = .returned (.tuple #[.int .u64 n, .bool b]) ∧ Below w.heap.size w w' := by
  subst hn hb
  obtain ⟨⟨h1, h2⟩, -, -⟩ := hs
  have h5 := hc.win
  unfold U64 at h5
  by_cases ha : s.w = 18446744073709551615
  · have e : mustB c s.w = false := by simp [mustB, ha]
    have e2 : needN c s.w = 0 := by simp [needN, e]
    rw [e, e2]
    exact rneed_top B x s.w s.l s.n c.ceil w H hl hce (beq_iff_eq.2 ha)
  · by_cases hlt : s.w < c.ceil
    · have e : mustB c s.w = false := by simp [mustB, hlt]
      have e2 : needN c s.w = 0 := by simp [needN, e]
      rw [e, e2]
      exact rneed_in B x s.w s.l s.n c.ceil w H hl hce (beq_eq_false_iff_ne.2 ha) hlt
    · have e : mustB c s.w = true := by simp [mustB, hlt, ha]
      rw [e]
      by_cases h6 : 18446744073709551615 - s.w ≤ x.win
      · have e2 : needN c s.w = 18446744073709551615 := by
          unfold needN; rw [e, if_pos rfl, if_neg (by omega)]
        rw [e2]
        exact rneed_cut B x s.w s.l s.n c.ceil w H hl hce (beq_eq_false_iff_ne.2 ha) (decide_eq_false hlt) h1 h2 h6
      · have e2 : needN c s.w = s.w + x.win + 1 := by unfold needN; rw [e, if_pos rfl, if_pos (by omega), hwi]
        rw [e2]
        exact rneed_out B x s.w s.l s.n c.ceil w H hl hce (beq_eq_false_iff_ne.2 ha) (decide_eq_false hlt) h1 h2 (by omega) (decide_eq_false h6) (by omega)

end Go.Proofs.Ytmloaddbmkonoab
