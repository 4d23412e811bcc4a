import Derived.Test.YtmloaddbmkonoabKClock
namespace Go.Proofs.Ytmloaddbmkonoab
open Go.RowKit Go.Sort
set_option linter.unusedVariables false

set_option maxHeartbeats 400000 in
theorem need_top (p : Nat) (c : Ck) (a b d : Int) (w : World) (h : ClockAt w p c) (ha : (a == 18446744073709551615) = true) :
    Calls Try.prog 19 #[.pointer (some ⟨p, 0, none⟩), stv a b d] w fun e w' => e = .returned (.tuple #[.int .u64 0, .bool false]) ∧ Below w.heap.size w w' := by
  have h0 := h.c0; have h1 := h.c1
  have hp := h.lt
  clear h
  go_enter Try.func19, Try.ntmps19
  go_wp2_with fail
  go_region
  all_goals
    go_wp2_with fail
    go_ret2
    exact ⟨rfl, Below.drew (Below.al (Below.refl _ _) _)⟩

set_option maxHeartbeats 400000 in
theorem need_in (p : Nat) (c : Ck) (a b d : Int) (w : World) (h : ClockAt w p c) (ha : (a == 18446744073709551615) = false) (hl : a < c.ceil) :
    Calls Try.prog 19 #[.pointer (some ⟨p, 0, none⟩), stv a b d] w fun e w' => e = .returned (.tuple #[.int .u64 0, .bool false]) ∧ Below w.heap.size w w' := by
  have h0 := h.c0; have h1 := h.c1
  have hp := h.lt
  clear h
  go_enter Try.func19, Try.ntmps19
  go_wp2_with fail
  go_region
  all_goals
    go_wp2_with fail
    go_ret2
    exact ⟨rfl, Below.drew (Below.al (Below.refl _ _) _)⟩

set_option maxHeartbeats 400000 in
theorem need_out (p : Nat) (c : Ck) (a b d : Int) (w : World) (h : ClockAt w p c) (ha : (a == 18446744073709551615) = false) (hl : ¬ a < c.ceil) (h3 : 0 ≤ a) (h4 : a ≤ 18446744073709551614) (h5 : 0 ≤ c.win) (h6 : c.win ≤ 18446744073709551615 - (a + 1)) :
    Calls Try.prog 19 #[.pointer (some ⟨p, 0, none⟩), stv a b d] w fun e w' => e = .returned (.tuple #[.int .u64 (a + 1 + c.win), .bool true]) ∧ Below w.heap.size w w' := by
  have h0 := h.c0; have h1 := h.c1
  have hp := h.lt
  clear h
  go_enter Try.func19, Try.ntmps19
  go_wp2_with fail
  go_region
  all_goals
    go_wp2_with fail
    go_ret2
    exact ⟨rfl, Below.drew (Below.al (Below.refl _ _) _)⟩

set_option maxHeartbeats 400000 in
theorem need_cut (p : Nat) (c : Ck) (a b d : Int) (w : World) (h : ClockAt w p c) (ha : (a == 18446744073709551615) = false) (hl : ¬ a < c.ceil) (h3 : 0 ≤ a) (h4 : a ≤ 18446744073709551614) (h5 : 0 ≤ c.win) (h6 : ¬ c.win ≤ 18446744073709551615 - (a + 1)) :
    Calls Try.prog 19 #[.pointer (some ⟨p, 0, none⟩), stv a b d] w fun e w' => e = .returned (.tuple #[.int .u64 18446744073709551615, .bool true]) ∧ Below w.heap.size w w' := by
  have h0 := h.c0; have h1 := h.c1
  have hp := h.lt
  have HE : Hid (a + 1 + (18446744073709551615 - (a + 1)) = 18446744073709551615) := hid (by omega)
  clear h
  go_enter Try.func19, Try.ntmps19
  go_wp2_with fail
  go_region
  all_goals
    go_wp2_with fail
    go_ret2
    refine ⟨?_, Below.drew (Below.al (Below.refl _ _) _)⟩
    show Ending.returned (.tuple #[.int .u64 (a + 1 + (18446744073709551615 - (a + 1))), .bool true]) = _
    rw [HE.out]

theorem need_any (p : Nat) (c : Ck) (s : St) (w : World) (h : ClockAt w p c) (hc : c.ok) (hs : s.ok) :
    Calls Try.prog 19 #[.pointer (some ⟨p, 0, none⟩), stv s.w s.l s.n] w fun e w' => e = .returned (.tuple #[.int .u64 (needN c s.w), .bool (mustB c s.w)]) ∧ Below w.heap.size w w' := by
  obtain ⟨⟨h1, h2⟩, -, -⟩ := hs
  have h5 := hc.win
  unfold U64 at h5
  by_cases ha : s.w = 18446744073709551615
  · have e : mustB c s.w = false := by simp [mustB, ha]
    have e2 : needN c s.w = 0 := by simp [needN, e]
    rw [e, e2]
    exact need_top p c s.w s.l s.n w h (beq_iff_eq.2 ha)
  · by_cases hl : s.w < c.ceil
    · have e : mustB c s.w = false := by simp [mustB, hl]
      have e2 : needN c s.w = 0 := by simp [needN, e]
      rw [e, e2]
      exact need_in p c s.w s.l s.n w h (beq_eq_false_iff_ne.2 ha) hl
    · have e : mustB c s.w = true := by simp [mustB, hl, ha]
      rw [e]
      by_cases h6 : c.win ≤ 18446744073709551615 - (s.w + 1)
      · have e2 : needN c s.w = s.w + 1 + c.win := by unfold needN; rw [e, if_pos rfl, if_pos (by omega)]; omega
        rw [e2]
        exact need_out p c s.w s.l s.n w h (beq_eq_false_iff_ne.2 ha) hl h1 (by omega) h5.1 h6
      · have e2 : needN c s.w = 18446744073709551615 := by
          unfold needN; rw [e, if_pos rfl]
          split <;> omega
        rw [e2]
        exact need_cut p c s.w s.l s.n w h (beq_eq_false_iff_ne.2 ha) hl h1 (by omega) h5.1 h6

theorem need_is {p : Nat} {c : Ck} {s : St} {n : Int} {b : Bool} (hn : needN c s.w = n) (hb : mustB c s.w = b) (w : World) (h : ClockAt w p c) (hc : c.ok) (hs : s.ok) :
    Calls Try.prog 19 #[.pointer (some ⟨p, 0, none⟩), stv s.w s.l s.n] w fun e w' => e = .returned (.tuple #[.int .u64 n, .bool b]) ∧ Below w.heap.size w w' := by
  rw [← hn, ← hb]; exact need_any p c s w h hc hs

end Go.Proofs.Ytmloaddbmkonoab
