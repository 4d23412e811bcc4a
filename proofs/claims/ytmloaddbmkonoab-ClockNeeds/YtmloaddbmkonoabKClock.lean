import Derived.Test.YtmloaddbmkonoabKOnly
namespace Go.Proofs.Ytmloaddbmkonoab
open Go.RowKit Go.Sort
set_option linter.unusedVariables false

set_option maxHeartbeats 400000 in
theorem reopen_any (n d g : Int) (w : World) :
    Calls Try.prog 9 #[.int .u32 n, .int .u64 d, .int .u64 g] w fun e w' => e = .returned (.pointer (some ⟨w.heap.size, 0, none⟩)) ∧ Below w.heap.size w w' ∧ ClockAt w' w.heap.size ⟨d, g, n, 0, ⟨g, 0, 0⟩⟩ := by
  go_enter Try.func9, Try.ntmps9
  go_wp2
  go_ret
  refine ⟨rfl, Below.al (Below.refl _ _) _, ?_, ?_, ?_, ?_, ?_, ?_, ?_, fun o => ?_⟩ <;> (simp [go_sem]; done)

set_option maxHeartbeats 400000 in
theorem read_any (p : Nat) (c : Ck) (x : Int) (w : World) (h : ClockAt w p c) :
    Calls Try.prog 11 #[.pointer (some ⟨p, 0, none⟩), .int .u64 x] w fun e w' => e = .returned (.tuple #[]) ∧ Only p w w' ∧ ClockAt w' p { c with rd := x } := by
  have h3 := h.c3
  have hf : ∀ o, w.frozen? ⟨p, o, none⟩ = false := h.loose
  have H := hid h
  clear h
  go_enter Try.func11, Try.ntmps11
  go_wp2
  go_end0
  exact ⟨rfl, (Only.refl _ _).set _ _, H.out.setRd x⟩

set_option maxHeartbeats 400000 in
theorem last_any (p : Nat) (c : Ck) (w : World) (h : ClockAt w p c) :
    Calls Try.prog 17 #[.pointer (some ⟨p, 0, none⟩)] w fun e w' => e = .returned c.l.val ∧ Below w.heap.size w w' := by
  have h4 := h.c4; have h5 := h.c5; have h6 := h.c6
  have hp := h.lt
  clear h
  go_enter Try.func17, Try.ntmps17
  go_wp2
  refine bodyPost_ret (v := c.l.val) (by simp [results, Try.results17, go_sem]) rfl ⟨rfl, ?_⟩
  exact Below.al (Below.refl _ _) _

set_option maxHeartbeats 400000 in
theorem ceiling_any (p : Nat) (c : Ck) (w : World) (h : ClockAt w p c) :
    Calls Try.prog 23 #[.pointer (some ⟨p, 0, none⟩)] w fun e w' => e = .returned (.int .u64 c.ceil) ∧ Below w.heap.size w w' := by
  have h1 := h.c1
  clear h
  go_enter Try.func23, Try.ntmps23
  go_wp2
  go_ret
  exact ⟨rfl, Below.refl _ _⟩

set_option maxHeartbeats 400000 in
theorem new_any (n d : Int) (w : World) :
    Calls Try.prog 7 #[.int .u32 n, .int .u64 d] w fun e w' => e = .returned (.pointer (some ⟨w.heap.size, 0, none⟩)) ∧ Below w.heap.size w w' ∧ ClockAt w' w.heap.size ⟨d, 0, n, 0, ⟨0, 0, 0⟩⟩ := by
  go_enter Try.func7, Try.ntmps7
  go_wp2_with (go_at_call 9; refine (reopen_any n d 0 _).mono ?_; rintro e w1 ⟨rfl, hb, hc⟩)
  go_ret
  exact ⟨rfl, hb, hc⟩

set_option maxHeartbeats 400000 in
theorem reserve_any (p : Nat) (c : Ck) (x : Int) (w : World) (h : ClockAt w p c) :
    Calls Try.prog 21 #[.pointer (some ⟨p, 0, none⟩), .int .u64 x] w fun e w' => e = .returned (.tuple #[]) ∧ Only p w w' ∧ ClockAt w' p { c with ceil := maxI c.ceil x } := by
  have h1 := h.c1
  have hf : ∀ o, w.frozen? ⟨p, o, none⟩ = false := h.loose
  have H := hid h
  clear h
  by_cases hlt : c.ceil < x
  · have hm : Hid (maxI c.ceil x = x) := hid (by unfold maxI; rw [if_pos hlt])
    rw [hm.out]
    go_enter Try.func21, Try.ntmps21
    go_wp2
    go_end0
    exact ⟨rfl, (Only.refl _ _).set _ _, H.out.setCeil x⟩
  · have hm : Hid (maxI c.ceil x = c.ceil) := hid (by unfold maxI; rw [if_neg hlt])
    rw [hm.out]
    go_enter Try.func21, Try.ntmps21
    go_wp2
    go_end0
    exact ⟨rfl, (Only.refl _ _).set _ _, H.out.setCeil _⟩

end Go.Proofs.Ytmloaddbmkonoab
