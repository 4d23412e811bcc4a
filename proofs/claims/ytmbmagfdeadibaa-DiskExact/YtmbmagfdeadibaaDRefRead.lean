import Derived.Test.YtmbmagfdeadibaaDRef
namespace Go.Proofs.Ytmbmagfdeadibaa
open Go.RowKit Go.Sort
set_option linter.unusedVariables false

theorem RefD.row0 {w : World} {x : Rf} (h : RefD w x) : ∃ a c, x.v 0 = .slice a (x.r 0).length c ∧ RowC w a (x.r 0) := rowC_of_owns h.o0
theorem RefD.row1 {w : World} {x : Rf} (h : RefD w x) : ∃ a c, x.v 1 = .slice a (x.r 1).length c ∧ RowC w a (x.r 1) := rowC_of_owns h.o1
theorem RefD.l0 {w : World} {x : Rf} (h : RefD w x) : (x.r 0).length ≤ 1048576 := by have := h.used; have := h.cl; omega
theorem RefD.l1 {w : World} {x : Rf} (h : RefD w x) : (x.r 1).length ≤ 1048576 := by have := h.used; have := h.cl; omega

set_option maxHeartbeats 1000000 in
theorem rused_is {w : World} {x : Rf} (h : RefD w x) :
    Calls Try.prog 38 #[.pointer (some ⟨x.p, 0, none⟩)] w fun e w' => e = .returned (.int .i64 (((x.r 0).length + (x.r 1).length : Nat) : Int)) ∧ Below w.heap.size w w' := by
  obtain ⟨a0, k0, e0, -⟩ := h.row0
  obtain ⟨a1, k1, e1, -⟩ := h.row1
  have c1 := h.c1
  have c2 := h.c2
  rw [e0] at c1
  rw [e1] at c2
  have H := hid h
  have hw : IntKind.i64.wrap (((x.r 0).length : Int) + ((x.r 1).length : Int)) = ((x.r 0).length : Int) + ((x.r 1).length : Int) := by
    have := h.l0; have := h.l1; rw [IntKind.wrap_i64]; omega
  have kc1 := cell_regrown c1
  have kc2 := cell_regrown c2
  clear h e0 e1 c1 c2
  go_enter Try.func38, Try.ntmps38
  go_wp2_with fail
  refine wp_region_quiet_below (by kernel_rfl) (by kernel_rfl) ?_
  repeat (go_big_quiet_step (fail))
  refine wpQuiet_nil ?_
  intro w1 hw1
  replace hw1 := below_of_regrown hw1
  go_wp2_with fail
  go_ret
  exact ⟨by first | rfl | simp [hw], hw1⟩

set_option maxHeartbeats 1000000 in
theorem rfree_is {w : World} {x : Rf} (h : RefD w x) :
    Calls Try.prog 39 #[.pointer (some ⟨x.p, 0, none⟩)] w fun e w' => e = .returned (.int .i64 ((x.cap - ((x.r 0).length + (x.r 1).length) : Nat) : Int)) ∧ Below w.heap.size w w' := by
  have H := hid h
  have c0 := h.c0
  have k0 := cell_regrown c0
  have hu := h.used
  have hc := h.cl
  obtain ⟨n, hn⟩ : ∃ n, n = (x.r 0).length + (x.r 1).length := ⟨_, rfl⟩
  have HN := hid hn
  rw [← hn] at hu ⊢
  have hw : IntKind.i64.wrap ((x.cap : Int) - (n : Int)) = ((x.cap - n : Nat) : Int) := by rw [IntKind.wrap_i64]; omega
  clear h hn c0
  go_enter Try.func39, Try.ntmps39
  go_wp2_with fail
  refine wp_region_quiet_below (by kernel_rfl) (by kernel_rfl) ?_
  repeat (go_big_quiet_step ((go_at_call 38; exact Calls.regrown_of (HN.out ▸ rused_is (H.out.later (below_regrown _ _ _))))))
  refine wpQuiet_nil ?_
  intro w1 hw1
  replace hw1 := below_of_regrown hw1
  go_wp2_with fail
  go_ret
  exact ⟨by first | rfl | simp [hw], hw1⟩

/-- how many cells are sure -/
def sures (xs : List Cc) : Nat := (xs.filter Cc.s).length
theorem sures_snoc (xs : List Cc) (c : Cc) : sures (xs ++ [c]) = sures xs + (if c.s then 1 else 0) := by
  simp only [sures, List.filter_append, List.length_append]
  cases h : c.s <;> simp [h]
theorem sures_le (xs : List Cc) : sures xs ≤ xs.length := List.length_filter_le _ _
def bytesC (xs : List Cc) : List Nat := xs.map Cc.b

set_option maxHeartbeats 2000000 in
theorem rsynced0 {w : World} {x : Rf} (h : RefD w x) :
    Calls Try.prog 35 #[.pointer (some ⟨x.p, 0, none⟩), .int .i64 0] w fun e w' => e = .returned (.int .i64 (sures (x.r 0) : Int)) ∧ Below w.heap.size w w' := by
  obtain ⟨a, c, e, hr⟩ := h.row0
  have hl := h.l0
  have cc := h.c1
  rw [e] at cc
  obtain ⟨xs, hxs⟩ : ∃ xs, xs = x.r 0 := ⟨_, rfl⟩
  rw [← hxs] at cc hl hr ⊢
  clear e hxs h
  have HR := hid hr
  clear hr
  go_enter Try.func35, Try.ntmps35
  go_wp2_with fail
  refine (rright_is (u := true) rfl _).mono ?_
  rintro e w1 ⟨rfl, rfl⟩
  go_wp2_with fail
  go_loopg [5, 6] xs.length (fun g s5 s6 wr => ∃ k : Nat, k ≤ xs.length ∧ g = xs.length - k ∧ s5 = .int .i64 (sures (xs.take k) : Int) ∧ s6 = .int .i64 k ∧ wr = w1)
  case atStart => exact ⟨0, by omega, by omega, rfl, rfl, rfl⟩
  case round =>
    obtain ⟨k, hk, rfl, rfl, rfl, rfl⟩ := hrel
    by_cases hlt : k < xs.length
    · obtain ⟨b, off, rfl, d0, d1⟩ := HR.out k hlt
      have hs := sures_snoc (xs.take k) (nthC xs k)
      rw [← nthC_take hlt] at hs
      have hle : sures (xs.take k) ≤ 1048576 := by have := sures_le (xs.take k); rw [List.length_take] at this; omega
      obtain ⟨y, hy⟩ : ∃ y, y = nthC xs k := ⟨_, rfl⟩
      rw [← hy] at d0 d1 hs
      obtain ⟨yb, ys⟩ := y
      obtain ⟨q, hq⟩ : ∃ q, q = sures (xs.take k) := ⟨_, rfl⟩
      rw [← hq] at hs hle ⊢
      have HS := hid hs
      clear hs hy hq
      cases ys
      · go_wp2_with fail
        go_roundg (xs.length - (k + 1))
        case measure => omega
        case rel => exact ⟨k + 1, by omega, rfl, by rw [HS.out]; simp, by go_num, rfl⟩
      · have hw : IntKind.i64.wrap ((q : Int) + 1) = ((q + 1 : Nat) : Int) := by rw [IntKind.wrap_i64]; omega
        go_wp2_with fail
        go_roundg (xs.length - (k + 1))
        case measure => omega
        case rel => exact ⟨k + 1, by omega, rfl, by rw [HS.out]; first | rfl | simp [hw] | go_num, by go_num, rfl⟩
    · obtain rfl : k = xs.length := by omega
      have ht : xs.take xs.length = xs := List.take_of_length_le (Nat.le_refl _)
      rw [ht]
      go_wp2_with fail
      go_ret
      exact ⟨rfl, Below.refl _ _⟩
set_option maxHeartbeats 2000000 in
theorem rsynced1 {w : World} {x : Rf} (h : RefD w x) :
    Calls Try.prog 35 #[.pointer (some ⟨x.p, 0, none⟩), .int .i64 1] w fun e w' => e = .returned (.int .i64 (sures (x.r 1) : Int)) ∧ Below w.heap.size w w' := by
  obtain ⟨a, c, e, hr⟩ := h.row1
  have hl := h.l1
  have cc := h.c2
  rw [e] at cc
  obtain ⟨xs, hxs⟩ : ∃ xs, xs = x.r 1 := ⟨_, rfl⟩
  rw [← hxs] at cc hl hr ⊢
  clear e hxs h
  have HR := hid hr
  clear hr
  go_enter Try.func35, Try.ntmps35
  go_wp2_with fail
  refine (rright_is (u := true) rfl _).mono ?_
  rintro e w1 ⟨rfl, rfl⟩
  go_wp2_with fail
  go_loopg [5, 6] xs.length (fun g s5 s6 wr => ∃ k : Nat, k ≤ xs.length ∧ g = xs.length - k ∧ s5 = .int .i64 (sures (xs.take k) : Int) ∧ s6 = .int .i64 k ∧ wr = w1)
  case atStart => exact ⟨0, by omega, by omega, rfl, rfl, rfl⟩
  case round =>
    obtain ⟨k, hk, rfl, rfl, rfl, rfl⟩ := hrel
    by_cases hlt : k < xs.length
    · obtain ⟨b, off, rfl, d0, d1⟩ := HR.out k hlt
      have hs := sures_snoc (xs.take k) (nthC xs k)
      rw [← nthC_take hlt] at hs
      have hle : sures (xs.take k) ≤ 1048576 := by have := sures_le (xs.take k); rw [List.length_take] at this; omega
      obtain ⟨y, hy⟩ : ∃ y, y = nthC xs k := ⟨_, rfl⟩
      rw [← hy] at d0 d1 hs
      obtain ⟨yb, ys⟩ := y
      obtain ⟨q, hq⟩ : ∃ q, q = sures (xs.take k) := ⟨_, rfl⟩
      rw [← hq] at hs hle ⊢
      have HS := hid hs
      clear hs hy hq
      cases ys
      · go_wp2_with fail
        go_roundg (xs.length - (k + 1))
        case measure => omega
        case rel => exact ⟨k + 1, by omega, rfl, by rw [HS.out]; simp, by go_num, rfl⟩
      · have hw : IntKind.i64.wrap ((q : Int) + 1) = ((q + 1 : Nat) : Int) := by rw [IntKind.wrap_i64]; omega
        go_wp2_with fail
        go_roundg (xs.length - (k + 1))
        case measure => omega
        case rel => exact ⟨k + 1, by omega, rfl, by rw [HS.out]; first | rfl | simp [hw] | go_num, by go_num, rfl⟩
    · obtain rfl : k = xs.length := by omega
      have ht : xs.take xs.length = xs := List.take_of_length_le (Nat.le_refl _)
      rw [ht]
      go_wp2_with fail
      go_ret
      exact ⟨rfl, Below.refl _ _⟩
set_option maxHeartbeats 1000000 in
theorem rsynced_no {w : World} {p : Option Addr} {s : Int} (hs : (s == 0 || s == 1) = false) :
    Calls Try.prog 35 #[.pointer p, .int .i64 s] w fun e w' => e = .returned (.int .i64 0) ∧ Below w.heap.size w w' := by
  have HS := hid hs
  clear hs
  go_enter Try.func35, Try.ntmps35
  go_wp2_with fail
  refine (rright_is HS.out _).mono ?_
  rintro e w1 ⟨rfl, rfl⟩
  go_wp2_with fail
  go_ret
  exact ⟨rfl, Below.refl _ _⟩
set_option maxHeartbeats 1000000 in
theorem rbytes_no {w : World} {p : Option Addr} {s : Int} (hs : (s == 0 || s == 1) = false) :
    Calls Try.prog 34 #[.pointer p, .int .i64 s] w fun e w' => e = .returned (.string ⟨#[]⟩) ∧ Below w.heap.size w w' := by
  have HS := hid hs
  clear hs
  go_enter Try.func34, Try.ntmps34
  go_wp2_with fail
  refine (rright_is HS.out _).mono ?_
  rintro e w1 ⟨rfl, rfl⟩
  go_wp2_with fail
  go_ret
  exact ⟨rfl, Below.refl _ _⟩

end Go.Proofs.Ytmbmagfdeadibaa
