import Derived.Test.YtcinapjkdmmppaaEqs
import Derived.Test.YtcinapjkdmmppaaNextPlain
/- ReplicaAfter: the least stamp above (written by mk_ra.py). -/
namespace Go.Proofs.Ytcinapjkdmmppaa
open Go.RowKit Go.Sort
set_option linter.unusedVariables false

/-- the least stamp above -/
structure Af where
  W : Int
  L : Int
  N : Int
def aft (a b c : Int) : Af :=
  if c < 4294967295 then ⟨a, b, c + 1⟩ else if b < 4294967295 then ⟨a, b + 1, 0⟩ else if a < 18446744073709551615 then ⟨a + 1, 0, 0⟩ else ⟨a, b, c⟩

theorem aft_last {a b c x y z : Int} (h : aft a b c = ⟨x, y, z⟩) (hs : a = 18446744073709551615 ∧ b = 4294967295 ∧ c = 4294967295) : x = 18446744073709551615 ∧ y = 4294967295 ∧ z = 4294967295 := by
  obtain ⟨rfl, rfl, rfl⟩ := hs
  unfold aft at h
  simp at h
  omega
theorem aft_up {a b c x y z : Int} (h : aft a b c = ⟨x, y, z⟩) (hs : StB a b c) (hn : ¬ (a = 18446744073709551615 ∧ b = 4294967295 ∧ c = 4294967295)) : lessB a b c x y z = true := by
  obtain ⟨⟨a0, a1⟩, ⟨b0, b1⟩, c0, c1⟩ := hs
  rw [lessB_iff]
  unfold aft at h
  split at h
  · injection h with h1 h2 h3; omega
  · split at h
    · injection h with h1 h2 h3; omega
    · split at h
      · injection h with h1 h2 h3; omega
      · omega
theorem aft_least {a b c x y z p q r : Int} (h : aft a b c = ⟨x, y, z⟩) (hs : StB a b c) (ht : StB p q r) (hn : ¬ (a = 18446744073709551615 ∧ b = 4294967295 ∧ c = 4294967295)) (hl : lessB a b c p q r = true) : lessB p q r x y z = false := by
  obtain ⟨⟨a0, a1⟩, ⟨b0, b1⟩, c0, c1⟩ := hs
  obtain ⟨⟨p0, p1⟩, ⟨q0, q1⟩, r0, r1⟩ := ht
  rw [lessB_iff] at hl
  rw [lessB_iff_false]
  unfold aft at h
  split at h
  · injection h with h1 h2 h3; omega
  · split at h
    · injection h with h1 h2 h3; omega
    · split at h
      · injection h with h1 h2 h3; omega
      · omega

set_option maxHeartbeats 400000 in
theorem after_any (a b c : Int) (hs : StB a b c) (w : World) :
    Calls Try.prog 4 #[stv a b c] w fun e w' => e = .returned (stv (aft a b c).W (aft a b c).L (aft a b c).N) ∧ Below w.heap.size w w' := by
  obtain ⟨⟨a0, a1⟩, ⟨b0, b1⟩, c0, c1⟩ := hs
  by_cases h1 : c < 4294967295
  · have e : aft a b c = ⟨a, b, c + 1⟩ := by unfold aft; rw [if_pos h1]
    rw [e]
    go_enter Try.func4, Try.ntmps4
    go_wp2
    exact bodyPost_ret (v := stv a b (c + 1)) (by simp [results, Try.results4, go_sem]) rfl ⟨rfl, (by first | exact ((Below.refl _ _).alloc (Nat.le_refl _) _).alloc (by simp) _ | exact (((Below.refl _ _).alloc (Nat.le_refl _) _).alloc (by simp) _).setCell (by simp) _ | (repeat (first | exact Below.refl _ _ | refine Below.drew ?_ | refine Below.al ?_ _ | refine Below.setCell ?_ (by first | exact Nat.le_refl _ | (simp; omega) | (simp; done)) _)))⟩
  · by_cases h2 : b < 4294967295
    · have e : aft a b c = ⟨a, b + 1, 0⟩ := by unfold aft; rw [if_neg h1, if_pos h2]
      rw [e]
      go_enter Try.func4, Try.ntmps4
      go_wp2
      exact bodyPost_ret (v := stv a (b + 1) 0) (by simp [results, Try.results4, go_sem]) rfl ⟨rfl, (by first | exact ((Below.refl _ _).alloc (Nat.le_refl _) _).alloc (by simp) _ | exact (((Below.refl _ _).alloc (Nat.le_refl _) _).alloc (by simp) _).setCell (by simp) _ | (repeat (first | exact Below.refl _ _ | refine Below.drew ?_ | refine Below.al ?_ _ | refine Below.setCell ?_ (by first | exact Nat.le_refl _ | (simp; omega) | (simp; done)) _)))⟩
    · by_cases h3 : a < 18446744073709551615
      · have e : aft a b c = ⟨a + 1, 0, 0⟩ := by unfold aft; rw [if_neg h1, if_neg h2, if_pos h3]
        rw [e]
        go_enter Try.func4, Try.ntmps4
        go_wp2
        exact bodyPost_ret (v := stv (a + 1) 0 0) (by simp [results, Try.results4, go_sem]) rfl ⟨rfl, (by first | exact ((Below.refl _ _).alloc (Nat.le_refl _) _).alloc (by simp) _ | exact (((Below.refl _ _).alloc (Nat.le_refl _) _).alloc (by simp) _).setCell (by simp) _ | (repeat (first | exact Below.refl _ _ | refine Below.drew ?_ | refine Below.al ?_ _ | refine Below.setCell ?_ (by first | exact Nat.le_refl _ | (simp; omega) | (simp; done)) _)))⟩
      · have e : aft a b c = ⟨a, b, c⟩ := by unfold aft; rw [if_neg h1, if_neg h2, if_neg h3]
        rw [e]
        go_enter Try.func4, Try.ntmps4
        go_wp2
        exact bodyPost_ret (v := stv a b c) (by simp [results, Try.results4, go_sem]) rfl ⟨rfl, (by first | exact ((Below.refl _ _).alloc (Nat.le_refl _) _).alloc (by simp) _ | exact (((Below.refl _ _).alloc (Nat.le_refl _) _).alloc (by simp) _).setCell (by simp) _ | (repeat (first | exact Below.refl _ _ | refine Below.drew ?_ | refine Below.al ?_ _ | refine Below.setCell ?_ (by first | exact Nat.le_refl _ | (simp; omega) | (simp; done)) _)))⟩
theorem after_is {a b c x y z : Int} (h : aft a b c = ⟨x, y, z⟩) (hs : StB a b c) (w : World) :
    Calls Try.prog 4 #[stv a b c] w fun e w' => e = .returned (stv x y z) ∧ Below w.heap.size w w' := by
  have := after_any a b c hs w
  rw [h] at this
  exact this

set_option maxHeartbeats 400000 in
theorem under_any (a b c x y z : Int) (w : World) :
    Calls Try.prog 5 #[stv a b c, stv x y z] w fun e w' => e = .returned (.bool (lessB a b c x y z)) ∧ Below w.heap.size w w' := by
  by_cases h1 : a = x
  · by_cases h2 : b = y
    · subst h1 h2
      go_enter Try.func5, Try.ntmps5
      go_wp2
      go_ret
      exact ⟨by simp [lessB], ((Below.refl _ _).alloc (Nat.le_refl _) _).alloc (by simp) _⟩
    · subst h1
      have h2' : (b != y) = true := by simpa using h2
      go_enter Try.func5, Try.ntmps5
      go_wp2
      go_ret
      exact ⟨by simp [lessB, h2], ((Below.refl _ _).alloc (Nat.le_refl _) _).alloc (by simp) _⟩
  · have h1' : (a != x) = true := by simpa using h1
    go_enter Try.func5, Try.ntmps5
    go_wp2
    go_ret
    exact ⟨by simp [lessB, h1], ((Below.refl _ _).alloc (Nat.le_refl _) _).alloc (by simp) _⟩
theorem under_is {a b c x y z : Int} {v : Bool} (h : lessB a b c x y z = v) (w : World) :
    Calls Try.prog 5 #[stv a b c, stv x y z] w fun e w' => e = .returned (.bool v) ∧ Below w.heap.size w w' := h ▸ under_any a b c x y z w

set_option maxHeartbeats 1000000 in
theorem after_law (a b c p q r : Int) (hs : StB a b c) (ht : StB p q r) (w : World) :
    Calls Try.prog 3 #[.agg #[.int .u64 a, .int .u32 b, .int .u32 c, .int .u64 p, .int .u32 q, .int .u32 r]] w fun e w' => e = .returned (.bool true) ∧ Below w.heap.size w w' := by
  obtain ⟨⟨x, y, z⟩, hx⟩ : ∃ n : Af, aft a b c = n := ⟨_, rfl⟩
  go_enter Try.func3, Try.ntmps3
  have hB0 : Below w.heap.size w w := Below.refl _ _
  obtain ⟨wx, hwx⟩ : ∃ wx, wx = w.alloc (.cells #[.int .u64 a, .int .u32 b, .int .u32 c, .int .u64 p, .int .u32 q, .int .u32 r] 27) := ⟨_, rfl⟩
  have hbx : Below w.heap.size w wx := by rw [hwx]; exact Below.al (Below.refl _ _) _
  have a0 : wx.cell? ⟨w.heap.size, 0, none⟩ = some (.int .u64 a) := by rw [hwx]; simp [go_sem]
  have a1 : wx.cell? ⟨w.heap.size, 1, none⟩ = some (.int .u32 b) := by rw [hwx]; simp [go_sem]
  have a2 : wx.cell? ⟨w.heap.size, 2, none⟩ = some (.int .u32 c) := by rw [hwx]; simp [go_sem]
  have a3 : wx.cell? ⟨w.heap.size, 3, none⟩ = some (.int .u64 p) := by rw [hwx]; simp [go_sem]
  have a4 : wx.cell? ⟨w.heap.size, 4, none⟩ = some (.int .u32 q) := by rw [hwx]; simp [go_sem]
  have a5 : wx.cell? ⟨w.heap.size, 5, none⟩ = some (.int .u32 r) := by rw [hwx]; simp [go_sem]
  have HX := hid hx
  have HS := hid hs
  have HT := hid ht
  have HBX := hid hbx
  clear hx hs ht hbx hB0
  go_upto_region 1 with fail
  rw [← hwx]
  have hN0 : w.heap.size < wx.heap.size := by rw [hwx]; simp
  clear hwx
  by_cases h : a = 18446744073709551615 ∧ b = 4294967295 ∧ c = 4294967295
  · have h2 := aft_last HX.out h
    obtain ⟨rfl, rfl, rfl⟩ := h
    obtain ⟨rfl, rfl, rfl⟩ := h2
    go_wp2_with (first | (go_at_call 4; refine (after_is HX.out HS.out _).mono ?_; rintro e w1 ⟨rfl, hb1⟩; have a0 := cell_later hb1 a0; have a1 := cell_later hb1 a1; have a2 := cell_later hb1 a2; have a3 := cell_later hb1 a3; have a4 := cell_later hb1 a4; have a5 := cell_later hb1 a5; have hN1 := Nat.lt_of_lt_of_le hN0 hb1.size; have HB := hid (Below.on HBX.out hb1); clear hb1) | go_in)
    go_ret
    exact ⟨rfl, Below.al (Below.al HB.out _) _⟩
  · have hu := aft_up HX.out HS.out h
    have hl := fun k => aft_least HX.out HS.out HT.out h k
    have hsb : ∀ w, (binOp .eql 25 (stv a b c) (stv 18446744073709551615 4294967295 4294967295)).run Try.prog w = .ok (.bool false) w := fun w => by rw [run_eq, sameB_no h]
    clear h
    go_upto_region 5 with (first | (go_at_call 4; refine (after_is HX.out HS.out _).mono ?_; rintro e w1 ⟨rfl, hb1⟩; have a0 := cell_later hb1 a0; have a1 := cell_later hb1 a1; have a2 := cell_later hb1 a2; have a3 := cell_later hb1 a3; have a4 := cell_later hb1 a4; have a5 := cell_later hb1 a5; have hN1 := Nat.lt_of_lt_of_le hN0 hb1.size; have HB := hid (Below.on HBX.out hb1); clear hb1) | go_in)
    obtain ⟨wy, hwy⟩ : ∃ wy, wy = (w1.alloc (.cells #[.int .u64 x, .int .u32 y, .int .u32 z] 25)).alloc (.cells #[.int .u64 18446744073709551615, .int .u32 4294967295, .int .u32 4294967295] 25) := ⟨_, rfl⟩
    rw [← hwy]
    have hby : Below w1.heap.size w1 wy := by rw [hwy]; exact Below.al (Below.al (Below.refl _ _) _) _
    have HB := hid (Below.on HB.out hby)
    have a0 := cell_later hby a0; have a1 := cell_later hby a1; have a2 := cell_later hby a2
    have a3 := cell_later hby a3; have a4 := cell_later hby a4; have a5 := cell_later hby a5
    have c0 : wy.cell? ⟨w1.heap.size, 0, none⟩ = some (.int .u64 x) := by rw [hwy]; simp [go_sem]
    have c1 : wy.cell? ⟨w1.heap.size, 1, none⟩ = some (.int .u32 y) := by rw [hwy]; simp [go_sem]
    have c2 : wy.cell? ⟨w1.heap.size, 2, none⟩ = some (.int .u32 z) := by rw [hwy]; simp [go_sem]
    clear hwy hby hN0 hN1 hsb
    cases hk : lessB a b c p q r with
    | false =>
      clear hl
      go_wp2_with (first | (go_at_call 5; refine (under_is (by assumption) _).mono ?_; rintro e w2 ⟨rfl, hb2⟩; have a0 := cell_later hb2 a0; have a1 := cell_later hb2 a1; have a2 := cell_later hb2 a2; have a3 := cell_later hb2 a3; have a4 := cell_later hb2 a4; have a5 := cell_later hb2 a5; have c0 := cell_later hb2 c0; have c1 := cell_later hb2 c1; have c2 := cell_later hb2 c2; have HB := hid (Below.on HB.out hb2); clear hb2) | go_in)
      go_ret
      exact ⟨rfl, HB.out⟩
    | true =>
      have hm := hl hk
      clear hl
      go_wp2_with (first | (go_at_call 5; refine (under_is (by assumption) _).mono ?_; rintro e w2 ⟨rfl, hb2⟩; have a0 := cell_later hb2 a0; have a1 := cell_later hb2 a1; have a2 := cell_later hb2 a2; have a3 := cell_later hb2 a3; have a4 := cell_later hb2 a4; have a5 := cell_later hb2 a5; have c0 := cell_later hb2 c0; have c1 := cell_later hb2 c1; have c2 := cell_later hb2 c2; have HB := hid (Below.on HB.out hb2); clear hb2) | go_in)
      go_ret
      exact ⟨rfl, HB.out⟩
end Go.Proofs.Ytcinapjkdmmppaa
