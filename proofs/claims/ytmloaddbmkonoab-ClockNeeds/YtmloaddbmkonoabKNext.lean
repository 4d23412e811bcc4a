import Derived.Test.YtmloaddbmkonoabBase0
import Derived.Test.YtmloaddbmkonoabNextPlain
namespace Go.Proofs.Ytmloaddbmkonoab
open Go.RowKit Go.Sort
set_option linter.unusedVariables false

set_option maxHeartbeats 400000 in
theorem next_top (a b c n : Int) (w : World) (h1 : (a == 18446744073709551615) = true) :
    Calls Try.prog 28 #[stv a b c, .int .u32 n] w fun e w' => e = .returned (.tuple #[stv 0 0 0, .int .i64 11]) ∧ Below w.heap.size w w' := by
  go_enter Try.func28, Try.ntmps28
  go_wp2
  exact bodyPost_ret (v := .tuple #[stv 0 0 0, .int .i64 11]) (by simp [results, Try.results28, go_sem]) rfl ⟨rfl, ((Below.refl _ _).alloc (Nat.le_refl _) _).alloc (by simp) _⟩

set_option maxHeartbeats 400000 in
theorem next_in (a b c n : Int) (w : World) (h1 : (a == 18446744073709551615) = false) (h2 : b < 4294967295) (h3 : 0 ≤ b) :
    Calls Try.prog 28 #[stv a b c, .int .u32 n] w fun e w' => e = .returned (.tuple #[stv a (b + 1) n, .int .i64 0]) ∧ Below w.heap.size w w' := by
  go_enter Try.func28, Try.ntmps28
  go_wp2
  exact bodyPost_ret (v := .tuple #[stv a (b + 1) n, .int .i64 0]) (by simp [results, Try.results28, go_sem]) rfl ⟨rfl, ((Below.refl _ _).alloc (Nat.le_refl _) _).alloc (by simp) _⟩

set_option maxHeartbeats 400000 in
theorem next_end (a b c n : Int) (w : World) (h1 : (a == 18446744073709551615) = false) (h2 : ¬ b < 4294967295) (h3 : 0 ≤ a) (h4 : a ≤ 18446744073709551614) (h5 : (a + 1 == 18446744073709551615) = true) :
    Calls Try.prog 28 #[stv a b c, .int .u32 n] w fun e w' => e = .returned (.tuple #[stv 0 0 0, .int .i64 11]) ∧ Below w.heap.size w w' := by
  go_enter Try.func28, Try.ntmps28
  go_wp2
  exact bodyPost_ret (v := .tuple #[stv 0 0 0, .int .i64 11]) (by simp [results, Try.results28, go_sem]) rfl ⟨rfl, ((Below.refl _ _).alloc (Nat.le_refl _) _).alloc (by simp) _⟩

set_option maxHeartbeats 400000 in
theorem next_up (a b c n : Int) (w : World) (h1 : (a == 18446744073709551615) = false) (h2 : ¬ b < 4294967295) (h3 : 0 ≤ a) (h4 : a ≤ 18446744073709551614) (h5 : (a + 1 == 18446744073709551615) = false) :
    Calls Try.prog 28 #[stv a b c, .int .u32 n] w fun e w' => e = .returned (.tuple #[stv (a + 1) 0 n, .int .i64 0]) ∧ Below w.heap.size w w' := by
  go_enter Try.func28, Try.ntmps28
  go_wp2
  exact bodyPost_ret (v := .tuple #[stv (a + 1) 0 n, .int .i64 0]) (by simp [results, Try.results28, go_sem]) rfl ⟨rfl, ((Below.refl _ _).alloc (Nat.le_refl _) _).alloc (by simp) _⟩

theorem next_any (a b c n : Int) (w : World) (hs : StB a b c) :
    Calls Try.prog 28 #[stv a b c, .int .u32 n] w fun e w' => e = .returned (.tuple #[stv (nxt a b n).W (nxt a b n).L (nxt a b n).N, .int .i64 (nxt a b n).E]) ∧ Below w.heap.size w w' := by
  obtain ⟨⟨h1, h2⟩, ⟨h3, h4⟩, h5, h6⟩ := hs
  by_cases ha : a = 18446744073709551615
  · rw [nxt_top ha]
    exact next_top a b c n w (beq_iff_eq.2 ha)
  · by_cases hb : b < 4294967295
    · rw [nxt_in ha hb]
      exact next_in a b c n w (beq_eq_false_iff_ne.2 ha) hb h3
    · by_cases hl : a + 1 = 18446744073709551615
      · rw [nxt_end ha hb hl]
        exact next_end a b c n w (beq_eq_false_iff_ne.2 ha) hb h1 (by omega) (beq_iff_eq.2 (by omega))
      · rw [nxt_up ha hb hl]
        exact next_up a b c n w (beq_eq_false_iff_ne.2 ha) hb h1 (by omega) (beq_eq_false_iff_ne.2 (by omega))

theorem next_is {a b c n W L N E : Int} (h : nxt a b n = ⟨W, L, N, E⟩) (hs : StB a b c) (w : World) :
    Calls Try.prog 28 #[stv a b c, .int .u32 n] w fun e w' => e = .returned (.tuple #[stv W L N, .int .i64 E]) ∧ Below w.heap.size w w' := by
  have := next_any a b c n w hs
  rw [h] at this
  exact this

end Go.Proofs.Ytmloaddbmkonoab
