import Derived.Test.YtodolbekbeccbabSmall
namespace Go.Proofs.Ytodolbekbeccbab
open Go.RowKit Go.Sort

theorem small_piece (s : ByteArray) (i j : Nat) (w : World) (hs : (s.extract i j).size ≤ 8) :
    Calls Try.prog 19 #[.string (s.extract i j)] w fun e w' => e = .returned (.int .u64 (piece s i j)) ∧ w' = w := small_any (s.extract i j) w hs

set_option maxHeartbeats 400000 in
theorem refunpack_no (s : ByteArray) (w : World) (hs : ((s.size : Int) != 16) = true) :
    Calls Try.prog 7 #[.string s] w fun e w' => e = .returned (.tuple #[stv 0 0 0, .int .i64 10]) ∧ Below w.heap.size w w' := by
  go_enter Try.func7, Try.ntmps7
  go_wp2
  exact bodyPost_ret (v := .tuple #[stv 0 0 0, .int .i64 10]) (by simp [results, Try.results7, go_sem]) rfl ⟨rfl, Below.al (Below.refl _ _) _⟩

set_option maxHeartbeats 1000000 in
theorem refunpack_yes (s : ByteArray) (w : World) (hs : s.size = 16) :
    Calls Try.prog 7 #[.string s] w fun e w' => e = .returned (.tuple #[stv (piece s 0 8) (piece s 8 12) (piece s 12 16), .int .i64 0]) ∧ Below w.heap.size w w' := by
  have hs' : ((s.size : Int) != 16) = false := by rw [hs]; rfl
  have hw1 : IntKind.u32.wrap (piece s 8 12) = piece s 8 12 := by
    have := piece_bound s (i := 8) (j := 12) (n := 4) (by simp [hs])
    rw [wrap_u32_eq]; omega
  have hw2 : IntKind.u32.wrap (piece s 12 16) = piece s 12 16 := by
    have := piece_bound s (i := 12) (j := 16) (n := 4) (by simp [hs])
    rw [wrap_u32_eq]; omega
  go_enter Try.func7, Try.ntmps7
  go_wp2_with fail
  go_region_held3 (fun w' => True)
    (trivial)
    (first | (go_at_call 19; refine (small_piece s _ _ _ (by simp [hs])).mono ?_; rintro e w1 ⟨rfl, rfl⟩))
  go_wp2_with fail
  exact bodyPost_ret (v := .tuple #[stv (piece s 0 8) (piece s 8 12) (piece s 12 16), .int .i64 0]) (by simp [results, Try.results7, go_sem]) rfl ⟨rfl, (Below.al (Below.refl _ _) _).drew⟩

end Go.Proofs.Ytodolbekbeccbab
