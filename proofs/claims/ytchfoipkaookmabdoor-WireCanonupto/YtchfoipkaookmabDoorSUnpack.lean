import Derived.Test.YtchfoipkaookmabDoorSNumber
namespace Go.Proofs.YtchfoipkaookmabDoor
open Go.RowKit Go.Sort

/-- a piece of a string -/
def piece (s : ByteArray) (i j : Nat) : Int := numL (s.extract i j).data.toList 0

theorem piece_bound (s : ByteArray) {i j n : Nat} (h : (s.extract i j).size ≤ n) : 0 ≤ piece s i j ∧ piece s i j < 256 ^ n := by
  have hb := numL_bound (s.extract i j).data.toList
  refine ⟨hb.1, Int.lt_of_lt_of_le hb.2 (pow256_le ?_)⟩
  exact h

theorem wrap_u32_eq (n : Int) : IntKind.u32.wrap n = n % 4294967296 := by simp [IntKind.wrap, IntKind.bits, IntKind.signed]

theorem number_piece (s : ByteArray) (i j : Nat) (w : World) (hs : (s.extract i j).size ≤ 8) :
    Calls Tryd.prog 50 #[.string (s.extract i j)] w fun e w' => e = .returned (.int .u64 (piece s i j)) ∧ w' = w := number_any (s.extract i j) w hs

set_option maxHeartbeats 400000 in
theorem unpack_no (s : ByteArray) (w : World) (hs : ((s.size : Int) != 16) = true) :
    Calls Tryd.prog 46 #[.string s] w fun e w' => e = .returned (.tuple #[stv 0 0 0, .int .i64 10]) ∧ Below w.heap.size w w' := by
  go_enter Tryd.func46, Tryd.ntmps46
  go_wp2
  exact bodyPost_ret (v := .tuple #[stv 0 0 0, .int .i64 10]) (by simp [results, Tryd.results46, go_sem]) rfl ⟨rfl, Below.al (Below.refl _ _) _⟩

set_option maxHeartbeats 1000000 in
theorem unpack_yes (s : ByteArray) (w : World) (hs : s.size = 16) :
    Calls Tryd.prog 46 #[.string s] w fun e w' => e = .returned (.tuple #[stv (piece s 0 8) (piece s 8 12) (piece s 12 16), .int .i64 0]) ∧ Below w.heap.size w w' := by
  have hs' : ((s.size : Int) != 16) = false := by rw [hs]; rfl
  have hw1 : IntKind.u32.wrap (piece s 8 12) = piece s 8 12 := by
    have := piece_bound s (i := 8) (j := 12) (n := 4) (by simp [hs])
    rw [wrap_u32_eq]; omega
  have hw2 : IntKind.u32.wrap (piece s 12 16) = piece s 12 16 := by
    have := piece_bound s (i := 12) (j := 16) (n := 4) (by simp [hs])
    rw [wrap_u32_eq]; omega
  go_enter Tryd.func46, Tryd.ntmps46
  go_wp2_with fail
  go_region_held3 (fun w' => True)
    (trivial)
    (first | (go_at_call 50; refine (number_piece s _ _ _ (by simp [hs])).mono ?_; rintro e w1 ⟨rfl, rfl⟩))
  go_wp2_with fail
  exact bodyPost_ret (v := .tuple #[stv (piece s 0 8) (piece s 8 12) (piece s 12 16), .int .i64 0]) (by simp [results, Tryd.results46, go_sem]) rfl ⟨rfl, (Below.al (Below.refl _ _) _).drew⟩

end Go.Proofs.YtchfoipkaookmabDoor
