import Derived.Test.YtchfoipkaookmabDoorBase0
import Derived.Test.YtchfoipkaookmabDoorLex
import Derived.Test.YtchfoipkaookmabDoorNextPlain
import Derived.Laws.Bits64b
namespace Go.Proofs.YtchfoipkaookmabDoor
open Go.RowKit Go.Sort

/-- the number of bytes, the highest first -/
def numL : List UInt8 → Int → Int
  | [], v => v
  | x :: xs, v => numL xs (v * 256 + x.toNat)

theorem numL_snoc (xs : List UInt8) (x : UInt8) (v : Int) : numL (xs ++ [x]) v = numL xs v * 256 + x.toNat := by
  induction xs generalizing v with
  | nil => rfl
  | cons y ys ih => exact ih _

theorem numL_bound (xs : List UInt8) : 0 ≤ numL xs 0 ∧ numL xs 0 < 256 ^ xs.length := by
  have key : ∀ (xs : List UInt8) (v : Int), 0 ≤ v → v * 256 ^ xs.length ≤ numL xs v ∧ numL xs v < (v + 1) * 256 ^ xs.length := by
    intro xs
    induction xs with
    | nil => intro v _; simp [numL]; omega
    | cons x xs ih =>
      intro v hv
      have hx : (x.toNat : Int) < 256 := by have := x.toNat_lt; omega
      have := ih (v * 256 + x.toNat) (by omega)
      rw [numL, List.length_cons, Int.pow_succ]
      have hp : (0 : Int) < 256 ^ xs.length := Int.pow_pos (by decide)
      obtain ⟨h1, h2⟩ := this
      constructor
      · refine Int.le_trans ?_ h1
        rw [Int.add_mul, Int.mul_comm (256 ^ xs.length) 256, ← Int.mul_assoc]
        have : 0 ≤ (x.toNat : Int) * 256 ^ xs.length := Int.mul_nonneg (by omega) (by omega)
        omega
      · refine Int.lt_of_lt_of_le h2 ?_
        rw [Int.mul_comm (256 ^ xs.length) 256, ← Int.mul_assoc]
        exact Int.mul_le_mul_of_nonneg_right (by omega) (by omega)
  have := key xs 0 (by omega)
  simpa using this

theorem pow256_le {m n : Nat} (h : m ≤ n) : (256 : Int) ^ m ≤ 256 ^ n := by
  have := Int.ofNat_le.2 (Nat.pow_le_pow_right (n := 256) (by decide) h)
  simpa using this

theorem take_snoc (s : ByteArray) (k : Nat) (h : k < s.size) : s.data.toList.take (k + 1) = s.data.toList.take k ++ [s[k]] := by
  rw [List.take_succ_eq_append_getElem (by simpa using h)]; rfl

theorem or_low (x y : Int) (hx : 0 ≤ x) (hx' : x < 72057594037927936) (hy : 0 ≤ y) (hy' : y < 256) : bits .or .u64 (x * 256) y = x * 256 + y := by
  obtain ⟨m, rfl⟩ := Int.eq_ofNat_of_zero_le hx
  obtain ⟨n, rfl⟩ := Int.eq_ofNat_of_zero_le hy
  have h := bits_or_u64_nat (m * 256) n (by omega) (by omega)
  have e : m * 256 ||| n = m * 256 + n := by
    have := Nat.shiftLeft_add_eq_or_of_lt (b := n) (i := 8) (by omega) m
    rw [Nat.shiftLeft_eq] at this
    exact this.symm
  rw [e] at h
  simpa using h

set_option maxHeartbeats 400000 in
theorem number_any (s : ByteArray) (w : World) (hs : s.size ≤ 8) :
    Calls Tryd.prog 50 #[.string s] w fun e w' => e = .returned (.int .u64 (numL s.data.toList 0)) ∧ w' = w := by
  go_enter Tryd.func50, Tryd.ntmps50
  go_wp2_with fail
  go_loop [3, 7] (fun s3 s7 => ∃ k : Nat, k ≤ s.size ∧ s3 = .int .u64 (numL (s.data.toList.take k) 0) ∧ s7 = .int .i64 k) (fun _ i => s.size - (intOf i).toNat)
  case atStart => exact ⟨0, by omega, rfl, rfl⟩
  case round =>
    obtain ⟨k, hk, rfl, rfl⟩ := hrel
    have hb := numL_bound (s.data.toList.take k)
    have hl : (s.data.toList.take k).length ≤ k := List.length_take_le _ _
    by_cases hlt : k < s.size
    · have hn := numL_snoc (s.data.toList.take k) s[k] 0
      rw [← take_snoc s k hlt] at hn
      have HN := hid hn
      obtain ⟨x, hx⟩ : ∃ x, x = numL (s.data.toList.take k) 0 := ⟨_, rfl⟩
      rw [← hx] at hb HN ⊢
      have hx0 := hb.1
      have hx1 : x < 72057594037927936 := by
        refine Int.lt_of_lt_of_le hb.2 ?_
        exact Int.le_trans (pow256_le (show (s.data.toList.take k).length ≤ 7 by omega)) (by decide)
      clear hb hl hn hx
      go_wp2
      have hbyte : IntKind.u64.wrap (s[k].toNat : Int) = s[k].toNat := by
        rw [IntKind.wrap_u64]; have := s[k].toNat_lt; omega
      have hor := or_low x s[k].toNat hx0 hx1 (by omega) (by have := s[k].toNat_lt; omega)
      refine ⟨⟨k + 1, by omega, ?_, by go_num⟩, ?_⟩
      · rw [hbyte, hor, HN.out]
      · simp [intOf]; omega
    · obtain rfl : k = s.size := by omega
      rw [List.take_of_length_le (by simp)]
      clear hb hl
      go_wp2
      go_ret
      exact ⟨rfl, rfl⟩

end Go.Proofs.YtchfoipkaookmabDoor
