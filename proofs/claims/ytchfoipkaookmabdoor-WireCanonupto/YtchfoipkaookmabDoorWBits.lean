import Derived.Test.YtchfoipkaookmabDoorWBytes
import Derived.Laws.Bits64b
namespace Go.Proofs.YtchfoipkaookmabDoor
open Go.RowKit Go.Sort

theorem or128_fin : ∀ x : Fin 256, bits .or .u8 ((x.val : Nat) : Int) 128 = ((x.val % 128 + 128 : Nat) : Int) := by decide +kernel
theorem or128 (x : Nat) (h : x < 256) : bits .or .u8 (x : Int) 128 = ((x % 128 + 128 : Nat) : Int) := or128_fin ⟨x, h⟩
theorem not128_fin : ∀ x : Fin 256, bits .andNot .u8 ((x.val : Nat) : Int) 128 = ((x.val % 128 : Nat) : Int) := by decide +kernel
theorem not128 (x : Nat) (h : x < 256) : bits .andNot .u8 (x : Int) 128 = ((x % 128 : Nat) : Int) := not128_fin ⟨x, h⟩
theorem and127_fin : ∀ x : Fin 256, bits .and .u8 ((x.val : Nat) : Int) 127 = ((x.val % 128 : Nat) : Int) := by decide +kernel
theorem and127 (x : Nat) (h : x < 256) : bits .and .u8 (x : Int) 127 = ((x % 128 : Nat) : Int) := and127_fin ⟨x, h⟩
/-- bits laid below the others -/
theorem or_below (x y : Nat) (hx : x ≤ 144115188075855871) (hy : y < 128) : bits .or .u64 ((x : Int) * 128) (y : Int) = ((x * 128 + y : Nat) : Int) := by
  have h := bits_or_u64_nat (x * 128) y (by omega) (by omega)
  have e : x * 128 ||| y = x * 128 + y := by
    have := Nat.shiftLeft_add_eq_or_of_lt (b := y) (i := 7) (by omega) x
    rw [Nat.shiftLeft_eq] at this
    exact this.symm
  rw [e] at h
  simpa using h
/-- bits laid above the others -/
theorem or_above (x y k : Nat) (hk : k ≤ 64) (hx : x < 2 ^ k) (hy : y * 2 ^ k < 18446744073709551616) : bits .or .u64 (x : Int) ((y * 2 ^ k : Nat) : Int) = ((x + y * 2 ^ k : Nat) : Int) := by
  have hx' : x < 18446744073709551616 := Nat.lt_of_lt_of_le hx (Nat.pow_le_pow_right (n := 2) (j := 64) (by decide) hk)
  have h := bits_or_u64_nat x (y * 2 ^ k) (by omega) (by omega)
  have e : x ||| y * 2 ^ k = x + y * 2 ^ k := by
    have := Nat.shiftLeft_add_eq_or_of_lt (b := x) (i := k) hx y
    rw [Nat.shiftLeft_eq] at this
    rw [Nat.or_comm, ← this, Nat.add_comm]
  rw [e] at h
  exact h

end Go.Proofs.YtchfoipkaookmabDoor
