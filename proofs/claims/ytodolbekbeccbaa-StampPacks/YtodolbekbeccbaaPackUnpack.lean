import Derived.Test.YtodolbekbeccbaaUnpack
import Derived.Lib.Strings
/- Plain mathematics: a stamp's bytes, and back. -/
namespace Go.Proofs.Ytodolbekbeccbaa

theorem numL_append (xs ys : List UInt8) (v : Int) : numL (xs ++ ys) v = numL ys (numL xs v) := by
  induction xs generalizing v with
  | nil => rfl
  | cons x xs ih => exact ih _

theorem byteOf_int {n : Int} (h : 0 ≤ n ∧ n < 256) : ((byteOf n).toNat : Int) = n := by rw [byteOf_toNat h]; omega

theorem numL_be {n : Nat} {v : Int} (hv : 0 ≤ v ∧ v < 256 ^ n) : numL ((be v n).map byteOf) 0 = v := by
  induction n generalizing v with
  | zero => simp at hv; simp [be, numL]; omega
  | succ n ih =>
    rw [Int.pow_succ] at hv
    rw [be, List.map_append, numL_append, ih ⟨by omega, by omega⟩]
    show v / 256 * 256 + ((byteOf (v % 256)).toNat : Int) = v
    rw [byteOf_int ⟨by omega, by omega⟩]
    omega

theorem extract_str (xs : List Int) (i j : Nat) : ((strOfNums xs).extract i j).data.toList = ((xs.drop i).take (j - i)).map byteOf := by
  rw [Lib.extract_data, strOfNums_data, List.map_take, List.map_drop]
  rfl

theorem pk_0 (a b c : Int) : ((pk a b c).drop 0).take 8 = be a 8 := by
  rw [pk, List.drop_zero, List.take_left' (be_length a 8)]
theorem pk_8 (a b c : Int) : ((pk a b c).drop 8).take 4 = be b 4 := by
  rw [pk, List.drop_left' (be_length a 8), List.take_left' (be_length b 4)]
theorem pk_12 (a b c : Int) : ((pk a b c).drop 12).take 4 = be c 4 := by
  rw [pk, ← List.append_assoc, List.drop_left' (by rw [List.length_append, be_length, be_length]), List.take_of_length_le (by rw [be_length]; exact Nat.le_refl _)]

theorem piece_pk {a b c : Int} (h : StB a b c) : piece (strOfNums (pk a b c)) 0 8 = a ∧ piece (strOfNums (pk a b c)) 8 12 = b ∧ piece (strOfNums (pk a b c)) 12 16 = c := by
  obtain ⟨⟨ha0, ha1⟩, ⟨hb0, hb1⟩, hc0, hc1⟩ := h
  refine ⟨?_, ?_, ?_⟩ <;> unfold piece <;> rw [extract_str]
  · rw [pk_0, numL_be ⟨ha0, by omega⟩]
  · rw [pk_8, numL_be ⟨hb0, by omega⟩]
  · rw [pk_12, numL_be ⟨hc0, by omega⟩]

end Go.Proofs.Ytodolbekbeccbaa
