import Derived.Test.YtchfoipkaookmabDoorSUnpack
import Derived.Lib.Strings
/- Plain mathematics: a stamp's bytes, and back. -/
namespace Go.Proofs.YtchfoipkaookmabDoor

theorem numL_append (xs ys : List UInt8) (v : Int) : numL (xs ++ ys) v = numL ys (numL xs v) := by
  induction xs generalizing v with
  | nil => rfl
  | cons x xs ih => exact ih _

theorem byteOf_int {n : Int} (h : 0 ≤ n ∧ n < 256) : ((byteOf n).toNat : Int) = n := by rw [byteOf_toNat h]; omega

theorem numL_be {n : Nat} {v : Int} (hv : 0 ≤ v ∧ v < 256 ^ n) : numL ((be v n).map byteOf) 0 = v := by
  induction n generalizing v with
  | zero => simp at hv; simp [be, numL]; omega
  | succ n ih =>
    rw [Int.pow_succ] at hv
    rw [be, List.map_append, numL_append, ih ⟨by omega, by omega⟩]
    show v / 256 * 256 + ((byteOf (v % 256)).toNat : Int) = v
    rw [byteOf_int ⟨by omega, by omega⟩]
    omega

theorem extract_str (xs : List Int) (i j : Nat) : ((strOfNums xs).extract i j).data.toList = ((xs.drop i).take (j - i)).map byteOf := by
  rw [Lib.extract_data, strOfNums_data, List.map_take, List.map_drop]
  rfl

theorem pk_0 (a b c : Int) : ((pk a b c).drop 0).take 8 = be a 8 := by
  rw [pk, List.drop_zero, List.take_left' (be_length a 8)]
theorem pk_8 (a b c : Int) : ((pk a b c).drop 8).take 4 = be b 4 := by
  rw [pk, List.drop_left' (be_length a 8), List.take_left' (be_length b 4)]
theorem pk_12 (a b c : Int) : ((pk a b c).drop 12).take 4 = be c 4 := by
  rw [pk, ← List.append_assoc, List.drop_left' (by rw [List.length_append, be_length, be_length]), List.take_of_length_le (by rw [be_length]; exact Nat.le_refl _)]

theorem piece_pk {a b c : Int} (h : StB a b c) : piece (strOfNums (pk a b c)) 0 8 = a ∧ piece (strOfNums (pk a b c)) 8 12 = b ∧ piece (strOfNums (pk a b c)) 12 16 = c := by
  obtain ⟨⟨ha0, ha1⟩, ⟨hb0, hb1⟩, hc0, hc1⟩ := h
  refine ⟨?_, ?_, ?_⟩ <;> unfold piece <;> rw [extract_str]
  · rw [pk_0, numL_be ⟨ha0, by omega⟩]
  · rw [pk_8, numL_be ⟨hb0, by omega⟩]
  · rw [pk_12, numL_be ⟨hc0, by omega⟩]

end Go.Proofs.YtchfoipkaookmabDoor
namespace Go.Proofs.YtchfoipkaookmabDoor

theorem be_numL : ∀ (n : Nat) (xs : List UInt8), xs.length = n → (be (numL xs 0) n).map byteOf = xs
  | 0, xs, h => by
    have : xs = [] := List.length_eq_zero_iff.1 h
    subst this; rfl
  | n + 1, xs, h => by
    have hne : xs ≠ [] := fun e => by subst e; simp at h
    have hx := List.dropLast_concat_getLast hne
    have ih := be_numL n xs.dropLast (by rw [List.length_dropLast]; omega)
    have hb := numL_bound xs.dropLast
    generalize xs.getLast hne = y at hx
    generalize xs.dropLast = ys at hx ih hb
    subst hx
    rw [numL_snoc, be, List.map_append]
    have hy : (y.toNat : Int) < 256 := by have := y.toNat_lt; omega
    rw [show (numL ys 0 * 256 + (y.toNat : Int)) / 256 = numL ys 0 by omega, ih, show (numL ys 0 * 256 + (y.toNat : Int)) % 256 = (y.toNat : Int) by omega]
    simp [byteOf]

theorem pk_pieces (s : ByteArray) (hs : s.size = 16) : strOfNums (pk (piece s 0 8) (piece s 8 12) (piece s 12 16)) = s := by
  have hl : s.data.toList.length = 16 := by simpa using hs
  have h1 := be_numL 8 ((s.extract 0 8).data.toList) (by rw [Lib.extract_data]; simp [hl])
  have h2 := be_numL 4 ((s.extract 8 12).data.toList) (by rw [Lib.extract_data]; simp [hl])
  have h3 := be_numL 4 ((s.extract 12 16).data.toList) (by rw [Lib.extract_data]; simp [hl])
  have e : (strOfNums (pk (piece s 0 8) (piece s 8 12) (piece s 12 16))).data.toList = s.data.toList := by
    rw [strOfNums_data]
    show (pk (piece s 0 8) (piece s 8 12) (piece s 12 16)).map byteOf = _
    rw [pk, List.map_append, List.map_append]
    unfold piece
    rw [h1, h2, h3, Lib.extract_data, Lib.extract_data, Lib.extract_data]
    generalize s.data.toList = l at hl
    rw [List.drop_zero]
    have e3 : (l.drop 12).take (16 - 12) = l.drop 12 := List.take_of_length_le (by simp [hl])
    rw [e3]
    have e2 : l.drop 8 = (l.drop 8).take (12 - 8) ++ l.drop 12 := by
      have := (List.take_append_drop 4 (l.drop 8)).symm
      rw [List.drop_drop] at this
      exact this
    rw [← e2]
    exact List.take_append_drop 8 l
  apply ByteArray.ext
  exact Array.toList_inj.1 e

end Go.Proofs.YtchfoipkaookmabDoor
