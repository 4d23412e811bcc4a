import Derived.Test.YtodolbekbeccbabUnpack
import Derived.Lib.Strings
/- Plain mathematics: sixteen bytes as a stamp, and back. -/
namespace Go.Proofs.Ytodolbekbeccbab

theorem be_numL : ∀ (n : Nat) (xs : List UInt8), xs.length = n → (be (numL xs 0) n).map byteOf = xs
  | 0, xs, h => by
    have : xs = [] := List.length_eq_zero_iff.1 h
    subst this; rfl
  | n + 1, xs, h => by
    have hne : xs ≠ [] := fun e => by subst e; simp at h
    have hx := List.dropLast_concat_getLast hne
    have ih := be_numL n xs.dropLast (by rw [List.length_dropLast]; omega)
    have hb := numL_bound xs.dropLast
    generalize xs.getLast hne = y at hx
    generalize xs.dropLast = ys at hx ih hb
    subst hx
    rw [numL_snoc, be, List.map_append]
    have hy : (y.toNat : Int) < 256 := by have := y.toNat_lt; omega
    rw [show (numL ys 0 * 256 + (y.toNat : Int)) / 256 = numL ys 0 by omega, ih, show (numL ys 0 * 256 + (y.toNat : Int)) % 256 = (y.toNat : Int) by omega]
    simp [byteOf]

theorem pk_pieces (s : ByteArray) (hs : s.size = 16) : strOfNums (pk (piece s 0 8) (piece s 8 12) (piece s 12 16)) = s := by
  have hl : s.data.toList.length = 16 := by simpa using hs
  have h1 := be_numL 8 ((s.extract 0 8).data.toList) (by rw [Lib.extract_data]; simp [hl])
  have h2 := be_numL 4 ((s.extract 8 12).data.toList) (by rw [Lib.extract_data]; simp [hl])
  have h3 := be_numL 4 ((s.extract 12 16).data.toList) (by rw [Lib.extract_data]; simp [hl])
  have e : (strOfNums (pk (piece s 0 8) (piece s 8 12) (piece s 12 16))).data.toList = s.data.toList := by
    rw [strOfNums_data]
    show (pk (piece s 0 8) (piece s 8 12) (piece s 12 16)).map byteOf = _
    rw [pk, List.map_append, List.map_append]
    unfold piece
    rw [h1, h2, h3, Lib.extract_data, Lib.extract_data, Lib.extract_data]
    generalize s.data.toList = l at hl
    rw [List.drop_zero]
    have e3 : (l.drop 12).take (16 - 12) = l.drop 12 := List.take_of_length_le (by simp [hl])
    rw [e3]
    have e2 : l.drop 8 = (l.drop 8).take (12 - 8) ++ l.drop 12 := by
      have := (List.take_append_drop 4 (l.drop 8)).symm
      rw [List.drop_drop] at this
      exact this
    rw [← e2]
    exact List.take_append_drop 8 l
  apply ByteArray.ext
  exact Array.toList_inj.1 e

end Go.Proofs.Ytodolbekbeccbab
