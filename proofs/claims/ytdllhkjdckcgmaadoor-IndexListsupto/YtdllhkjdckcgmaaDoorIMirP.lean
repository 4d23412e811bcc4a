import Derived.Test.YtdllhkjdckcgmaaDoorIMany
import Derived.Test.YtdllhkjdckcgmaaDoorIKeys
namespace Go.Proofs.YtdllhkjdckcgmaaDoor
open Go.RowKit Go.Sort
set_option linter.unusedVariables false

theorem bless_zero : ∀ (a b : List UInt8), Op.bytesLess a (b ++ [0]) = !Op.bytesLess b a
  | [], [] => rfl
  | [], _ :: _ => rfl
  | c :: x, [] => by
    show Op.bytesLess (c :: x) [0] = _
    have h0 : ¬ c < 0 := by show ¬ c.toNat < 0; omega
    have h1 : Op.bytesLess x [] = false := by cases x <;> rfl
    show (decide (c < 0) || (c == 0 && Op.bytesLess x [])) = false
    rw [h1]
    simp [h0]
  | c :: x, d :: y => by
    show Op.bytesLess (c :: x) (d :: (y ++ [0])) = _
    rw [Op.bytesLess, Op.bytesLess, bless_zero x y]
    rcases Nat.lt_trichotomy c.toNat d.toNat with h | h | h
    · have h1 : c < d := h
      have h2 : ¬ d < c := by show ¬ d.toNat < c.toNat; omega
      have h3 : (d == c) = false := by rw [beq_eq_false_iff_ne]; intro e; rw [e] at h; omega
      simp [h1, h2, h3]
    · obtain rfl : c = d := UInt8.toNat.inj h
      have h1 : ¬ c < c := by show ¬ c.toNat < c.toNat; omega
      simp [h1]
    · have h1 : ¬ c < d := by show ¬ c.toNat < d.toNat; omega
      have h2 : d < c := h
      have h3 : (c == d) = false := by rw [beq_eq_false_iff_ne]; intro e; rw [e] at h; omega
      simp [h1, h2, h3]
theorem zb_toList (k : ByteArray) : (zb k).toList = k.toList ++ [0] := by
  unfold zb
  rw [ByteArray.toList_eq, ByteArray.toList_eq]
  simp
theorem lt_zb (a k : ByteArray) : lt a (zb k) = !lt k a := by
  unfold lt; rw [zb_toList, bless_zero]
theorem zb_ne (k : ByteArray) : (zb k).toList.isEmpty = false := by rw [zb_toList]; cases k.toList <;> rfl
theorem inS_upto (key k : ByteArray) : inS ⟨#[]⟩ (zb key) k = !lt key k := by
  unfold inS; rw [lt_nil, zb_ne, lt_zb]; simp
theorem inS_from (key k : ByteArray) : inS key ⟨#[]⟩ k = !lt k key := by
  unfold inS; rw [nil_toList]; simp
/-- a rising list, parted at a key that it has -/
theorem parted {m : List En} {key : ByteArray} {v : Int} (hr : Rising m) (h : (key, v) ∈ m) : ∃ A B : List En, m = A ++ (key, v) :: B ∧ (∀ e ∈ A, lt e.1 key = true) ∧ (∀ e ∈ B, lt key e.1 = true) := by
  obtain ⟨A, B, rfl⟩ := List.append_of_mem h
  obtain ⟨_, _, h1, h2⟩ := rising_parts hr
  exact ⟨A, B, rfl, h1, h2⟩
theorem upto_all {A : List En} {key : ByteArray} (h : ∀ e ∈ A, lt e.1 key = true) : rangeX A ⟨#[]⟩ (zb key) = A := by
  rw [rangeX, List.filter_eq_self]; intro e he; rw [inS_upto, lt_asymm (h e he)]; rfl
theorem upto_none {B : List En} {key : ByteArray} (h : ∀ e ∈ B, lt key e.1 = true) : rangeX B ⟨#[]⟩ (zb key) = [] := by
  rw [rangeX, List.filter_eq_nil_iff]; intro e he; rw [inS_upto, h e he]; decide
theorem from_all {B : List En} {key : ByteArray} (h : ∀ e ∈ B, lt key e.1 = true) : rangeX B key ⟨#[]⟩ = B := by
  rw [rangeX, List.filter_eq_self]; intro e he; rw [inS_from, lt_asymm (h e he)]; rfl
theorem from_none {A : List En} {key : ByteArray} (h : ∀ e ∈ A, lt e.1 key = true) : rangeX A key ⟨#[]⟩ = [] := by
  rw [rangeX, List.filter_eq_nil_iff]; intro e he; rw [inS_from, h e he]; decide
theorem range_append (A B : List En) (lo hi : ByteArray) : rangeX (A ++ B) lo hi = rangeX A lo hi ++ rangeX B lo hi := List.filter_append ..
section
variable {A B : List En} {key : ByteArray} {v : Int} (h1 : ∀ e ∈ A, lt e.1 key = true) (h2 : ∀ e ∈ B, lt key e.1 = true)
include h1 h2
theorem mid_upto : rangeX (A ++ (key, v) :: B) ⟨#[]⟩ (zb key) = A ++ [(key, v)] := by
  rw [range_node, upto_all h1, upto_none h2, inS_upto, lt_irrefl]; simp
theorem mid_from : rangeX (A ++ (key, v) :: B) key ⟨#[]⟩ = (key, v) :: B := by
  rw [range_node, from_none h1, from_all h2, inS_from, lt_irrefl]; simp
theorem gone_upto : rangeX (delX (A ++ (key, v) :: B) key) ⟨#[]⟩ (zb key) = A := by
  rw [delX_mid h1 h2, range_append, upto_all h1, upto_none h2, List.append_nil]
theorem gone_from : rangeX (delX (A ++ (key, v) :: B) key) key ⟨#[]⟩ = B := by
  rw [delX_mid h1 h2, range_append, from_none h1, from_all h2, List.nil_append]
end

end Go.Proofs.YtdllhkjdckcgmaaDoor
