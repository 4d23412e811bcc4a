import Derived.Test.YtbgmbbmnnfmbpaaQSmall
import Derived.Test.YtbgmbbmnnfmbpaaIPlain
/- Inside and Overlap: what the laws ask, plain. -/
namespace Go.Proofs.Ytbgmbbmnnfmbpaa.Lk
set_option linter.unusedVariables false

theorem ltS_lt (a b : ByteArray) : ltS a b = lt a b := rfl
/-- a text with a zero byte behind it -/
def zb (k : ByteArray) : ByteArray := k ++ ⟨#[0]⟩
theorem zb_list (k : ByteArray) : (zb k).toList = k.toList ++ [0] := by
  rw [zb, ByteArray.toList_eq, ByteArray.toList_eq]; simp [ByteArray.data_append]
theorem bless_snoc : ∀ a : List UInt8, Op.bytesLess a (a ++ [0]) = true
  | [] => rfl
  | a :: x => by rw [List.cons_append, Op.bytesLess, bless_snoc x]; simp
theorem lt_zb (k : ByteArray) : ltS k (zb k) = true := by rw [ltS, zb_list]; exact bless_snoc _
theorem em_zb (k : ByteArray) : emS (zb k) = false := by rw [emS, zb_list]; cases k.toList <;> rfl
theorem lt_nil (k : ByteArray) : ltS k ⟨#[]⟩ = false := by rw [ltS, toList_empty]; cases k.toList <;> rfl
theorem em_nil : emS ⟨#[]⟩ = true := by rw [emS, toList_empty]; rfl
theorem ins_point (k : ByteArray) : insB k (k, zb k) = true := by
  simp only [insB, ltS_lt, lt_irrefl, Bool.not_false, Bool.true_and]; rw [← ltS_lt, lt_zb, Bool.or_true]
theorem ins_next (k : ByteArray) : insB (zb k) (k, zb k) = false := by
  simp only [insB, em_zb, Bool.false_or, ltS_lt, lt_irrefl, Bool.and_false]
theorem ins_open (k : ByteArray) : insB k (k, ⟨#[]⟩) = true := by
  simp only [insB, em_nil, Bool.true_or, ltS_lt, lt_irrefl]; rfl
theorem ins_all (k : ByteArray) : insB k (⟨#[]⟩, ⟨#[]⟩) = true := by
  simp only [insB, em_nil, Bool.true_or, lt_nil]; rfl
theorem over_all (k : ByteArray) : overB (k, ⟨#[]⟩) (⟨#[]⟩, ⟨#[]⟩) = true := by
  have : maxS k ⟨#[]⟩ = k := by simp [maxS, lt_nil]
  simp only [overB, this, ins_open, ins_all]; rfl
theorem max_comm (a b : ByteArray) : maxS a b = maxS b a := by
  unfold maxS
  rcases lt_tri a b with rfl | h | h
  · rfl
  · rw [ltS_lt, ltS_lt, h, lt_asymm h]; rfl
  · rw [ltS_lt, ltS_lt, h, lt_asymm h]; rfl
theorem over_comm (a b : T2) : overB a b = overB b a := by
  unfold overB; rw [max_comm, Bool.and_comm]
theorem nlt_trans {a b c : ByteArray} (h1 : lt b a = false) (h2 : lt b c = true) : lt a c = true := by
  rcases lt_tri a b with rfl | h | h
  · exact h2
  · exact lt_trans h h2
  · rw [h1] at h; cases h
/-- a text that is inside both shows that they overlap -/
theorem over_of {k : ByteArray} {a b : T2} (h1 : insB k a = true) (h2 : insB k b = true) : overB a b = true := by
  simp only [insB, Bool.and_eq_true, Bool.not_eq_true', Bool.or_eq_true, ltS_lt] at h1 h2
  simp only [overB, insB, Bool.and_eq_true, Bool.not_eq_true', Bool.or_eq_true, ltS_lt, maxS]
  by_cases h : lt a.1 b.1 = true
  · simp only [h, if_true]
    exact ⟨⟨lt_asymm h, h1.2.imp id fun h => nlt_trans h2.1 h⟩, lt_irrefl _, h2.2.imp id fun h => nlt_trans h2.1 h⟩
  · simp only [h]
    exact ⟨⟨lt_irrefl _, h1.2.imp id fun h => nlt_trans h1.1 h⟩, by simpa using h, h2.2.imp id fun h => nlt_trans h1.1 h⟩

end Go.Proofs.Ytbgmbbmnnfmbpaa.Lk
