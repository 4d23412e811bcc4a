import Derived.Test.YtfafkohghgliaaaBase0
import Derived.Laws.BytesArg
/- Texts as lists of numbers. -/
namespace Go.Proofs.Ytfafkohghgliaaa
open Go.RowKit Go.Sort

/-- a text's bytes as numbers -/
def nums (s : ByteArray) : List Nat := s.data.toList.map UInt8.toNat
/-- the text of bytes -/
def ofNats (l : List Nat) : ByteArray := ⟨(l.map UInt8.ofNat).toArray⟩
def B8 (l : List Nat) : Prop := ∀ b ∈ l, b < 256

theorem nums_length (s : ByteArray) : (nums s).length = s.size := by unfold nums; rw [List.length_map]; rfl
theorem nums_b8 (s : ByteArray) : B8 (nums s) := by
  intro b hb
  simp only [nums, List.mem_map] at hb
  obtain ⟨x, _, rfl⟩ := hb
  exact x.toNat_lt
theorem ofNats_nums (s : ByteArray) : ofNats (nums s) = s := by
  have h : (UInt8.ofNat ∘ UInt8.toNat) = id := by funext x; simp
  cases s with
  | mk a => simp [ofNats, nums, h]
theorem nums_ofNats {l : List Nat} (h : B8 l) : nums (ofNats l) = l := by
  simp only [nums, ofNats, List.map_map]
  conv => rhs; rw [← List.map_id l]
  refine List.map_congr_left fun x hx => ?_
  have := h x hx
  simp only [Function.comp, id]
  exact Nat.mod_eq_of_lt this
theorem ofNats_size (l : List Nat) : (ofNats l).size = l.length := by simp [ofNats, ByteArray.size]
theorem ofNats_inj {a b : List Nat} (ha : B8 a) (hb : B8 b) (h : ofNats a = ofNats b) : a = b := by
  rw [← nums_ofNats ha, ← nums_ofNats hb, h]
theorem ofNats_eq {a b : List Nat} (ha : B8 a) (hb : B8 b) : (ofNats a = ofNats b) ↔ a = b := ⟨ofNats_inj ha hb, fun h => h ▸ rfl⟩
theorem ofNats_append (a b : List Nat) : ofNats a ++ ofNats b = ofNats (a ++ b) := by
  apply ByteArray.ext
  simp [ofNats]
theorem nums_append (a b : ByteArray) : nums (a ++ b) = nums a ++ nums b := by simp [nums]
theorem nums_extract (s : ByteArray) (i j : Nat) : nums (s.extract i j) = ((nums s).take j).drop i := by
  simp [nums, List.map_take, List.map_drop, List.drop_take]
theorem B8.append {a b : List Nat} (ha : B8 a) (hb : B8 b) : B8 (a ++ b) := by
  intro x hx; rcases List.mem_append.1 hx with h | h
  · exact ha x h
  · exact hb x h
theorem B8.left {a b : List Nat} (h : B8 (a ++ b)) : B8 a := fun x hx => h x (List.mem_append.2 (.inl hx))
theorem B8.right {a b : List Nat} (h : B8 (a ++ b)) : B8 b := fun x hx => h x (List.mem_append.2 (.inr hx))
theorem B8.take {a : List Nat} (h : B8 a) (n : Nat) : B8 (a.take n) := fun x hx => h x (List.mem_of_mem_take hx)
theorem B8.drop {a : List Nat} (h : B8 a) (n : Nat) : B8 (a.drop n) := fun x hx => h x (List.mem_of_mem_drop hx)
theorem ofNats_extract {l : List Nat} (h : B8 l) (i j : Nat) : (ofNats l).extract i j = ofNats ((l.take j).drop i) := by
  have := nums_extract (ofNats l) i j
  rw [nums_ofNats h] at this
  rw [← this, ofNats_nums]
theorem strOfNums_nats (l : List Nat) : strOfNums (l.map Int.ofNat) = ofNats l := by
  simp [strOfNums, ofNats]
theorem nums_inj {a b : ByteArray} (h : nums a = nums b) : a = b := by rw [← ofNats_nums a, ← ofNats_nums b, h]
theorem B8.nil : B8 [] := fun x hx => by simp at hx
theorem B8.one {v : Nat} (h : v < 256) : B8 [v] := fun x hx => by simp at hx; omega

end Go.Proofs.Ytfafkohghgliaaa
