import Derived.Test.YtiheilkjlapoiaaFeRow0
import Derived.Test.YtiheilkjlapoiaaShelfS
/- Rows of entries and of transactions, in blocks of their own. -/
namespace Go.Proofs.Ytiheilkjlapoiaa.Lg
open Go.RowKit Go.Sort Go.Shelf Go.Lib Lk
set_option linter.unusedVariables false
section
variable {α : Type} {enc : α → List Value} {k : Nat}
variable [Inhabited α]
theorem flatK_fm (hk : ∀ x, (enc x).length = k) (h0 : 0 < k) (xs : List α) : (flatK enc k xs.toArray).toList = xs.flatMap enc := by
  apply List.ext_getElem?
  intro j
  rw [Array.getElem?_toList]
  by_cases hj : j < xs.length * k
  · have hi : j / k < xs.length := Nat.div_lt_of_lt_mul (by rw [Nat.mul_comm]; exact hj)
    have ho : j % k < k := Nat.mod_lt _ h0
    have h := fm_get hk xs (j / k) (j % k) hi ho
    rw [show j / k * k + j % k = j by rw [Nat.mul_comm]; exact Nat.div_add_mod j k] at h
    have ho' : j % k < (enc xs[j / k]!).length := by rw [hk]; exact ho
    have hsz : j < (flatK enc k xs.toArray).size := by rw [size_flatK]; simpa using hj
    rw [h, List.getElem?_eq_getElem ho', Array.getElem?_eq_getElem hsz]
    have := get_flatK enc k xs.toArray j (by simpa using hj)
    rw [getElem!_pos _ j hsz] at this
    rw [this]
    simp only [List.getElem!_toArray]
    rw [getElem!_pos (enc xs[j / k]!) (j % k) ho']
  · have e1 : (flatK enc k xs.toArray)[j]? = none := Array.getElem?_eq_none (by rw [size_flatK]; simpa using hj)
    have e2 : (xs.flatMap enc)[j]? = none := List.getElem?_eq_none (by rw [fm_len hk]; omega)
    rw [e1, e2]
variable {T : TypeId} {w : World} {B g n c : Nat} {xs ys : List α}
theorem holds_row (hk : ∀ x, (enc x).length = k) (h0 : 0 < k) (h : w.ownsRow B T k (.slice (some ⟨g, 0, none⟩) n c) n (xs.flatMap enc)) : HoldsK enc k w g 0 xs.toArray := by
  obtain ⟨hl, ⟨e1, _⟩ | ⟨g', cap, cur, e1, hB, hh, h1, h2, h3, h4⟩⟩ := h
  · cases e1
  · injection e1 with e1
    injection e1 with e1
    injection e1 with e1
    subst e1
    intro j hj
    rw [size_flatK] at hj
    have hj' : j < xs.length * k := by simpa using hj
    have hv : (flatK enc k xs.toArray)[j]? = (xs.flatMap enc)[j]? := by rw [← Array.getElem?_toList, flatK_fm hk h0]
    have hlt : j < (xs.flatMap enc).length := by rw [fm_len hk]; exact hj'
    have hsz : j < (flatK enc k xs.toArray).size := by rw [size_flatK]; exact hj
    have hc : cur[j]? = (flatK enc k xs.toArray)[j]? := by
      rw [hv, ← h4, List.getElem?_take]
      rw [if_pos (by rw [← hl]; exact hlt)]
      simp
    constructor
    · rw [Nat.zero_add]
      refine cell_of_obj hh ?_
      rw [hc, getElem!_pos _ j hsz, Array.getElem?_eq_getElem hsz]; rfl
    · simp [World.frozen?, hh]
theorem sorted_row (hk : ∀ x, (enc x).length = k) (h0 : 0 < k) (h : w.ownsRow B T k (.slice (some ⟨g, 0, none⟩) n c) n (xs.flatMap enc)) (hy : ys.length = xs.length) (m : Nat) (os : Array Obj) :
    (sortWorldK enc k w g 0 m ys.toArray os).ownsRow B T k (.slice (some ⟨g, 0, none⟩) n c) n (ys.flatMap enc) ∧ Onl (fun b => b = g) w (sortWorldK enc k w g 0 m ys.toArray os) := by
  obtain ⟨hl, ⟨e1, _⟩ | ⟨g', cap, cur, e1, hB, hh, h1, h2, h3, h4⟩⟩ := h
  · cases e1
  · injection e1 with e1 e2 e3
    injection e1 with e1
    injection e1 with e1
    subst e1 e3
    have hlt : g < w.heap.size := (Array.getElem?_eq_some_iff.1 hh).1
    have hly : (ys.flatMap enc).length = n * k := by rw [fm_len hk, hy, ← fm_len hk, hl]
    constructor
    · refine ⟨hly, .inr ⟨g, c, putCells id 0 (flatK enc k ys.toArray) cur, rfl, hB, ?_, h1, h2, ?_, ?_⟩⟩
      · unfold sortWorldK grow putRowK putRow mapBlock Sort.ahead
        simp only
        rw [Array.getElem?_append_left (by simpa using hlt), Array.getElem?_modify, if_pos rfl, hh]
        rfl
      · simp [putCells, h3]
      · apply List.ext_getElem?
        intro j
        rw [List.getElem?_take, ← flatK_fm hk h0, Array.getElem?_toList, Array.getElem?_toList]
        have hs : (flatK enc k ys.toArray).size = n * k := by rw [size_flatK]; simpa [fm_len hk] using hly
        by_cases hj : j < n * k
        · have hjc : j < cur.size := by rw [h3]; exact Nat.lt_of_lt_of_le hj (Nat.mul_le_mul_right _ h1)
          have hjf : j < (flatK enc k ys.toArray).size := by rw [hs]; exact hj
          rw [if_pos hj]
          simp only [putCells, Array.getElem?_mapIdx, Array.getElem?_eq_getElem hjc, Option.map_some, Array.getElem?_eq_getElem hjf]
          simp [hs, hj]
        · rw [if_neg hj, Array.getElem?_eq_none (by rw [hs]; omega)]
    · refine ⟨rfl, rfl, rfl, by simp [sortWorldK, grow, putRowK, putRow, mapBlock, Sort.ahead], fun b hb hne => ?_⟩
      unfold sortWorldK grow putRowK putRow mapBlock Sort.ahead
      simp only
      rw [Array.getElem?_append_left (by simpa using hb), Array.getElem?_modify, if_neg (fun e => hne e.symm)]
theorem perm_of {d d' : Array α} (h : PermIn 0 d.size d d') : d'.toList.Perm d.toList := by
  obtain ⟨h1, _, h2⟩ := h
  have e1 : d'.extract 0 d.size = d' := by rw [← h1]; simp
  have e2 : d.extract 0 d.size = d := by simp
  rwa [e1, e2] at h2
theorem sorted_of {lt : α → α → Bool} {d : Array α} (h : SortedIn lt 0 d.size d) : d.toList.Pairwise (fun x y => lt y x = false) := by
  rw [List.pairwise_iff_getElem]
  intro i j hi hj hij
  have := h i j (Nat.zero_le _) hij (by simpa using hj)
  rwa [getElem!_pos _ j (by simpa using hj), getElem!_pos _ i (by simpa using hi)] at this
end
end Go.Proofs.Ytiheilkjlapoiaa.Lg
