import Derived.Test.YtgplnbdankfobaaGreatDoorQSameC
import Derived.Test.YtgplnbdankfobaaGreatDoorQMeet
/- clash, in plain words. -/
namespace Go.Proofs.YtgplnbdankfobaaGreatDoor.Lk
open Go.RowKit Go.Sort
set_option linter.unusedVariables false

/-- do two that are held meet? -/
def clashB (a b : Hd) : Bool := meetB a.rs a.ws b
theorem clash_iff {a b : Hd} : clashB a b = true ↔ (∃ x ∈ a.ws, ∃ y ∈ b.ws, x.key = y.key) ∨ (∃ x ∈ a.ws, ∃ s ∈ b.rs, insB x.key s = true) ∨ (∃ y ∈ b.ws, ∃ s ∈ a.rs, insB y.key s = true) := meet_iff
theorem clash_symm (a b : Hd) : clashB a b = clashB b a := meet_symm

theorem nthW_of {ws : List Wr} {x : Wr} (h : x ∈ ws) : ∃ i, i < ws.length ∧ nthW ws i = x := by
  obtain ⟨i, hi, rfl⟩ := List.getElem_of_mem h
  exact ⟨i, hi, by simp [nthW, hi]⟩
theorem nth2_of {rs : List T2} {x : T2} (h : x ∈ rs) : ∃ i, i < rs.length ∧ nth2 rs i = x := by
  obtain ⟨i, hi, rfl⟩ := List.getElem_of_mem h
  exact ⟨i, hi, by simp [nth2, hi]⟩
theorem nth2_mem {rs : List T2} {k : Nat} (h : k < rs.length) : nth2 rs k ∈ rs := by
  have : nth2 rs k = rs[k] := by simp [nth2, h]
  rw [this]; exact List.getElem_mem h
theorem clash_no {a b : Hd} (h1 : ∀ i, i < a.ws.length → (∀ j, j < b.ws.length → sameK (nthW a.ws i).key (nthW b.ws j).key = false) ∧ ∀ j, j < b.rs.length → insB (nthW a.ws i).key (nth2 b.rs j) = false)
    (h2 : ∀ i, i < b.ws.length → ∀ j, j < a.rs.length → insB (nthW b.ws i).key (nth2 a.rs j) = false) : clashB a b = false := by
  cases h : clashB a b with
  | false => rfl
  | true =>
    rcases clash_iff.1 h with ⟨x, hx, y, hy, e⟩ | ⟨x, hx, s, hs, e⟩ | ⟨y, hy, s, hs, e⟩
    · obtain ⟨i, hi, rfl⟩ := nthW_of hx
      obtain ⟨j, hj, rfl⟩ := nthW_of hy
      rw [← (h1 i hi).1 j hj, e]; simp [sameK]
    · obtain ⟨i, hi, rfl⟩ := nthW_of hx
      obtain ⟨j, hj, rfl⟩ := nth2_of hs
      rw [← (h1 i hi).2 j hj, e]
    · obtain ⟨i, hi, rfl⟩ := nthW_of hy
      obtain ⟨j, hj, rfl⟩ := nth2_of hs
      rw [← h2 i hi j hj, e]
theorem clash_w {a b : Hd} {i j : Nat} (hi : i < a.ws.length) (hj : j < b.ws.length) (h : sameK (nthW a.ws i).key (nthW b.ws j).key = true) : clashB a b = true :=
  clash_iff.2 (.inl ⟨_, nthW_mem hi, _, nthW_mem hj, sameK_eq.1 h⟩)
theorem clash_r {a b : Hd} {i j : Nat} (hi : i < a.ws.length) (hj : j < b.rs.length) (h : insB (nthW a.ws i).key (nth2 b.rs j) = true) : clashB a b = true :=
  clash_iff.2 (.inr (.inl ⟨_, nthW_mem hi, _, nth2_mem hj, h⟩))
theorem clash_s {a b : Hd} {i j : Nat} (hi : i < b.ws.length) (hj : j < a.rs.length) (h : insB (nthW b.ws i).key (nth2 a.rs j) = true) : clashB a b = true :=
  clash_iff.2 (.inr (.inr ⟨_, nthW_mem hi, _, nth2_mem hj, h⟩))

end Go.Proofs.YtgplnbdankfobaaGreatDoor.Lk
