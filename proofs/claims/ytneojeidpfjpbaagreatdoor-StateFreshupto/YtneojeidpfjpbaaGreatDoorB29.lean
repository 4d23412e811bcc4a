import Derived.Test.YtneojeidpfjpbaaGreatDoorB28
import Derived.Orders
import Derived.RegionTactic
import GoSem.Op.String
set_option linter.unusedVariables false
namespace Go.Proofs.YtneojeidpfjpbaaGreatDoor
open Go.RowKit
inductive Picks (ops : Array Oper) : List Nat → List Oper → Prop
 | nil : Picks ops [] []
 | cons {i : Nat} {o : Oper} {l : List Nat} {os : List Oper} (h : ops[i]? = some o) (k : Picks ops l os) : Picks ops (i :: l) (o :: os)
open Go.RowKit Go.Sort
inductive Tr where
 | ok (t r : List Nat)
 | bad (c : Int)
def be (v : Int) : Nat → List Int
 | 0 => []
 | n + 1 => be (v / 256) n ++ [v % 256]
theorem be_length (v : Int) (n : Nat) : (be v n).length = n := by
 induction n generalizing v with
 | zero => rfl
 | succ n ih => simp [be, ih]
theorem div_pow_succ (v : Int) (k : Nat) : v / 256 / 256 ^ k = v / 256 ^ (k + 1) := by
 rw [Int.ediv_ediv_of_nonneg (by decide), Int.pow_succ, Int.mul_comm]
theorem div_pow_next (v : Int) (k : Nat) : v / 256 ^ k / 256 = v / 256 ^ (k + 1) := by
 rw [Int.ediv_ediv_of_nonneg (Int.le_of_lt (Int.pow_pos (by decide))), Int.pow_succ]
theorem be_cons (v : Int) (k : Nat) : be v (k + 1) = (v / 256 ^ k % 256) :: be v k := by
 induction k generalizing v with
 | zero => simp [be]
 | succ k ih =>
  rw [be, ih (v / 256), div_pow_succ]; rfl
theorem be_byte (v : Int) (n : Nat) : ∀ x ∈ be v n, 0 ≤ x ∧ x < 256 := by
 induction n generalizing v with
 | zero => intro x hx; simp [be] at hx
 | succ n ih =>
  intro x hx; rw [be, List.mem_append] at hx; rcases hx with h | h
  ·exact ih _ x h
  ·simp at h; omega
end Go.Proofs.YtneojeidpfjpbaaGreatDoor
