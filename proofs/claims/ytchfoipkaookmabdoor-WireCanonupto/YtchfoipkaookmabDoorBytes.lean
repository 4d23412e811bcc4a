import GoSem.Op.String
import Derived.Laws.BytesArg
/- Plain mathematics of numbers as bytes, the highest first. -/
namespace Go.Proofs.YtchfoipkaookmabDoor

/-- the n lowest bytes of v, the highest first -/
def be (v : Int) : Nat → List Int
  | 0 => []
  | n + 1 => be (v / 256) n ++ [v % 256]

theorem be_length (v : Int) (n : Nat) : (be v n).length = n := by
  induction n generalizing v with
  | zero => rfl
  | succ n ih => simp [be, ih]

theorem div_pow_succ (v : Int) (k : Nat) : v / 256 / 256 ^ k = v / 256 ^ (k + 1) := by
  rw [Int.ediv_ediv_of_nonneg (by decide), Int.pow_succ, Int.mul_comm]

theorem div_pow_next (v : Int) (k : Nat) : v / 256 ^ k / 256 = v / 256 ^ (k + 1) := by
  rw [Int.ediv_ediv_of_nonneg (Int.le_of_lt (Int.pow_pos (by decide))), Int.pow_succ]

/-- a byte more, ahead -/
theorem be_cons (v : Int) (k : Nat) : be v (k + 1) = (v / 256 ^ k % 256) :: be v k := by
  induction k generalizing v with
  | zero => simp [be]
  | succ k ih =>
    rw [be, ih (v / 256), div_pow_succ]
    rfl

theorem be_byte (v : Int) (n : Nat) : ∀ x ∈ be v n, 0 ≤ x ∧ x < 256 := by
  induction n generalizing v with
  | zero => intro x hx; simp [be] at hx
  | succ n ih =>
    intro x hx
    rw [be, List.mem_append] at hx
    rcases hx with h | h
    · exact ih _ x h
    · simp at h; omega

end Go.Proofs.YtchfoipkaookmabDoor
