import Derived.Test.YtgplnbdankfobaaGreatDoorQCopied
import Derived.Test.YtgplnbdankfobaaGreatDoorIPlain
import Derived.Lib.QuietBelow
/- Same, SameList, Before, New. -/
namespace Go.Proofs.YtgplnbdankfobaaGreatDoor.Lk
open Go.RowKit Go.Sort
set_option linter.unusedVariables false

def sameW (a b : Wr) : Bool := decide (a.key = b.key) && (a.del == b.del) && decide (a.val = b.val)
theorem sameW_eq {a b : Wr} : sameW a b = true ↔ a = b := by
  obtain ⟨a1, a2, a3⟩ := a
  obtain ⟨b1, b2, b3⟩ := b
  simp [sameW, and_assoc]
theorem run_neSt (a b c x y z : Int) (w : World) : (binOp .neq 28 (.agg #[.int .u64 a, .int .u32 b, .int .u32 c]) (.agg #[.int .u64 x, .int .u32 y, .int .u32 z])).run Tryz.prog w = .ok (.bool (!decide (a = x ∧ b = y ∧ c = z))) w := by
  by_cases h1 : a = x <;> by_cases h2 : b = y <;> by_cases h3 : c = z <;> simp [h1, h2, h3, go_sem, Tryz.underlying28]
theorem beq_bytes (a b : ByteArray) : (a.toList == b.toList) = decide (a = b) := by
  rw [Bool.eq_iff_iff]; simp only [beq_iff_eq, decide_eq_true_eq]
  exact ⟨bytes_inj, fun e => by rw [e]⟩
theorem run_neSp (a b : T2) (w : World) : (binOp .neq 34 (.agg #[.string a.1, .string a.2]) (.agg #[.string b.1, .string b.2])).run Tryz.prog w = .ok (.bool (!decide (a = b))) w := by
  obtain ⟨a1, a2⟩ := a
  obtain ⟨b1, b2⟩ := b
  by_cases h1 : a1 = b1 <;> by_cases h2 : a2 = b2 <;> simp [h1, h2, beq_bytes, go_sem, Tryz.underlying34]
theorem run_neWr (a b : Wr) (w : World) : (binOp .neq 64 (.agg #[.string a.key, .bool a.del, .string a.val]) (.agg #[.string b.key, .bool b.del, .string b.val])).run Tryz.prog w = .ok (.bool (!sameW a b)) w := by
  obtain ⟨a1, a2, a3⟩ := a
  obtain ⟨b1, b2, b3⟩ := b
  by_cases h1 : a1 = b1 <;> by_cases h2 : a2 = b2 <;> by_cases h3 : a3 = b3 <;> simp [h1, h2, h3, sameW, beq_bytes, go_sem, Tryz.underlying64]
end Go.Proofs.YtgplnbdankfobaaGreatDoor.Lk
