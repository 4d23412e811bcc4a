import Derived.Test.YtfafkohghgliaaaTuOpen
/- The openings: tuples, of whatever size. -/
namespace Go.Proofs.Ytfafkohghgliaaa.Tu
open Go.ChangeShapes Go.WideShapes Go.ChangeAt Go.RowKit Go.Deep Go.Proofs.Ytfafkohghgliaaa
set_option linter.unusedVariables false
set_option linter.unusedSectionVars false
variable [DecidableEq Vl]

section
variable {H : Type} {enc : TypeId × Value → H} {w : World} {base : Nat} {fuel : Nat} {y : DataW H × List MemPlace}
theorem bytes_Val : Try.prog.bytesOf 29 = 40 := by kernel_rfl
theorem Vals_reach {v : Value} (hf : DataW.trod enc Try.prog w base (fun _ => true) true fuel 22 [v] = some y) (hr : InReach 22 y.1) :
    ∃ (a : Option Addr) (cap : Nat) (xs : List Vl), v = .slice a xs.length cap ∧ RowV w a xs ∧ OkT xs ∧ xs.length ≤ 3518437208883 := by
  obtain ⟨a, cap, xs, rfl, hcap, _, hrow, hel⟩ := open_rows Try.underlying22 cells_Val (by decide) vNull Vl.cs (fun x d => x.ok) (fun _ _ _ h k => by obtain ⟨x, e, ok, _⟩ := trod_Val h; exact ⟨x, e, ok⟩) hf hr
  refine ⟨a, cap, xs, rfl, fun i hi => ?_, ?_, ?_⟩
  · obtain ⟨b, off, e, hc⟩ := hrow i hi
    exact ⟨b, off, e, by have := hc 0 _ rfl; rw [Nat.add_zero] at this; exact this, hc 1 _ rfl, hc 2 _ rfl, hc 3 _ rfl⟩
  · rcases hel with rfl | ⟨el, sp, _, _, e3⟩
    · exact OkT.nil
    · intro x hx
      obtain ⟨i, hi, rfl⟩ := List.getElem_of_mem hx
      obtain ⟨d, _, hg⟩ := e3 i hi
      simpa [hi] using hg
  · rcases hel with rfl | ⟨el, sp, e1, e2, _⟩
    · simp
    · rw [e1] at hr
      have := hr.len Try.underlying22 bytes_Val (by decide)
      simp only [reachBytes] at this
      omega
end
end Go.Proofs.Ytfafkohghgliaaa.Tu
