import Derived.Test.YtaknkodjganacaaDoorVRoom
/- the law's in. -/
namespace Go.Proofs.YtaknkodjganacaaDoor.Vs
open Go.RowKit Go.Sort
set_option linter.unusedVariables false

theorem in_is {k lo hi : ByteArray} {u : Bool} (hu : inS lo hi k = u) (w : World) :
    Calls Tryd.prog 13 #[.string k, .agg #[.string lo, .string hi]] w fun e w' => e = .returned (.bool u) ∧ Below w.heap.size w w' := by
  subst hu
  obtain ⟨b1, h1⟩ : ∃ b, Op.bytesLess k.toList lo.toList = b := ⟨_, rfl⟩
  have hle : (Op.bytesLess lo.toList k.toList || lo.toList == k.toList) = !b1 := by rw [leq_less, h1]
  obtain ⟨b2, h2⟩ : ∃ b, hi.toList.isEmpty = b := ⟨_, rfl⟩
  obtain ⟨b3, h3⟩ : ∃ b, Op.bytesLess k.toList hi.toList = b := ⟨_, rfl⟩
  have HQ : Hid (inS lo hi k = (!b1 && (b2 || b3))) := by show _ = _; rw [inS, lt, lt, h1, h2, h3]
  have h2' : (hi.toList = []) = (b2 = true) := by rw [← h2]; simp
  clear h1
  cases b1 <;> cases b2 <;> cases b3
  all_goals (try simp only [Bool.false_eq_true] at h2')
  all_goals
    go_enter Tryd.func13, Tryd.ntmps13
    go_wp2_with fail
    go_ret
    exact ⟨ret_bool (by rw [HQ.out]; simp), by (repeat (first | exact Below.refl _ _ | assumption | refine Below.drew ?_ | refine Below.al ?_ _ | refine Below.setCell ?_ (by first | exact Nat.le_refl _ | (simp; omega) | (simp; done)) _ | refine Below.on ?_ (by assumption)))⟩
end Go.Proofs.YtaknkodjganacaaDoor.Vs
