import Derived.Test.YtgplnbdankfobaaGreatDoorQPlain
/- Inside and Overlap, the program's and the document's. -/
namespace Go.Proofs.YtgplnbdankfobaaGreatDoor.Lk
open Go.RowKit Go.Sort
set_option linter.unusedVariables false

abbrev spv (s : T2) : Value := .agg #[.string s.1, .string s.2]

theorem inside_is {k : ByteArray} {s : T2} {u : Bool} (hu : insB k s = u) (w : World) :
    Calls Tryz.prog 32 #[.string k, spv s] w fun e w' => e = .returned (.bool u) ∧ Below w.heap.size w w' := by
  subst hu
  obtain ⟨lo, hi⟩ := s
  go_enter Tryz.func32, Tryz.ntmps32
  go_wp2_with fail
  all_goals go_ret
  all_goals refine ⟨ret_bool ?_, by (repeat (first | exact Below.refl _ _ | assumption | refine Below.drew ?_ | refine Below.al ?_ _ | refine Below.setCell ?_ (by first | exact Nat.le_refl _ | (simp; omega) | (simp; done)) _ | refine Below.on ?_ (by assumption)))⟩
  all_goals simp only [insB, emS, ltS, leq_less]
  · rename_i h1 h0
    rw [h0]; simp
  · rename_i h
    rw [← leq_less]
    have : (Op.bytesLess lo.toList k.toList || lo.toList == k.toList) = false := by
      rw [Bool.eq_false_iff]
      intro h2
      apply h
      simpa using h2
    rw [this]; rfl

theorem refinside_is {k : ByteArray} {s : T2} {u : Bool} (hu : insB k s = u) (w : World) :
    Calls Tryz.prog 50 #[.string k, spv s] w fun e w' => e = .returned (.bool u) ∧ Below w.heap.size w w' := by
  subst hu
  obtain ⟨lo, hi⟩ := s
  go_enter Tryz.func50, Tryz.ntmps50
  go_wp2_with fail
  all_goals go_ret
  all_goals refine ⟨ret_bool ?_, by (repeat (first | exact Below.refl _ _ | assumption | refine Below.drew ?_ | refine Below.al ?_ _ | refine Below.setCell ?_ (by first | exact Nat.le_refl _ | (simp; omega) | (simp; done)) _ | refine Below.on ?_ (by assumption)))⟩
  all_goals simp only [insB, emS, ltS]
  · rename_i h; rw [h]; rfl
  · rename_i h1 _ _ h0; rw [h1, h0]; rfl
  · rename_i h1 h0; rw [h1, h0]; rfl

/-- the greater of two texts -/
def maxS (a b : ByteArray) : ByteArray := if ltS a b then b else a
def overB (a b : T2) : Bool := insB (maxS a.1 b.1) a && insB (maxS a.1 b.1) b

end Go.Proofs.YtgplnbdankfobaaGreatDoor.Lk
