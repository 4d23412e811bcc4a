import Derived.Test.YtaknkodjganacaaDoorVNode
namespace Go.Proofs.YtaknkodjganacaaDoor.Vs
open Go.RowKit Go.Sort
set_option linter.unusedVariables false

theorem leq_less' : ∀ a b : List UInt8, (Op.bytesLess a b || a == b) = !Op.bytesLess b a
  | a, b => by
    rcases bless_tri a b with h | h | h
    · subst h; rw [bless_irrefl]; simp
    · have h2 : Op.bytesLess b a = false := by
        cases hb : Op.bytesLess b a with
        | false => rfl
        | true => exact absurd (bless_trans _ _ _ h hb) (by rw [bless_irrefl]; decide)
      rw [h, h2]; rfl
    · have h2 : Op.bytesLess a b = false := by
        cases hb : Op.bytesLess a b with
        | false => rfl
        | true => exact absurd (bless_trans _ _ _ h hb) (by rw [bless_irrefl]; decide)
      have h3 : (a == b) = false := by
        rw [beq_eq_false_iff_ne]; intro e; subst e; rw [bless_irrefl] at h; cases h
      rw [h, h2, h3]; rfl
theorem retB {a b : Bool} (h : a = b) : Ending.returned (Value.bool a) = Ending.returned (Value.bool b) := by rw [h]

theorem Below.drewN {B : Nat} {a w : World} (h : Below B a w) (n : Nat) : Below B a (w.drewN n) := ⟨h.os, h.tape, h.output, h.size, h.block⟩
theorem from_is {b : Nat} {k lo hi : ByteArray} {w : World} {u : Bool} (hu : fromB lo k = u) (h0 : w.cell? ⟨b, 0, none⟩ = some (.string k)) :
    Calls Tryd.prog 58 #[.pointer (some ⟨b, 0, none⟩), .agg #[.string lo, .string hi]] w fun e w' => e = .returned (.bool u) ∧ Below w.heap.size w w' := by
  have hle : (Op.bytesLess lo.toList k.toList || lo.toList == k.toList) = u := by rw [leq_less', ← hu]; rfl
  have k0 : (w.alloc (.cells #[.string lo, .string hi] 28)).cell? ⟨b, 0, none⟩ = some (.string k) := cell_later (Below.al (Below.refl _ w) _) h0
  clear hu
  go_enter Tryd.func58, Tryd.ntmps58
  go_wp2_with fail
  go_region
  all_goals go_wp2_with fail
  all_goals go_ret
  all_goals exact ⟨retB (by first | rfl | simp_all), by (repeat (first | exact Below.refl _ _ | assumption | refine Below.drew ?_ | refine Below.al ?_ _ | refine Below.setCell ?_ (by first | exact Nat.le_refl _ | (simp; omega) | (simp; done)) _ | refine Below.on ?_ (by assumption)))⟩
theorem under_is {b : Nat} {k lo hi : ByteArray} {w : World} {u : Bool} (hu : underB hi k = u) (h0 : w.cell? ⟨b, 0, none⟩ = some (.string k)) :
    Calls Tryd.prog 59 #[.pointer (some ⟨b, 0, none⟩), .agg #[.string lo, .string hi]] w fun e w' => e = .returned (.bool u) ∧ Below w.heap.size w w' := by
  obtain ⟨b2, h2⟩ : ∃ b, hi.toList.isEmpty = b := ⟨_, rfl⟩
  obtain ⟨b3, h3⟩ : ∃ b, Op.bytesLess k.toList hi.toList = b := ⟨_, rfl⟩
  have HQ : Hid (u = (b2 || b3)) := by show _ = _; rw [← hu, underB, lt, h2, h3]
  have h2' : (hi.toList = []) = (b2 = true) := by rw [← h2]; simp
  have k0 : (w.alloc (.cells #[.string lo, .string hi] 28)).cell? ⟨b, 0, none⟩ = some (.string k) := cell_later (Below.al (Below.refl _ w) _) h0
  clear hu
  cases b2 <;> cases b3
  all_goals (try simp only [Bool.false_eq_true] at h2')
  all_goals
    go_enter Tryd.func59, Tryd.ntmps59
    go_wp2_with fail
    go_quiet (fail)
    go_wp2_with fail
    go_ret
    exact ⟨retB (by rw [HQ.out]; first | rfl | simp_all), Below.drewN (by (repeat (first | exact Below.refl _ _ | assumption | refine Below.drew ?_ | refine Below.al ?_ _ | refine Below.setCell ?_ (by first | exact Nat.le_refl _ | (simp; omega) | (simp; done)) _ | refine Below.on ?_ (by assumption)))) _⟩

end Go.Proofs.YtaknkodjganacaaDoor.Vs
