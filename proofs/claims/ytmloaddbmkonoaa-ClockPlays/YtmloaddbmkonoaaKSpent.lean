import Derived.Test.YtmloaddbmkonoaaKTick
namespace Go.Proofs.Ytmloaddbmkonoaa
open Go.RowKit Go.Sort
set_option linter.unusedVariables false

def spentB (l : St) (r : Int) : Bool := if r > l.w then r == 18446744073709551615 else if l.w = 18446744073709551615 then true else l.w == 18446744073709551614 && l.l == 4294967295

set_option maxHeartbeats 400000 in
theorem spent_any (a b d r : Int) (w : World) :
    Calls Try.prog 26 #[stv a b d, .int .u64 r] w fun e w' => e = .returned (.bool (spentB ⟨a, b, d⟩ r)) ∧ Below w.heap.size w w' := by
  by_cases h1 : r > a
  · have HE : Hid (spentB ⟨a, b, d⟩ r = (r == 18446744073709551615)) := hid (by unfold spentB; rw [if_pos h1])
    go_enter Try.func26, Try.ntmps26
    go_wp2
    go_ret
    exact ⟨congrArg (fun b => Ending.returned (Value.bool b)) HE.out.symm, Below.al (Below.refl _ _) _⟩
  · by_cases h2 : a = 18446744073709551615
    · have HE : Hid (spentB ⟨a, b, d⟩ r = true) := hid (by unfold spentB; rw [if_neg h1, if_pos h2])
      have h2' : (a == 18446744073709551615) = true := beq_iff_eq.2 h2
      clear h2
      go_enter Try.func26, Try.ntmps26
      go_wp2
      go_ret
      exact ⟨congrArg (fun b => Ending.returned (Value.bool b)) HE.out.symm, Below.al (Below.refl _ _) _⟩
    · have h2' : (a == 18446744073709551615) = false := beq_eq_false_iff_ne.2 h2
      by_cases h3 : a = 18446744073709551614
      · have HE : Hid (spentB ⟨a, b, d⟩ r = (b == 4294967295)) := hid (by unfold spentB; rw [if_neg h1, if_neg h2]; simp [h3])
        have h3' : (a == 18446744073709551614) = true := beq_iff_eq.2 h3
        clear h3
        go_enter Try.func26, Try.ntmps26
        go_wp2
        go_ret
        exact ⟨congrArg (fun b => Ending.returned (Value.bool b)) HE.out.symm, Below.al (Below.refl _ _) _⟩
      · have HE : Hid (spentB ⟨a, b, d⟩ r = false) := hid (by unfold spentB; rw [if_neg h1, if_neg h2]; simp [h3])
        have h3' : (a == 18446744073709551614) = false := beq_eq_false_iff_ne.2 h3
        go_enter Try.func26, Try.ntmps26
        go_wp2
        go_ret
        exact ⟨congrArg (fun b => Ending.returned (Value.bool b)) HE.out.symm, Below.al (Below.refl _ _) _⟩

theorem spent_is {a b d r : Int} {v : Bool} (h : spentB ⟨a, b, d⟩ r = v) (w : World) :
    Calls Try.prog 26 #[stv a b d, .int .u64 r] w fun e w' => e = .returned (.bool v) ∧ Below w.heap.size w w' := h ▸ spent_any a b d r w

theorem spent_iff (c : Ck) (h : c.ok) : spentB c.l c.rd = true ↔ tickN c = ⟨0, 0, 0, 11⟩ := by
  have hr := h.rd
  unfold U64 at hr
  obtain ⟨⟨h1, h2⟩, ⟨h3, h4⟩, h5, h6⟩ : StB c.l.w c.l.l c.l.n := h.l
  unfold spentB tickN
  by_cases hl : c.rd > c.l.w
  · rw [if_pos hl, if_neg (by omega)]
    by_cases he : c.rd = 18446744073709551615
    · simp [he]
    · rw [if_neg he]; simp [he]
  · have hle : c.rd ≤ c.l.w := by omega
    rw [if_neg hl, if_pos hle]
    by_cases ha : c.l.w = 18446744073709551615
    · rw [if_pos ha, nxt_top ha]; simp
    · rw [if_neg ha]
      by_cases hb : c.l.l < 4294967295
      · rw [nxt_in ha hb]
        have : ¬ c.l.l = 4294967295 := by omega
        simp [this]
      · have hb' : c.l.l = 4294967295 := by omega
        by_cases hl2 : c.l.w + 1 = 18446744073709551615
        · rw [nxt_end ha hb hl2]
          have : c.l.w = 18446744073709551614 := by omega
          simp [this, hb']
        · rw [nxt_up ha hb hl2]
          have : ¬ c.l.w = 18446744073709551614 := by omega
          simp [this]

end Go.Proofs.Ytmloaddbmkonoaa
