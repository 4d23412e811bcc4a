import Derived.Test.YtfafkohghgliaabDoorTuTp
/- Sizes of what is decoded. -/
namespace Go.Proofs.YtfafkohghgliaabDoor.Tu
open Go.RowKit Go.Sort Go.Proofs.YtfafkohghgliaabDoor
set_option linter.unusedVariables false
set_option linter.unusedSectionVars false
variable [DecidableEq Vl]

theorem okV_len {v : Vl} (h : okV v = true) : v.s.length ≤ (codeV v).length := by
  rcases okV_iff h with rfl | ⟨f, rfl⟩ | ⟨n, rfl⟩ | ⟨s, rfl⟩
  · simp [vNull]
  · simp [vBool]
  · simp [vInt]
  · rw [code_text]; have := (esc_len s).1; simp [vText]; omega
theorem tp_of : ∀ {t : List Vl}, okT t = true → OkT t → t.length ≤ (encL t).length ∧ ∀ v ∈ t, v.s.length ≤ (encL t).length
  | [], _, _ => ⟨by simp, by simp⟩
  | v :: t, h, k => by
    have h1 : okV v = true ∧ okT t = true := by simpa [okT] using h
    have ih := tp_of h1.2 k.tail
    have hc := codeV_len k.head.n64
    have hv := okV_len h1.1
    rw [encL_cons, List.length_append]
    refine ⟨by simp; omega, fun x hx => ?_⟩
    rcases List.mem_cons.1 hx with rfl | hx
    · omega
    · have := ih.2 x hx; omega
theorem tp_dec {l : List Nat} {t : List Vl} (h8 : B8 l) (hl : l.length ≤ 16777216) (h : decT l = some t) : Tp t := by
  obtain ⟨h1, h2, h3⟩ := dec_only h8 h
  have := tp_of h1 h2
  rw [h3] at this
  exact ⟨h2, by omega, fun v hv => by have := this.2 v hv; omega, by rw [h3]; omega⟩
theorem decT_ok {l : List Nat} (h8 : B8 l) (hl : l.length ≤ 16777216) : OkT ((decT l).getD []) ∧ ((decT l).getD []).length ≤ l.length := by
  cases hd : decT l with
  | none => exact ⟨OkT.nil, by simp⟩
  | some t =>
    have h := tp_of (dec_only h8 hd).1 (dec_only h8 hd).2.1
    rw [(dec_only h8 hd).2.2] at h
    exact ⟨(dec_only h8 hd).2.1, h.1⟩
end Go.Proofs.YtfafkohghgliaabDoor.Tu
