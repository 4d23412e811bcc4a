import Derived.Test.YtfafkohghgliaabDoorTuTp
import Derived.Test.YtfafkohghgliaabDoorTuT
/- Sizes of texts. -/
namespace Go.Proofs.YtfafkohghgliaabDoor.Tu
open Go.Proofs.YtfafkohghgliaabDoor Go.Proofs.YtfafkohghgliaabDoor.Rt Go.Proofs.YtfafkohghgliaabDoor.Gt
set_option linter.unusedVariables false
set_option linter.unusedSectionVars false
variable [DecidableEq Vl]

theorem said_code {v : Vl} (h : In64 v.n) : (saidL v).length + 1 ≤ 21 * (codeV v).length := by
  have h1 := decI_len h
  have h2 := (wordL_len v.s).2
  have h3 := (codeV_len h).1
  have h4 := (esc_len v.s).1
  by_cases k1 : v.kd = 1
  · unfold saidL; rw [if_pos k1]; split <;> simp <;> omega
  · by_cases k2 : v.kd = 2
    · unfold saidL; rw [if_neg k1, if_pos k2]; omega
    · by_cases k3 : v.kd = 3
      · have e : (codeV v).length = (esc v.s).length + 2 := by unfold codeV; rw [if_neg k1, if_neg k2, if_pos k3]; simp
        unfold saidL; rw [if_neg k1, if_neg k2, if_pos k3, List.length_cons]; omega
      · unfold saidL; rw [if_neg k1, if_neg k2, if_neg k3]; show 4 + 1 ≤ _; omega
theorem code_said {v : Vl} (h : In64 v.n) : (codeV v).length ≤ 9 * ((saidL v).length + 1) := by
  have h1 := said_len h
  have h2 := (wordL_len v.s)
  have h4 := (esc_len v.s).2
  have h5 := int_len h
  by_cases k1 : v.kd = 1
  · unfold codeV; rw [if_pos k1]; simp; omega
  · by_cases k2 : v.kd = 2
    · have : (codeV v).length ≤ 9 := by unfold codeV intC; rw [if_neg k1, if_pos k2]; split <;> simp [cps_len] <;> omega
      omega
    · by_cases k3 : v.kd = 3
      · have e : (codeV v).length = (esc v.s).length + 2 := by unfold codeV; rw [if_neg k1, if_neg k2, if_pos k3]; simp
        have e2 : (saidL v).length = (wordL v.s).length + 1 := by unfold saidL; rw [if_neg k1, if_neg k2, if_pos k3, List.length_cons]
        have e3 : v.s.length ≤ (wordL v.s).length := by
          by_cases h0 : v.s = []
          · rw [h0]; exact Nat.zero_le _
          · unfold wordL; rw [if_neg h0]; exact (wbs_len _).1
        omega
      · unfold codeV; rw [if_neg k1, if_neg k2, if_neg k3]; simp; omega
theorem join_enc : ∀ {t : List Vl}, OkT t → joinN (t.map saidL) ≤ 21 * (encL t).length ∧ (encL t).length ≤ 9 * joinN (t.map saidL)
  | [], _ => ⟨Nat.le_refl _, Nat.le_refl _⟩
  | v :: t, h => by
    have ih := join_enc h.tail
    have h1 := said_code h.head.n64
    have h2 := code_said h.head.n64
    rw [encL_cons, List.length_append]
    show (saidL v).length + 1 + joinN (t.map saidL) ≤ _ ∧ _ ≤ 9 * ((saidL v).length + 1 + joinN (t.map saidL))
    omega
theorem Tp.tn {t : List Vl} (h : Tp t) : joinN (t.map saidL) ≤ 21 * (encL t).length := (join_enc h.ok).1
theorem Tp.tl {t : List Vl} (h : Tp t) : joinN (t.map saidL) ≤ 4611686018427387904 := by have := h.tn; have := h.enc; omega
theorem Tp.sw {t : List Vl} (h : Tp t) : ∀ v ∈ t, 3 * v.s.length + 10 ≤ 140737488355328 := fun v hv => by have := h.sh v hv; omega
theorem Tp.txt {t : List Vl} (h : Tp t) : (textL t).length ≤ 21 * (encL t).length := by have := h.tn; have := join_len_le (t.map saidL); unfold textL; omega
theorem okV_said {v : Vl} (h : okV v = true) : v.s.length ≤ (saidL v).length := by
  rcases okV_iff h with rfl | ⟨f, rfl⟩ | ⟨n, rfl⟩ | ⟨s, rfl⟩
  · simp [vNull]
  · simp [vBool]
  · simp [vInt]
  · rw [said_text, List.length_cons]
    show s.length ≤ _
    by_cases h0 : s = []
    · rw [h0]; exact Nat.zero_le _
    · unfold wordL; rw [if_neg h0]; have := (wbs_len s).1; omega
theorem joinN_mem : ∀ {t : List Vl} {v : Vl}, v ∈ t → (saidL v).length ≤ joinN (t.map saidL)
  | [], v, h => by cases h
  | u :: t, v, h => by
    show _ ≤ (saidL u).length + 1 + joinN (t.map saidL)
    rcases List.mem_cons.1 h with rfl | h
    · omega
    · have := joinN_mem h; omega
theorem okT_mem {t : List Vl} (h : okT t = true) {v : Vl} (hv : v ∈ t) : okV v = true := by
  unfold okT at h; rw [List.all_eq_true] at h; exact h v hv
theorem joinN_text (t : List Vl) : joinN (t.map saidL) ≤ (textL t).length + 1 := by
  by_cases h : t.map saidL = []
  · rw [h]; exact Nat.zero_le _
  · have := join_len h; unfold textL; omega
theorem tp_par {l : List Nat} {t : List Vl} (h8 : B8 l) (hl : l.length ≤ 1048576) (h : parT l = some t) : Tp t := by
  obtain ⟨h1, h2, h3⟩ := par_only h8 h
  have hj := joinN_text t
  rw [h3] at hj
  have hc := joinN_count (t.map saidL)
  rw [List.length_map] at hc
  have he := (join_enc h2).2
  exact ⟨h2, by omega, fun v hv => by have := okV_said (okT_mem h1 hv); have := joinN_mem hv; omega, by omega⟩
theorem parT_ok {l : List Nat} (h8 : B8 l) (hl : l.length ≤ 1048576) : Tp ((parT l).getD []) ∧ ((parT l).getD []).length ≤ 1048577 := by
  cases hd : parT l with
  | none => exact ⟨⟨OkT.nil, by simp, fun v hv => (by cases hv), by simp [encL]⟩, by simp⟩
  | some t =>
    have h := par_only h8 hd
    have hj := joinN_text t
    rw [h.2.2] at hj
    have hc := joinN_count (t.map saidL)
    rw [List.length_map] at hc
    exact ⟨tp_par h8 hl hd, by show t.length ≤ _; omega⟩
end Go.Proofs.YtfafkohghgliaabDoor.Tu
