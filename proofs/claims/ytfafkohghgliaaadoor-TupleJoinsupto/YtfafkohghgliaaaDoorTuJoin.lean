import Derived.Test.YtfafkohghgliaaaDoorTuOwn
/- Law 25's joined. -/
namespace Go.Proofs.YtfafkohghgliaaaDoor.Tu
open Go.RowKit Go.Sort Go.Proofs.YtfafkohghgliaaaDoor
set_option linter.unusedVariables false
set_option linter.unusedSectionVars false
variable [DecidableEq Vl]

set_option maxHeartbeats 4000000 in
theorem joined_is {a b : Option Addr} {c d : Nat} {xs ys : List Vl} {w : World} (h : RowV w a xs) (k : RowV w b ys) (hl : 64 * (xs.length + ys.length + 1) ≤ 140737488355328) :
    Calls Tryd.prog 9 #[.slice a xs.length c, .slice b ys.length d] w fun e w' => ∃ v, e = .returned v ∧ OwnV w' w.heap.size v (xs ++ ys) ∧ Below w.heap.size w w' := by
  obtain ⟨n, hn⟩ : ∃ n, n = xs.length := ⟨_, rfl⟩
  obtain ⟨m, hm⟩ : ∃ m, m = ys.length := ⟨_, rfl⟩
  have HA := hid (show _ ∧ _ ∧ _ ∧ _ from ⟨h, k, hn, hm⟩)
  rw [← hn, ← hm] at hl ⊢
  clear h k hn hm
  go_enter Tryd.func9, Tryd.ntmps9
  go_wp2_with fail
  go_loopg [5, 6] n (fun g s5 s6 wr => ∃ (i : Nat) (p : Option Addr) (q : Nat), i ≤ n ∧ g = n - i ∧ s6 = .int .i64 i ∧ s5 = .slice p i q ∧ Hid (OwnV wr w.heap.size (.slice p i q) (xs.take i)) ∧ Hid (Below w.heap.size w wr))
  case atStart => exact ⟨0, none, 0, by omega, by omega, rfl, rfl, OwnV.nil _ _, Below.refl _ _⟩
  case round =>
    obtain ⟨i, p, q, hi, rfl, rfl, rfl, HO, HB⟩ := hrel
    by_cases hlt : i < n
    · have hlt' : i < xs.length := by rw [← HA.out.2.2.1]; exact hlt
      obtain ⟨ba, oa, ea, a0, a1, a2, a3⟩ := (HA.out.1.later HB.out) i hlt'
      subst ea
      obtain ⟨x, hx⟩ : ∃ x, x = nthV xs i := ⟨_, rfl⟩
      have HT : Hid (xs.take (i + 1) = xs.take i ++ [x]) := by show _ = _; rw [nthV_take hlt', hx]
      have HL : Hid ((xs.take i).length = i) := by show _ = _; rw [List.length_take]; omega
      rw [← hx] at a0 a1 a2 a3
      clear hx hlt'
      obtain ⟨xk, xf, xn, xs'⟩ := x
      simp only at a0 a1 a2 a3
      go_wp2_with (at_builtin; refine append_V rfl _ _ rfl (⟨xk, xf, xn, xs'⟩ : Vl) rfl (HO.out.later (Below.al (Below.refl _ _) _)) (g := wr.heap.size) rfl (newV _ ⟨xk, xf, xn, xs'⟩ _) (by rw [HL.out]; omega) (by have := HB.out.size; simp; omega) ?_; intro v3 w3 ho3 hg3; have HB3 := hid (OwnV.grown (HO.out.later (Below.al (Below.refl _ _) _)) hg3 (Below.al HB.out _) (Nat.le_refl _)); have hv3 := ho3.slice; clear hg3)
      rw [← HT.out] at ho3 hv3
      obtain ⟨a3, c3, rfl⟩ := hv3
      have e3 : (xs.take (i + 1)).length = i + 1 := by rw [HT.out, List.length_append, HL.out]; rfl
      rw [e3] at ho3 ⊢
      go_roundg (n - (i + 1))
      case measure => omega
      case rel => exact ⟨i + 1, a3, c3, by omega, rfl, by go_num, rfl, hid ho3, HB3⟩
    · obtain rfl : i = n := by omega
      have HO2 : Hid (OwnV wr w.heap.size (.slice p i q) (xs ++ ys.take 0)) := by have := HO.out; rw [HA.out.2.2.1, List.take_length, ← HA.out.2.2.1] at this; show OwnV _ _ _ _; simpa using this
      clear HO
      go_wp2_with fail
      go_loopg [5, 7] m (fun g s5 s7 wz => ∃ (j : Nat) (p : Option Addr) (q : Nat), j ≤ m ∧ g = m - j ∧ s7 = .int .i64 j ∧ s5 = .slice p (i + j) q ∧ Hid (OwnV wz w.heap.size (.slice p (i + j) q) (xs ++ ys.take j)) ∧ Hid (Below w.heap.size w wz))
      case atStart => exact ⟨0, p, q, by omega, by omega, rfl, rfl, HO2, HB⟩
      case round =>
        obtain ⟨j, p2, q2, hj, rfl, rfl, rfl, HO3, HB3⟩ := hrel
        clear HO2 HB
        by_cases hlt2 : j < m
        · have hlt' : j < ys.length := by rw [← HA.out.2.2.2]; exact hlt2
          obtain ⟨ba, oa, ea, a0, a1, a2, a3⟩ := (HA.out.2.1.later HB3.out) j hlt'
          subst ea
          obtain ⟨x, hx⟩ : ∃ x, x = nthV ys j := ⟨_, rfl⟩
          have HT : Hid (xs ++ ys.take (j + 1) = (xs ++ ys.take j) ++ [x]) := by show _ = _; rw [nthV_take hlt', hx, List.append_assoc]
          have HL : Hid ((xs ++ ys.take j).length = i + j) := by show _ = _; rw [List.length_append, List.length_take, HA.out.2.2.1]; omega
          rw [← hx] at a0 a1 a2 a3
          clear hx hlt'
          obtain ⟨xk, xf, xn, xs'⟩ := x
          simp only at a0 a1 a2 a3
          rename World => wz
          go_wp2_with (at_builtin; refine append_V rfl _ _ rfl (⟨xk, xf, xn, xs'⟩ : Vl) rfl (HO3.out.later (Below.al (Below.refl _ _) _)) (g := wz.heap.size) rfl (newV _ ⟨xk, xf, xn, xs'⟩ _) (by rw [HL.out]; omega) (by have := HB3.out.size; simp; omega) ?_; intro v3 w3 ho3 hg3; have HB4 := hid (OwnV.grown (HO3.out.later (Below.al (Below.refl _ _) _)) hg3 (Below.al HB3.out _) (Nat.le_refl _)); have hv3 := ho3.slice; clear hg3)
          rw [← HT.out] at ho3 hv3
          obtain ⟨a3, c3, rfl⟩ := hv3
          have e3 : (xs ++ ys.take (j + 1)).length = i + (j + 1) := by rw [HT.out, List.length_append, HL.out]; rfl
          rw [e3] at ho3 ⊢
          go_roundg (m - (j + 1))
          case measure => omega
          case rel => exact ⟨j + 1, a3, c3, by omega, rfl, by go_num, rfl, hid ho3, HB4⟩
        · obtain rfl : j = m := by omega
          have HF : Hid (xs ++ ys.take j = xs ++ ys) := by show _ = _; rw [HA.out.2.2.2, List.take_length]
          go_wp2_with fail
          go_ret
          exact ⟨_, rfl, by rw [← HF.out]; exact HO3.out, HB3.out⟩
end Go.Proofs.YtfafkohghgliaaaDoor.Tu
