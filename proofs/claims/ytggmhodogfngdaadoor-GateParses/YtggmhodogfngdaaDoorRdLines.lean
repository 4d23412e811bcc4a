import Derived.Test.YtggmhodogfngdaaDoorRdPlain
import Derived.Lib.SplitLaws
import Derived.Lib.SlTrimSet
import Derived.Lib.ItoaNum
/- Lines, words and numbers of a configuration's text, plain. -/
namespace Go.Proofs.YtggmhodogfngdaaDoor.Rt
set_option linter.unusedVariables false

/-! where a byte stands first -/
theorem ix_none {c : UInt8} : ∀ {l : List UInt8}, c ∉ l → Lib.index l [c] = -1
  | [], _ => rfl
  | b :: l, h => by
    have hb : c ≠ b := fun e => h (by simp [e])
    have ih := ix_none (c := c) (l := l) (fun e => h (by simp [e]))
    simp [Lib.index, List.isPrefixOf, hb, ih]
theorem ix_at {c : UInt8} : ∀ {a t : List UInt8}, c ∉ a → Lib.index (a ++ c :: t) [c] = a.length
  | [], t, _ => by simp [Lib.index, List.isPrefixOf]
  | b :: a, t, h => by
    have hb : c ≠ b := fun e => h (by simp [e])
    have ih := ix_at (c := c) (a := a) (t := t) (fun e => h (by simp [e]))
    have hn : ((a.length : Int) == -1) = false := by rw [beq_eq_false_iff_ne]; omega
    simp [Lib.index, List.isPrefixOf, hb, ih, hn]
/-! a text's lines -/
def lns : List UInt8 → List (List UInt8)
  | [] => [[]]
  | b :: t => if b = 10 then [] :: lns t else match lns t with
    | l :: r => (b :: l) :: r
    | [] => [[b]]
theorem lns_none : ∀ {l : List UInt8}, (10 : UInt8) ∉ l → lns l = [l]
  | [], _ => rfl
  | b :: l, h => by
    have hb : b ≠ 10 := fun e => h (by simp [e])
    have ih := lns_none (l := l) (fun e => h (by simp [e]))
    simp [lns, hb, ih]
theorem lns_line : ∀ {a t : List UInt8}, (10 : UInt8) ∉ a → lns (a ++ 10 :: t) = a :: lns t
  | [], t, _ => by simp [lns]
  | b :: a, t, h => by
    have hb : b ≠ 10 := fun e => h (by simp [e])
    have ih := lns_line (a := a) (t := t) (fun e => h (by simp [e]))
    simp [lns, hb, ih]
theorem split_lns : ∀ (k : Nat) (l : List UInt8), l.count 10 ≤ k → Lib.splitK [10] 0 k l = lns l
  | 0, l, h => by
    have hn : (10 : UInt8) ∉ l := List.count_eq_zero.1 (by omega)
    rw [lns_none hn]; rfl
  | k + 1, l, h => by
    by_cases hm : (10 : UInt8) ∈ l
    · obtain ⟨a, t, rfl, ha⟩ := List.eq_append_cons_of_mem hm
      have hi := ix_at (t := t) ha
      have hc : t.count 10 ≤ k := by
        rw [List.count_append, List.count_cons_self, List.count_eq_zero.2 ha] at h
        omega
      have hne : ((a.length : Int) == -1) = false := by rw [beq_eq_false_iff_ne]; omega
      rw [Lib.splitK, hi, hne, lns_line ha, ← split_lns k t hc]
      simp
    · rw [Lib.splitK, ix_none hm, lns_none hm]; rfl
theorem count_lns : ∀ (f : Nat) (l : List UInt8), l.length < f → l.count 10 = Lib.countFrom [10] f l
  | 0, l, h => by omega
  | f + 1, l, h => by
    by_cases hm : (10 : UInt8) ∈ l
    · obtain ⟨a, t, rfl, ha⟩ := List.eq_append_cons_of_mem hm
      have hi := ix_at (t := t) ha
      have hne : ((a.length : Int) == -1) = false := by rw [beq_eq_false_iff_ne]; omega
      have ih := count_lns f t (by simp at h; omega)
      rw [Lib.countFrom, hi, hne, List.count_append, List.count_cons_self, List.count_eq_zero.2 ha, ih]
      simp
      omega
    · rw [Lib.countFrom, ix_none hm, List.count_eq_zero.2 hm]; rfl
theorem split_is (s : ByteArray) : (Lib.splitB ⟨#[10]⟩ 0 (Lib.countB s ⟨#[10]⟩) s).map (·.data.toList) = lns s.data.toList := by
  rw [Lib.splitB_data]
  refine split_lns _ _ ?_
  rw [count_lns (s.data.toList.length + 1) _ (by omega)]
  exact Nat.le_refl _
/-- lines, each ended -/
def flat (ls : List (List UInt8)) : List UInt8 := ls.flatMap (fun l => l ++ [10])
theorem lns_flat : ∀ {ls : List (List UInt8)} {t : List UInt8}, (∀ l ∈ ls, (10 : UInt8) ∉ l) → lns (flat ls ++ t) = ls ++ lns t
  | [], t, _ => rfl
  | l :: ls, t, h => by
    have ih := lns_flat (ls := ls) (t := t) (fun x hx => h x (by simp [hx]))
    show lns ((l ++ [10]) ++ flat ls ++ t) = _
    rw [List.append_assoc, List.append_assoc]
    show lns (l ++ 10 :: (flat ls ++ t)) = _
    rw [lns_line (h l (by simp)), ih]
    rfl
theorem dw_nil {p : UInt8 → Bool} : ∀ {l : List UInt8}, l.dropWhile p = [] ↔ ∀ x ∈ l, p x = true
  | [] => by simp
  | x :: l => by
    have ih := dw_nil (p := p) (l := l)
    cases h : p x with
    | true => rw [List.dropWhile_cons, if_pos h, ih]; simp [h]
    | false => rw [List.dropWhile_cons, if_neg (by simp [h])]; simp [h]
theorem tw_mem {p : UInt8 → Bool} {x : UInt8} : ∀ {l : List UInt8}, x ∈ l.takeWhile p → p x = true
  | [], h => by simp at h
  | y :: l, h => by
    rw [List.takeWhile_cons] at h
    cases hy : p y with
    | true =>
      rw [if_pos hy] at h
      rcases List.mem_cons.1 h with e | e
      · rw [e]; exact hy
      · exact tw_mem e
    | false => rw [if_neg (by simp [hy])] at h; simp at h
theorem tw_self {p : UInt8 → Bool} : ∀ {l : List UInt8}, (∀ x ∈ l, p x = true) → l.takeWhile p = l
  | [], _ => rfl
  | x :: l, h => by
    rw [List.takeWhile_cons, if_pos (h x (by simp)), tw_self (fun y hy => h y (by simp [hy]))]
/-! a name and a word -/
theorem lcut_is (l : List UInt8) : (Lib.cut l [32]).1 = headB l ∧ (Lib.cut l [32]).2.1 = tailB l := by
  by_cases hm : (32 : UInt8) ∈ l
  · obtain ⟨a, t, rfl, ha⟩ := List.eq_append_cons_of_mem hm
    have hp : ∀ x ∈ a, decide (x ≠ 32) = true := fun x hx => decide_eq_true (fun e => ha (e ▸ hx))
    have e1 : headB (a ++ 32 :: t) = a := tw_app hp (by decide)
    have e2 : tailB (a ++ 32 :: t) = t := by unfold tailB; rw [dw_app hp (by decide)]; rfl
    rw [e1, e2, Lib.cut, ix_at ha, if_pos (by omega)]
    simp
  · have hp : ∀ x ∈ l, decide (x ≠ 32) = true := fun x hx => decide_eq_true (fun e => hm (e ▸ hx))
    have e1 : headB l = l := by unfold headB; rw [tw_self hp]
    have e2 : tailB l = [] := by unfold tailB; rw [dw_nil.2 hp]; rfl
    rw [e1, e2, Lib.cut, ix_none hm, if_neg (by omega)]
    simp
/-! numbers -/
theorem trim_nil (l cs : List UInt8) : Lib.trimS l cs = [] ↔ ∀ b ∈ l, cs.contains b = true := by
  unfold Lib.trimS Lib.trimLeftS Lib.trimRightS
  rw [dw_nil]
  constructor
  · intro h b hb
    cases hc : cs.contains b with
    | true => rfl
    | false =>
      have hmem : b ∈ (l.reverse.dropWhile (cs.contains ·)).reverse := by
        rw [List.mem_reverse]
        have hb' : b ∈ l.reverse := by simpa using hb
        rw [← List.takeWhile_append_dropWhile (p := (cs.contains ·)) (l := l.reverse)] at hb'
        rcases List.mem_append.1 hb' with h1 | h1
        · have := tw_mem h1
          simp only [hc] at this
          cases this
        · exact h1
      rw [h b hmem] at hc
      cases hc
  · intro h b hb
    have hb' : b ∈ l := by
      have := (List.dropWhile_suffix (cs.contains ·) (l := l.reverse)).subset (by simpa using hb)
      simpa using this
    exact h b hb'
theorem dig_toNat {d : Nat} (h : d < 10) : (UInt8.ofNat (48 + d)).toNat = 48 + d := by
  rw [UInt8.toNat_ofNat']
  omega
theorem parse_dec : ∀ (n u : Nat) (r : List UInt8), u ≤ n → u < 18446744073709551616 → Lib.parseUint10 0 (Lib.decDigits u ++ r) = Lib.parseUint10 u r
  | n, u, r, hn, hu => by
    by_cases h : u < 10
    · rw [Lib.decDigits, dif_pos h]
      show Lib.parseUint10 0 (UInt8.ofNat (48 + u) :: r) = _
      rw [Lib.parseUint10, dig_toNat h, if_pos (by omega), if_neg (by omega), if_neg (by omega)]
      congr 1
      omega
    · rw [Lib.decDigits, dif_neg h, List.append_assoc]
      match n, hn with
      | 0, hn => omega
      | n + 1, hn =>
        rw [parse_dec n (u / 10) _ (by omega) (by omega)]
        show Lib.parseUint10 (u / 10) (UInt8.ofNat (48 + u % 10) :: r) = _
        rw [Lib.parseUint10, dig_toNat (by omega), if_pos (by omega), if_neg (by omega), if_neg (by omega)]
        congr 1
        omega
theorem dec_digits : ∀ (n u : Nat), u ≤ n → (∀ b ∈ Lib.decDigits u, 48 ≤ b.toNat ∧ b.toNat ≤ 57) ∧ Lib.decDigits u ≠ [] ∧ (1 ≤ u → (Lib.decDigits u).head? ≠ some 48)
  | n, u, hn => by
    by_cases h : u < 10
    · rw [Lib.decDigits, dif_pos h]
      refine ⟨fun b hb => ?_, by simp, fun h1 e => ?_⟩
      · rw [List.mem_singleton.1 hb, dig_toNat h]; omega
      · have e' : UInt8.ofNat (48 + u) = 48 := by simpa using e
        have := congrArg UInt8.toNat e'
        rw [dig_toNat h] at this
        have h48 : (48 : UInt8).toNat = 48 := rfl
        omega
    · match n, hn with
      | 0, hn => omega
      | n + 1, hn =>
        obtain ⟨h1, h2, h3⟩ := dec_digits n (u / 10) (by omega)
        rw [Lib.decDigits, dif_neg h]
        refine ⟨fun b hb => ?_, by simp, fun _ => ?_⟩
        · rcases List.mem_append.1 hb with hb | hb
          · exact h1 b hb
          · rw [List.mem_singleton.1 hb, dig_toNat (by omega)]; omega
        · cases hd : Lib.decDigits (u / 10) with
          | nil => exact absurd hd h2
          | cons x xs =>
            have := h3 (by omega)
            rw [hd] at this
            simpa using this
theorem num_dec {u : Nat} (hu : u < 18446744073709551616) : num (Lib.decDigits u) = some (some u) := by
  obtain ⟨h1, h2, h3⟩ := dec_digits u u (Nat.le_refl _)
  unfold num
  rw [if_neg]
  · have := parse_dec u u [] (Nat.le_refl _) hu
    rw [List.append_nil] at this
    rw [this]
    rfl
  · rintro (h | h | h)
    · have : (Lib.decDigits u).all (fun b => decide (48 ≤ b.toNat) && decide (b.toNat ≤ 57)) = true := List.all_eq_true.2 fun b hb => by simpa using h1 b hb
      rw [this] at h; cases h
    · by_cases h0 : 1 ≤ u
      · exact h3 h0 h.2
      · have : u = 0 := by omega
        subst this
        rw [Lib.decDigits, dif_pos (by decide)] at h
        simp at h
    · exact h2 h
end Go.Proofs.YtggmhodogfngdaaDoor.Rt
