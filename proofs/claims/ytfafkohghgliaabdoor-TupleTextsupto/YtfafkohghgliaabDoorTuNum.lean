import Derived.Test.YtfafkohghgliaabDoorTuWd
import Derived.Lib.ParseIntBTie
import Derived.Lib.ItoaNum
/- Numbers as text: what is read back, plain. -/
namespace Go.Proofs.YtfafkohghgliaabDoor.Tu
open Go.RowKit Go.Sort Go.Proofs.YtfafkohghgliaabDoor Go.Proofs.YtfafkohghgliaabDoor.Rt Go.Proofs.YtfafkohghgliaabDoor.Gt
set_option linter.unusedVariables false
set_option linter.unusedSectionVars false
variable [DecidableEq Vl]

theorem dgt_toNat {d : Nat} (h : d < 10) : (UInt8.ofNat (48 + d)).toNat = 48 + d := by
  rw [UInt8.toNat_ofNat']
  omega
theorem prs_dec : ∀ (n u : Nat) (r : List UInt8), u ≤ n → u < 18446744073709551616 → Lib.parseUint10 0 (Lib.decDigits u ++ r) = Lib.parseUint10 u r
  | n, u, r, hn, hu => by
    by_cases h : u < 10
    · rw [Lib.decDigits, dif_pos h]
      show Lib.parseUint10 0 (UInt8.ofNat (48 + u) :: r) = _
      rw [Lib.parseUint10, dgt_toNat h, if_pos (by omega), if_neg (by omega), if_neg (by omega)]
      congr 1
      omega
    · rw [Lib.decDigits, dif_neg h, List.append_assoc]
      match n, hn with
      | 0, hn => omega
      | n + 1, hn =>
        rw [prs_dec n (u / 10) _ (by omega) (by omega)]
        show Lib.parseUint10 (u / 10) (UInt8.ofNat (48 + u % 10) :: r) = _
        rw [Lib.parseUint10, dgt_toNat (by omega), if_pos (by omega), if_neg (by omega), if_neg (by omega)]
        congr 1
        omega
theorem dc_digits : ∀ (n u : Nat), u ≤ n → (∀ b ∈ Lib.decDigits u, 48 ≤ b.toNat ∧ b.toNat ≤ 57) ∧ Lib.decDigits u ≠ [] ∧ (1 ≤ u → (Lib.decDigits u).head? ≠ some 48)
  | n, u, hn => by
    by_cases h : u < 10
    · rw [Lib.decDigits, dif_pos h]
      refine ⟨fun b hb => ?_, by simp, fun h1 e => ?_⟩
      · rw [List.mem_singleton.1 hb, dgt_toNat h]; omega
      · have e' : UInt8.ofNat (48 + u) = 48 := by simpa using e
        have := congrArg UInt8.toNat e'
        rw [dgt_toNat h] at this
        have h48 : (48 : UInt8).toNat = 48 := rfl
        omega
    · match n, hn with
      | 0, hn => omega
      | n + 1, hn =>
        obtain ⟨h1, h2, h3⟩ := dc_digits n (u / 10) (by omega)
        rw [Lib.decDigits, dif_neg h]
        refine ⟨fun b hb => ?_, by simp, fun _ => ?_⟩
        · rcases List.mem_append.1 hb with hb | hb
          · exact h1 b hb
          · rw [List.mem_singleton.1 hb, dgt_toNat (by omega)]; omega
        · cases hd : Lib.decDigits (u / 10) with
          | nil => exact absurd hd h2
          | cons x xs =>
            have := h3 (by omega)
            rw [hd] at this
            simpa using this
theorem prs_nat {z : Nat} (h : z ≤ 18446744073709551615) : Lib.parseUintB 64 (Lib.decDigits z) = .ok z := by
  obtain ⟨hd, hne, _⟩ := dc_digits z z (Nat.le_refl _)
  have h := prs_dec z z [] (Nat.le_refl _) (by omega)
  rw [List.append_nil] at h
  unfold Lib.parseUintB
  simp [hne, h, Lib.parseUintM_64, Lib.parseUint10]
theorem prs_itoa {k : Int} (h : In64 k) : Lib.parseIntB 64 (Lib.itoa k) = .ok k := by
  obtain ⟨h1, h2⟩ := h
  unfold Lib.itoa
  by_cases hk : k < 0
  · rw [if_pos hk, Lib.parseIntB_minus, prs_nat (by omega)]
    have : ¬ 9223372036854775808 < k.natAbs := by omega
    simp [Lib.signedC, this]
    omega
  · rw [if_neg hk]
    obtain ⟨hd, hne, _⟩ := dc_digits k.toNat k.toNat (Nat.le_refl _)
    have hp := prs_nat (z := k.toNat) (by omega)
    generalize Lib.decDigits k.toNat = l at *
    cases l with
    | nil => exact absurd rfl hne
    | cons c r =>
      have hc := hd c (by simp)
      rw [Lib.parseIntB_plain 64 c r (by omega) (by omega), hp]
      have : ¬ 9223372036854775808 ≤ k.toNat := by omega
      simp [Lib.signlessC, this]
      omega
theorem prs_back {l : List Nat} {k : Int} (h : In64 k) (e : Tu.decI k = l) : Lib.parseIntB 64 (ofNats l).data.toList = .ok k := by
  subst e
  rw [ofNats_decI]
  exact prs_itoa h
theorem prs_in {l : List UInt8} {v : Int} (h : Lib.parseIntB 64 l = .ok v) : In64 v := by
  have := Lib.parseIntB_bounds h
  simp at this
  exact ⟨by omega, by omega⟩
theorem hear_ok {l : List Nat} {v : Int} (h1 : l ≠ nNull) (h2 : l ≠ nTrue) (h3 : l ≠ nFalse) (h4 : l.head? ≠ some 39) (hp : Lib.parseIntB 64 (ofNats l).data.toList = .ok v) :
    hearL l = if Tu.decI v = l then some (vInt v) else none := by
  unfold hearL
  rw [if_neg h1, if_neg h2, if_neg h3, if_neg h4]
  by_cases e : Tu.decI v = l
  · rw [if_pos e, if_pos]
    · rw [← e, num_decI]
    · rw [← e, num_decI]; exact ⟨rfl, prs_in hp⟩
  · rw [if_neg e, if_neg]
    rintro ⟨e1, e2⟩
    have := prs_back e2 e1
    rw [hp] at this
    injection this with this
    exact e (by rw [this]; exact e1)
theorem hear_bad {l : List Nat} (h1 : l ≠ nNull) (h2 : l ≠ nTrue) (h3 : l ≠ nFalse) (h4 : l.head? ≠ some 39) (hp : ∀ v, Lib.parseIntB 64 (ofNats l).data.toList ≠ .ok v) : hearL l = none := by
  unfold hearL
  rw [if_neg h1, if_neg h2, if_neg h3, if_neg h4, if_neg]
  rintro ⟨e1, e2⟩
  exact hp _ (prs_back e2 e1)
end Go.Proofs.YtfafkohghgliaabDoor.Tu
