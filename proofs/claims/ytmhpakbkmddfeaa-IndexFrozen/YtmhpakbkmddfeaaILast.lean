import Derived.Test.YtmhpakbkmddfeaaIOps
namespace Go.Proofs.Ytmhpakbkmddfeaa
open Go.RowKit Go.Sort
set_option linter.unusedVariables false

set_option maxHeartbeats 2000000 in
theorem last_is {w : World} {a : Option Addr} {c : Nat} {l : List Ao} (h : RowO w a l) (hl : l.length ≤ 9223372036854775806) (key : ByteArray) :
    Calls Try.prog 13 #[.slice a l.length c, .string key] w fun e w' => e = .returned (gotX (getL (chs l) key)) ∧ w' = w := by
  have HR := hid h
  clear h
  go_enter Try.func13, Try.ntmps13
  go_wp2_with fail
  go_loopg [6] l.length (fun g s6 wr => ∃ j : Nat, j ≤ l.length ∧ g = j ∧ s6 = .int .i64 ((j : Int) - 1) ∧ Hid (getL (chs l) key = getL (chs (l.take j)) key) ∧ wr = w)
  case atStart => exact ⟨l.length, Nat.le_refl _, rfl, by go_num, by show _ = _; rw [List.take_of_length_le (Nat.le_refl _)], rfl⟩
  case round =>
    obtain ⟨j, hj, rfl, rfl, HG, rfl⟩ := hrel
    cases gk with
    | zero =>
      have HE : Hid (getL (chs l) key = none) := by show _ = _; rw [HG.out]; rfl
      go_wp2_with fail
      go_ret2
      exact ⟨by rw [HE.out]; rfl, rfl⟩
    | succ i =>
      have hi : i < l.length := by omega
      obtain ⟨b, off, rfl, d0, d1, d2, d3, d4, d5⟩ := HR.out i hi
      have HT : Hid (getL (chs (l.take (i + 1))) key = if (nthO l i).key = key then (if (nthO l i).k = 2 then some (nthO l i).v else if (nthO l i).k = 4 then none else getL (chs (l.take i)) key) else getL (chs (l.take i)) key) := by
        show _ = _; rw [nthO_take hi, getL_chs_snoc]
      obtain ⟨x, hx⟩ : ∃ x, x = nthO l i := ⟨_, rfl⟩
      rw [← hx] at d0 d2 d4 HT
      clear hx d1 d3 d5
      rw [show (((i + 1 : Nat) : Int) - 1) = (i : Int) by omega]
      by_cases hk : x.key = key
      · have q1 := toList_beq' (decide_eq_true hk)
        by_cases h2 : x.k = 2
        · have HE : Hid (getL (chs l) key = some x.v) := by show _ = _; rw [HG.out, HT.out, if_pos hk, if_pos h2]
          rw [h2] at d0
          clear hk h2
          go_wp2_with fail
          go_ret2
          exact ⟨by rw [HE.out]; rfl, rfl⟩
        · have p2 : (x.k == 2) = false := by simpa using h2
          by_cases h4 : x.k = 4
          · have HE : Hid (getL (chs l) key = none) := by show _ = _; rw [HG.out, HT.out, if_pos hk, if_neg h2, if_pos h4]
            rw [h4] at d0
            clear hk h2 h4 p2
            go_wp2_with fail
            go_ret2
            exact ⟨by rw [HE.out]; rfl, rfl⟩
          · have p4 : (x.k == 4) = false := by simpa using h4
            have HG2 : Hid (getL (chs l) key = getL (chs (l.take i)) key) := by show _ = _; rw [HG.out, HT.out, if_pos hk, if_neg h2, if_neg h4]
            clear hk h2 h4
            go_wp2_with fail
            go_roundg i
            case measure => omega
            case rel => exact ⟨i, by omega, rfl, by go_num, HG2, rfl⟩
      · have q1 := toList_beq' (decide_eq_false hk)
        have HG2 : Hid (getL (chs l) key = getL (chs (l.take i)) key) := by show _ = _; rw [HG.out, HT.out, if_neg hk]
        clear hk
        go_wp2_with fail
        go_roundg i
        case measure => omega
        case rel => exact ⟨i, by omega, rfl, by go_num, HG2, rfl⟩

set_option maxHeartbeats 2000000 in
theorem setO_is {w : World} {a : Option Addr} {c : Nat} {l : List Ao} (h : RowO w a l) (hl : l.length ≤ 9223372036854775806) (key : ByteArray) :
    Calls Try.prog 15 #[.slice a l.length c, .string key] w fun e w' => e = .returned (.bool (setO l key)) ∧ w' = w := by
  have HR := hid h
  clear h
  go_enter Try.func15, Try.ntmps15
  go_wp2_with fail
  go_loopg [8] l.length (fun g s8 wr => ∃ i : Nat, i ≤ l.length ∧ g = l.length - i ∧ s8 = .int .i64 i ∧ Hid (setO (l.take i) key = false) ∧ wr = w)
  case atStart => exact ⟨0, by omega, by omega, rfl, rfl, rfl⟩
  case round =>
    obtain ⟨i, hi, rfl, rfl, HA, rfl⟩ := hrel
    by_cases hlt : i < l.length
    · obtain ⟨b, off, rfl, d0, d1, d2, d3, d4, d5⟩ := HR.out i hlt
      obtain ⟨x, hx⟩ : ∃ x, x = nthO l i := ⟨_, rfl⟩
      have HT : Hid (l.take (i + 1) = l.take i ++ [x]) := by show _ = _; rw [nthO_take hlt, hx]
      have HM : Hid (x ∈ l) := by show _ ∈ _; rw [hx]; exact nthO_mem hlt
      rw [← hx] at d0 d2
      clear hx d1 d3 d4 d5
      by_cases h2 : x.k = 2
      · by_cases hk : x.key = key
        · have q1 := toList_beq' (decide_eq_true hk)
          have HE : Hid (setO l key = true) := List.any_eq_true.2 ⟨x, HM.out, by simp [h2, hk]⟩
          rw [h2] at d0
          clear hk h2
          go_wp2_with fail
          go_ret
          exact ⟨retB' HE.out.symm, rfl⟩
        · have q1 := toList_beq' (decide_eq_false hk)
          have HA2 : Hid (setO (l.take (i + 1)) key = false) := by
            show _ = _
            have := HA.out
            unfold setO at this ⊢
            rw [HT.out, List.any_append, this]; simp [hk]
          rw [h2] at d0
          clear hk h2
          go_wp2_with fail
          go_roundg (l.length - (i + 1))
          case measure => omega
          case rel => exact ⟨i + 1, by omega, rfl, by go_num, HA2, rfl⟩
      · have p2 : (x.k == 2) = false := by simpa using h2
        have HA2 : Hid (setO (l.take (i + 1)) key = false) := by
          show _ = _
          have := HA.out
          unfold setO at this ⊢
          rw [HT.out, List.any_append, this]; simp [h2]
        clear h2
        go_wp2_with fail
        go_roundg (l.length - (i + 1))
        case measure => omega
        case rel => exact ⟨i + 1, by omega, rfl, by go_num, HA2, rfl⟩
    · obtain rfl : i = l.length := by omega
      have HE : Hid (setO l key = false) := by have := HA.out; rw [List.take_of_length_le (Nat.le_refl _)] at this; exact this
      go_wp2_with fail
      go_ret
      exact ⟨retB' HE.out.symm, rfl⟩

end Go.Proofs.Ytmhpakbkmddfeaa
