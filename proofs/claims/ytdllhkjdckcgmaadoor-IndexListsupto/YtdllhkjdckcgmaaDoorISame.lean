import Derived.Test.YtdllhkjdckcgmaaDoorIMirP
namespace Go.Proofs.YtdllhkjdckcgmaaDoor
open Go.RowKit Go.Sort
set_option linter.unusedVariables false

set_option maxHeartbeats 2000000 in
theorem same_is {w : World} {a b : Option Addr} {c d : Nat} {l m : List ByteArray} {u : Bool} (hu : decide (l = m) = u) (h : RowT w a l) (k : RowT w b m) (hl : l.length ≤ 9223372036854775806) :
    Calls Tryd.prog 11 #[.slice a l.length c, .slice b m.length d] w fun e w' => e = .returned (.bool u) ∧ Below w.heap.size w w' := by
  have HA := hid h
  have HK := hid k
  have HU := hid hu
  clear h k hu
  by_cases hlen : l.length = m.length
  · have q0 : (l.length == m.length) = true := by simp [hlen]
    have hm : m.length ≤ 9223372036854775806 := by omega
    have HL := hid hlen
    obtain ⟨n, hn⟩ : ∃ n, n = l.length := ⟨_, rfl⟩
    have hmn : m.length = n := by omega
    have HN := hid hn
    have HMN := hid hmn
    rw [hmn, ← hn]
    rw [← hn] at hl
    clear hm hlen q0 hn hmn
    go_enter Tryd.func11, Tryd.ntmps11
    go_wp2_with fail
    go_loopg [13] n (fun g s13 wr => ∃ i : Nat, i ≤ n ∧ g = n - i ∧ s13 = .int .i64 i ∧ Hid (l.take i = m.take i) ∧ Hid (Below w.heap.size w wr))
    case atStart => exact ⟨0, by omega, by omega, rfl, rfl, Below.refl _ _⟩
    case round =>
      obtain ⟨i, hi, rfl, rfl, HT, HB⟩ := hrel
      by_cases hlt : i < n
      · have hil : i < l.length := by have := HN.out; omega
        have him : i < m.length := by have := HMN.out; omega
        obtain ⟨ba, offa, rfl, c0⟩ := HA.out i hil
        obtain ⟨bb, offb, rfl, d0⟩ := HK.out i him
        have c0' := cell_later HB.out c0
        have d0' := cell_later HB.out d0
        have HTL : Hid (l.take (i + 1) = l.take i ++ [nthT l i]) := by show _ = _; rw [List.take_add_one, nthT, List.getElem?_eq_getElem hil]; rfl
        have HTM : Hid (m.take (i + 1) = m.take i ++ [nthT m i]) := by show _ = _; rw [List.take_add_one, nthT, List.getElem?_eq_getElem him]; rfl
        have HNE : Hid (nthT l i ≠ nthT m i → l ≠ m) := fun hne e => hne (by rw [e])
        obtain ⟨x, hx⟩ : ∃ x, x = nthT l i := ⟨_, rfl⟩
        obtain ⟨y, hy⟩ : ∃ y, y = nthT m i := ⟨_, rfl⟩
        rw [← hx] at c0' HTL HNE
        rw [← hy] at d0' HTM HNE
        clear hx hy c0 d0 hil him
        by_cases hxy : x = y
        · have q1 := toList_beq' (decide_eq_true hxy)
          have HT2 : Hid (l.take (i + 1) = m.take (i + 1)) := by show _ = _; rw [HTL.out, HTM.out, HT.out, hxy]
          clear hxy
          go_wp2_with fail
          go_quiet (fail)
          go_wp2_with fail
          go_roundg (n - (i + 1))
          case measure => omega
          case rel => exact ⟨i + 1, by omega, rfl, by go_num, HT2, Below.drewN HB.out _⟩
        · have q1 := toList_beq' (decide_eq_false hxy)
          have HF : Hid (u = false) := by show _ = _; rw [← HU.out]; exact decide_eq_false (HNE.out hxy)
          clear hxy
          go_wp2_with fail
          go_quiet (fail)
          go_wp2_with fail
          go_ret
          exact ⟨retB' HF.out.symm, Below.drewN HB.out _⟩
      · obtain rfl : i = n := by omega
        have HF : Hid (u = true) := by
          show _ = _
          have h1 := HT.out
          rw [HN.out, List.take_of_length_le (Nat.le_refl _)] at h1
          have h2 : l.length = m.length := HL.out
          rw [h2, List.take_of_length_le (Nat.le_refl _)] at h1
          rw [← HU.out]; exact decide_eq_true h1
        go_wp2_with fail
        go_ret
        exact ⟨retB' HF.out.symm, HB.out⟩
  · have q0 : (l.length == m.length) = false := by simp [hlen]
    have HF : Hid (u = false) := by show _ = _; rw [← HU.out]; exact decide_eq_false (fun e => hlen (by rw [e]))
    clear hlen
    go_enter Tryd.func11, Tryd.ntmps11
    go_wp2_with fail
    go_ret
    exact ⟨retB' HF.out.symm, Below.refl _ _⟩

end Go.Proofs.YtdllhkjdckcgmaaDoor
