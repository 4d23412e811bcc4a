import Derived.Test.YtpnbgdbkiokooaaDoorFrSend
/- The document's flight: Take, Drop, Copy, Drain. -/
namespace Go.Proofs.YtpnbgdbkiokooaaDoor.Fl
open Go.RowKit Go.Sort Go.Proofs.YtpnbgdbkiokooaaDoor
set_option linter.unusedVariables false

theorem Rf.put' {w w' : World} {B p : Nat} {v v' : Value} {xs ys : List ByteArray} (h : Rf w B p v xs) (hb : Below w.heap.size w w') (hr : RowF w' w.heap.size v' ys) (hB : B ≤ w.heap.size) : Mw w (w'.setCell ⟨p, 0, none⟩ v') B p v v' ys :=
  h.put ⟨hb.os, hb.tape, hb.output, hb.size, fun k hk _ => hb.block k hk⟩ (hr.base hB) (fun k e => .inr (hr.lt k e).1)
/-- what is left without the place j, as far as i -/
def wo (xs : List ByteArray) (j i : Nat) : List ByteArray := (xs.take i).eraseIdx j
theorem wo_skip {xs : List ByteArray} {j : Nat} (h : j < xs.length) : wo xs j (j + 1) = wo xs j j := by
  have hl : (xs.take j).length = j := by rw [List.length_take]; omega
  have e1 : wo xs j j = xs.take j := List.eraseIdx_of_length_le (by omega)
  have e2 : xs.take (j + 1) = xs.take j ++ [nthT xs j] := by rw [List.take_add_one, nthT_get h]; rfl
  rw [e1]
  unfold wo
  rw [e2, eraseIdx_td, List.take_append_of_le_length (by omega), List.take_of_length_le (by omega), List.drop_eq_nil_of_le (by simp; omega), List.append_nil]
theorem wo_next {xs : List ByteArray} {j i : Nat} (h : i < xs.length) (hne : i ≠ j) : wo xs j (i + 1) = wo xs j i ++ [nthT xs i] := by
  unfold wo
  have e : xs.take (i + 1) = xs.take i ++ [nthT xs i] := by rw [List.take_add_one, nthT_get h]; rfl
  have hl : (xs.take i).length = i := by rw [List.length_take]; omega
  rw [e]
  by_cases hlt : j < i
  · rw [List.eraseIdx_append_of_lt_length (by omega)]
  · rw [List.eraseIdx_of_length_le (by simp; omega), List.eraseIdx_of_length_le (by omega)]
theorem wo_len (xs : List ByteArray) (j i : Nat) : (wo xs j i).length ≤ xs.length := by
  unfold wo
  have h1 := List.length_eraseIdx_le (xs.take i) j
  have h2 : (xs.take i).length ≤ xs.length := by rw [List.length_take]; omega
  omega
set_option maxHeartbeats 4000000 in
theorem rtake_in {w : World} {B p : Nat} {v : Value} {xs : List ByteArray} (h : Rf w B p v xs) (j : Nat) (hj : j < xs.length) (hl : xs.length * 64 ≤ 140737488355328 - 64) (hB : B ≤ w.heap.size) :
    Calls Tryd.prog 24 #[pt p, .int .i64 (j : Int)] w fun e w' => e = .returned (lookV (nthT xs j) 0) ∧ Hid (∃ v', Mw w w' B p v v' (xs.eraseIdx j)) := by
  have HF := hid h
  have HL := hid hl
  have HBB := hid hB
  obtain ⟨a, c, hv, hc, hm⟩ := h.row.slice
  have c00 := h.cell
  obtain ⟨n, hn⟩ : ∃ n, n = xs.length := ⟨_, rfl⟩
  have HN := hid hn
  rw [← hn] at hv hc
  rw [hv] at c00
  have HRI := hid (rright_in c00 j (by rw [hn]; exact hj))
  unfold maxLen at hm
  have hn63 : n ≤ 9223372036854775807 := by omega
  have hjn : j < n := by rw [hn]; exact hj
  have HC : Hid (∀ wr, Below w.heap.size w wr → wr.cell? ⟨p, 0, none⟩ = some (.slice a n c)) := fun wr hb => by rw [← hv]; exact (h.later hb).cell
  have HV := hid hv
  obtain ⟨g, off, c2, e, -, -, y0⟩ := h.at (Below.refl _ _) hj
  rw [hv] at e
  injection e with e1 e2 e3
  subst e1
  obtain ⟨tj, htj⟩ : ∃ tj, tj = nthT xs j := ⟨_, rfl⟩
  rw [← htj] at y0 ⊢
  have hl0 := h.loose 0
  clear h hl hn hv hj hB e2 e3 htj
  go_enter Tryd.func24, Tryd.ntmps24
  go_wp2_with fail
  refine HRI.out.mono ?_
  rintro e w' ⟨rfl, rfl⟩
  go_wp2_with fail
  go_loopg [7, 8] n (fun g s7 s8 wr => ∃ i : Nat, i ≤ n ∧ g = n - i ∧ s8 = .int .i64 i ∧ Hid (RowF wr w'.heap.size s7 (wo xs j i)) ∧ Hid (Below w'.heap.size w' wr))
  case atStart => exact ⟨0, by omega, by omega, rfl, by rw [wo, List.take_zero, List.eraseIdx_nil]; exact RowF.nil _ _, Below.refl _ _⟩
  case round =>
    obtain ⟨i, hi, rfl, rfl, HR, HB⟩ := hrel
    clear y0 c00
    have c0 := HC.out wr HB.out
    by_cases hlt : i < n
    · have hlt' : i < xs.length := by rw [← HN.out]; exact hlt
      by_cases hij : i = j
      · have e9 : wo xs j i = wo xs j (i + 1) := by
          have := wo_skip hlt'
          rw [← hij]; exact this.symm
        rw [e9] at HR
        obtain ⟨a3, c3, hv3, _, _⟩ := HR.out.slice
        generalize (wo xs j (i + 1)).length = q3 at hv3
        subst hv3
        clear e9
        have q1 : ((i : Int) == (j : Int)) = true := by simp [hij]
        go_wp2_with fail
        go_roundg (n - (i + 1))
        case measure => omega
        case rel => exact ⟨i + 1, by omega, rfl, by go_num, HR.out, HB.out⟩
      · obtain ⟨g2, off2, c2, e, -, -, y0⟩ := HF.out.at HB.out hlt'
        rw [HV.out] at e
        injection e with e1 e2 e3
        injection e1 with e1
        injection e1 with e4 e5
        subst e4
        subst e5
        obtain ⟨a1, n1, c1, w1, hr, hrow, hb1⟩ := HR.out.one HB.out (nthT xs i) (wx := wr.alloc (.cells #[.string (nthT xs i)] 9)) (q := wr.heap.size) (Below.al (Below.refl _ _) _) (World.alloc_heap_new _ _) (by have := wo_len xs j i; have := HL.out; omega)
        rw [← wo_next hlt' hij] at hrow
        obtain ⟨a3, c3, hv3, _, _⟩ := HR.out.slice
        generalize (wo xs j i).length = q3 at hv3
        subst hv3
        generalize nthT xs i = t at y0 hr
        have HRR := hid hr
        have q1 : ((i : Int) == (j : Int)) = false := by simp; omega
        clear e2 e3 hr HR
        go_wp2_with (at_builtin; refine Lib.wpList_append_run _ rfl _ _ _ _ rfl _ _ rfl rfl _ _ HRR.out ?_)
        go_roundg (n - (i + 1))
        case measure => omega
        case rel => exact ⟨i + 1, by omega, rfl, by go_num, hrow.out, hb1.out⟩
    · obtain rfl : n = i := by omega
      have e : wo xs j n = xs.eraseIdx j := by rw [wo, HN.out, List.take_of_length_le (Nat.le_refl _)]
      rw [e] at HR
      have HM := hid (HF.out.put' HB.out HR.out HBB.out)
      obtain ⟨a3, c3, hv3, _, _⟩ := HR.out.slice
      generalize (xs.eraseIdx j).length = q3 at hv3
      subst hv3
      have f0 : wr.frozen? ⟨p, 0, none⟩ = false := (HB.out.frozen (p := ⟨p, 0, none⟩) HF.out.lt).trans hl0
      clear hlt hi e
      go_wp2_with fail
      refine bodyPost_ret (v := lookV tj 0) (by simp [results, Tryd.results24, go_sem]) rfl ?_
      exact ⟨rfl, _, HM.out⟩
theorem rtake_out {w : World} {B p : Nat} {v : Value} {xs : List ByteArray} (h : Rf w B p v xs) (i : Int) (hi : i < 0 ∨ (xs.length : Int) ≤ i) :
    Calls Tryd.prog 24 #[pt p, .int .i64 i] w fun e w' => e = .returned (lookV mt 150) ∧ w' = w := by
  obtain ⟨a, c, rfl, hc, hm⟩ := h.row.slice
  have c0 := h.cell
  generalize xs.length = n at c0 hi
  clear h hc hm
  go_enter Tryd.func24, Tryd.ntmps24
  go_wp2_with fail
  refine (rright_out c0 i hi).mono ?_
  rintro e w' ⟨rfl, rfl⟩
  go_wp2_with fail
  refine bodyPost_ret (v := lookV mt 150) (by simp [results, Tryd.results24, go_sem]) rfl ?_
  exact ⟨rfl, rfl⟩
end Go.Proofs.YtpnbgdbkiokooaaDoor.Fl
