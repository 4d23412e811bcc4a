import Derived.Test.YtpnbgdbkiokooaaDoorFrTake
import Derived.Test.YtpnbgdbkiokooaaDoorFlRot
/- The document's flight: Drop, Copy, Drain. -/
namespace Go.Proofs.YtpnbgdbkiokooaaDoor.Fl
open Go.RowKit Go.Sort Go.Proofs.YtpnbgdbkiokooaaDoor
set_option linter.unusedVariables false

theorem rdrop_in {w : World} {B p : Nat} {v : Value} {xs : List ByteArray} (h : Rf w B p v xs) (i : Nat) (hi : i < xs.length) (hl : xs.length * 64 ≤ 140737488355328 - 64) (hB : B ≤ w.heap.size) :
    Calls Tryd.prog 26 #[pt p, .int .i64 (i : Int)] w fun e w' => e = .returned (.int .i64 0) ∧ Hid (∃ v', Mw w w' B p v v' (xs.eraseIdx i)) := by
  have HT := hid (rtake_in h i hi hl hB)
  generalize nthT xs i = t at HT
  clear h hi hl hB
  go_enter Tryd.func26, Tryd.ntmps26
  go_wp2_with fail
  refine HT.out.mono ?_
  rintro e w1 ⟨rfl, hM⟩
  go_wp2_with fail
  go_ret
  exact ⟨rfl, hM⟩
theorem rdrop_out {w : World} {B p : Nat} {v : Value} {xs : List ByteArray} (h : Rf w B p v xs) (i : Int) (hi : i < 0 ∨ (xs.length : Int) ≤ i) :
    Calls Tryd.prog 26 #[pt p, .int .i64 i] w fun e w' => e = .returned (.int .i64 150) ∧ w' = w := by
  have HT := hid (rtake_out h i hi)
  clear h hi
  go_enter Tryd.func26, Tryd.ntmps26
  go_wp2_with fail
  refine HT.out.mono ?_
  rintro e w1 ⟨rfl, rfl⟩
  go_wp2_with fail
  go_ret
  exact ⟨rfl, rfl⟩
theorem rcopy_in {w : World} {B p : Nat} {v : Value} {xs : List ByteArray} (h : Rf w B p v xs) (i : Nat) (hi : i < xs.length) (hl : (xs.length + 1) * 64 ≤ 140737488355328) (hB : B ≤ w.heap.size) :
    Calls Tryd.prog 28 #[pt p, .int .i64 (i : Int)] w fun e w' => e = .returned (.int .i64 0) ∧ Hid (∃ v', Mw w w' B p v v' (xs ++ [nthT xs i])) := by
  have HL := hid (rlook_in h i hi)
  have HF := hid h
  generalize nthT xs i = t at HL ⊢
  obtain ⟨w1, hw1⟩ : ∃ w1, w1 = w.alloc (.cells #[.string t] 9) := ⟨_, rfl⟩
  have hb1 : Below w.heap.size w w1 := by rw [hw1]; exact Below.al (Below.refl _ _) _
  have HS := hid (rsend_is (u := .slice (some ⟨w.heap.size, 0, none⟩) 1 1) (h.later hb1) (by rw [hw1]; exact rd_one w t) (fun _ g hg hk => by
    injection hg with hg
    have h1 := (h.its hk).2
    have hg : w.heap.size = g := hg
    omega) (Nat.le_trans hB hb1.size) (by simpa using hl))
  have HB1 := hid hb1
  have HW1 := hid hw1
  clear h hi hl hB hb1 hw1
  go_enter Tryd.func28, Tryd.ntmps28
  go_wp2_with fail
  refine HL.out.mono ?_
  rintro e w' ⟨rfl, rfl⟩
  go_wp2_with fail
  rw [← HW1.out]
  refine HS.out.mono ?_
  rintro e w2 ⟨rfl, hM⟩
  go_wp2_with fail
  go_ret
  obtain ⟨v', hM⟩ := hM
  exact ⟨rfl, v', (Mw.refl HF.out HB1.out).trans hM⟩
theorem rcopy_out {w : World} {B p : Nat} {v : Value} {xs : List ByteArray} (h : Rf w B p v xs) (i : Int) (hi : i < 0 ∨ (xs.length : Int) ≤ i) :
    Calls Tryd.prog 28 #[pt p, .int .i64 i] w fun e w' => e = .returned (.int .i64 150) ∧ w' = w := by
  have HL := hid (rlook_out h i hi)
  clear h hi
  go_enter Tryd.func28, Tryd.ntmps28
  go_wp2_with fail
  refine HL.out.mono ?_
  rintro e w' ⟨rfl, rfl⟩
  go_wp2_with fail
  go_ret
  exact ⟨rfl, rfl⟩

theorem rdrain_none {w : World} {B p : Nat} {v : Value} (h : Rf w B p v []) (t : Int) :
    Calls Tryd.prog 33 #[pt p, .int .i64 t] w fun e w' => e = .returned (.slice none 0 0) ∧ w' = w := by
  obtain ⟨a, c, rfl, _, _⟩ := h.row.slice
  have c0 : w.cell? ⟨p, 0, none⟩ = some (.slice a 0 c) := h.cell
  clear h
  go_enter Tryd.func33, Tryd.ntmps33
  go_wp2_with fail
  go_ret
  exact ⟨rfl, rfl⟩
set_option maxHeartbeats 8000000 in
theorem rdrain_some {w : World} {B p : Nat} {v : Value} {xs : List ByteArray} (h : Rf w B p v xs) (t : Int) (hp0 : 0 < xs.length) (hl : xs.length * 64 ≤ 140737488355328) (hB : B ≤ w.heap.size) :
    Calls Tryd.prog 33 #[pt p, .int .i64 t] w fun e w' => ∃ u, e = .returned u ∧ Hid (RowF w' w.heap.size u (rot xs t)) ∧ Hid (∃ v', Mw w w' B p v v' []) := by
  have HF := hid h
  have HL := hid hl
  have HBB := hid hB
  obtain ⟨a, c, hv, hc, hm⟩ := h.row.slice
  have c00 := h.cell
  obtain ⟨n, hn⟩ : ∃ n, n = xs.length := ⟨_, rfl⟩
  have HN := hid hn
  rw [← hn] at hv hc hp0
  rw [hv] at c00
  unfold maxLen at hm
  have hn41 : n ≤ 2199023255552 := by omega
  have HC : Hid (∀ wr, Below w.heap.size w wr → wr.cell? ⟨p, 0, none⟩ = some (.slice a n c)) := fun wr hb => by rw [← hv]; exact (h.later hb).cell
  have HV := hid hv
  have hl0 := h.loose 0
  obtain ⟨pl, hpl⟩ : ∃ pl, pl = plc t n := ⟨_, rfl⟩
  have HPL := hid hpl
  have hpln : pl < n := by rw [hpl]; exact plc_lt hp0
  have HRG : Hid (∀ i, i < n → nthT (rot xs t) i = nthT xs ((pl + i) % n)) := fun i hi => by
    have := rot_get (t := t) (show i < xs.length by omega)
    rw [← hn, ← hpl] at this
    exact this
  have HRL : Hid ((rot xs t).length = n) := by show _ = _; rw [rot_len, hn]
  obtain ⟨h1, h2, h3⟩ := plc_is t hp0
  have kw : IntKind.i64.wrap (t.tmod (n : Int)) = t.tmod (n : Int) := by rw [IntKind.wrap_i64]; omega
  have kz : ((n : Int) = 0) = False := eq_false (by omega)
  have kz2 : ¬ n = 0 := by omega
  have hneg1 := at_neg (t := t) hp0
  have hpos1 := at_pos (t := t) hp0
  rw [← hpl] at hneg1 hpos1
  have HN1 := hid hneg1
  have HP1 := hid hpos1
  clear h hl hn hv hB hpl h1 hneg1 hpos1
  go_enter Tryd.func33, Tryd.ntmps33
  go_upto_if 20 with fail
  go_cut [6] (fun s6 wx => s6 = .int .i64 (pl : Int) ∧ wx = w)
  case first =>
    by_cases hlt : t.tmod (n : Int) < 0
    · have e1 := HN1.out hlt
      have kw2 : IntKind.i64.wrap (t.tmod (n : Int) + (n : Int)) = (pl : Int) := by rw [e1, IntKind.wrap_i64]; omega
      clear e1
      go_wp2_with fail
      go_meet
      exact ⟨rfl, rfl⟩
    · have e1 := HP1.out (by omega)
      rw [e1] at kw hlt
      go_wp2_with fail
      go_meet
      first | exact ⟨rfl, rfl⟩ | exact ⟨by rw [e1], rfl⟩
  case rest =>
    obtain ⟨rfl, rfl⟩ := hcut
    clear kw h2 h3 c00
    go_wp2_with fail
    go_loopg [7, 8] n (fun g s7 s8 wr => ∃ i : Nat, i ≤ n ∧ g = n - i ∧ s8 = .int .i64 i ∧ Hid (RowF wr wc.heap.size s7 ((rot xs t).take i)) ∧ Hid (Below wc.heap.size wc wr))
    case atStart => exact ⟨0, by omega, by omega, rfl, by rw [List.take_zero]; exact RowF.nil _ _, Below.refl _ _⟩
    case round =>
      obtain ⟨i, hi, rfl, rfl, HR, HB⟩ := hrel
      have c0 := HC.out wr HB.out
      by_cases hlt : i < n
      · have hlt' : i < (rot xs t).length := by rw [HRL.out]; exact hlt
        have hmod : (pl + i) % n < n := Nat.mod_lt _ (by omega)
        obtain ⟨g, off, c2, e, -, -, y0⟩ := HF.out.at HB.out (i := (pl + i) % n) (by rw [← HN.out]; exact hmod)
        rw [HV.out] at e
        injection e with e1 e2 e3
        subst e1
        have hba : Below wr.heap.size wr (wr.alloc (.cells #[.string (nthT (rot xs t) i)] 9)) := Below.al (Below.refl _ _) _
        obtain ⟨a1, n1, c1, w1, hr, hrow, hb1⟩ := HR.out.one HB.out (nthT (rot xs t) i) (wx := (wr.alloc (.cells #[.string (nthT (rot xs t) i)] 9)).drew) (q := wr.heap.size) (Below.drew hba) (World.alloc_heap_new _ _) (by rw [List.length_take]; have := HL.out; have := HN.out; omega)
        have e4 : (rot xs t).take i ++ [nthT (rot xs t) i] = (rot xs t).take (i + 1) := by rw [List.take_add_one, nthT_get hlt']; rfl
        rw [e4] at hrow
        obtain ⟨a3, c3, hv3, _, _⟩ := HR.out.slice
        generalize ((rot xs t).take i).length = q3 at hv3
        subst hv3
        rw [← HRG.out i hlt] at y0
        have ya := cell_later hba y0
        have ca := cell_later hba c0
        generalize nthT (rot xs t) i = tx at y0 ya ca hr
        have HRR := hid hr
        have k3 : IntKind.i64.wrap ((pl : Int) + (i : Int)) = ((pl + i : Nat) : Int) := by rw [IntKind.wrap_i64]; omega
        have k4 : (((pl + i : Nat) : Int)).tmod (n : Int) = (((pl + i) % n : Nat) : Int) := by
          rw [Int.tmod_eq_emod_of_nonneg (by omega)]; omega
        have k5 : IntKind.i64.wrap (((pl + i) % n : Nat) : Int) = (((pl + i) % n : Nat) : Int) := by
          rw [IntKind.wrap_i64]; omega
        generalize (pl + i) % n = md at y0 ya k4 k5 hmod
        generalize pl + i = sm at k3 k4
        have k12 : ((n : Int) == 0) = false := by simpa using kz2
        have hM : (md : Int) < (n : Int) := by omega
        clear e2 e3 e4 hr HR hba
        go_wp2_with fail
        go_region_law (refine step_append_runF rfl (.tmp 29) (.tmp 41) 22 22 rfl (.slice a3 q3 c3) (.slice (some ⟨wr.heap.size, 0, none⟩) 1 1) (by simp [Act.eval]) (by simp [Act.eval]) HRR.out ?_)
        all_goals (try go_wp2_with fail)
        all_goals go_roundg (n - (i + 1))
        all_goals first | omega | exact ⟨i + 1, by omega, rfl, by go_num, hrow.out, hb1.out⟩
      · obtain rfl : n = i := by omega
        have e : (rot xs t).take n = rot xs t := by rw [← HRL.out]; exact List.take_of_length_le (Nat.le_refl _)
        rw [e] at HR
        have HM := hid (HF.out.put' HB.out (RowF.nil _ _) HBB.out)
        have HRS := hid (HR.out.setc (u := .slice none 0 0) HF.out.lt)
        obtain ⟨a3, c3, hv3, _, _⟩ := HR.out.slice
        generalize (rot xs t).length = q3 at hv3
        subst hv3
        have f0 : wr.frozen? ⟨p, 0, none⟩ = false := (HB.out.frozen (p := ⟨p, 0, none⟩) HF.out.lt).trans hl0
        clear hlt hi e
        go_wp2_with fail
        go_ret
        exact ⟨_, rfl, HRS.out, _, HM.out⟩
theorem rdrain_is {w : World} {B p : Nat} {v : Value} {xs : List ByteArray} (h : Rf w B p v xs) (t : Int) (hl : xs.length * 64 ≤ 140737488355328) (hB : B ≤ w.heap.size) :
    Calls Tryd.prog 33 #[pt p, .int .i64 t] w fun e w' => ∃ u, e = .returned u ∧ Hid (RowF w' w.heap.size u (rot xs t)) ∧ Hid (∃ v', Mw w w' B p v v' []) := by
  by_cases h0 : 0 < xs.length
  · exact rdrain_some h t h0 hl hB
  · have e : xs = [] := List.eq_nil_of_length_eq_zero (by omega)
    subst e
    refine (rdrain_none h t).mono ?_
    rintro e w' ⟨rfl, rfl⟩
    exact ⟨_, rfl, by rw [rot, List.drop_nil, List.take_nil, List.append_nil]; exact RowF.nil _ _, v, Mw.refl h (Below.refl _ _)⟩
end Go.Proofs.YtpnbgdbkiokooaaDoor.Fl
