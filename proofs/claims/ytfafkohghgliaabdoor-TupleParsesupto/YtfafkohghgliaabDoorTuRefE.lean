import Derived.Test.YtfafkohghgliaabDoorTuRefV
/- The document's codes. -/
namespace Go.Proofs.YtfafkohghgliaabDoor.Tu
open Go.RowKit Go.Sort Go.Proofs.YtfafkohghgliaabDoor
set_option linter.unusedVariables false
set_option linter.unusedSectionVars false
variable [DecidableEq Vl]
set_option maxRecDepth 100000

theorem ret_s {a b : ByteArray} (h : a = b) : Ending.returned (.string a) = Ending.returned (.string b) := by rw [h]
theorem far_is {n : Int} (h : In64 n) (w : World) : Calls Tryd.prog 56 #[.int .i64 n] w fun e w' => e = .returned (.int .u64 (n.natAbs : Int)) ∧ w' = w := by
  obtain ⟨h1, h2⟩ := h
  by_cases h0 : 0 ≤ n
  · have e : (n.natAbs : Int) = n := by omega
    rw [e]
    go_enter Tryd.func56, Tryd.ntmps56
    go_wp2_with fail
    go_ret
    exact ⟨rfl, rfl⟩
  · have h0' : ¬ n ≥ 0 := h0
    go_enter Tryd.func56, Tryd.ntmps56
    go_wp2_with fail
    go_ret
    exact ⟨by first | go_num | rfl | skip, rfl⟩
theorem one_nat (d : Nat) (l : List Nat) : strOfNums [(d : Int)] ++ ofNats l = ofNats (d :: l) := by
  have := strOfNums_nats [d]
  rw [show ([d].map Int.ofNat) = [(d : Int)] from rfl] at this
  rw [this, ofNats_append]; rfl
/-- a byte made into a text -/
theorem conv1 (w : World) (d : Int) : (convert 50 9 (.slice (some ⟨w.heap.size, 0, none⟩) 1 1)).run Tryd.prog (w.alloc (.cells #[.int .u8 d] 5)) = .ok (.string (strOfNums [d])) (w.alloc (.cells #[.int .u8 d] 5)) :=
  run_convert_bytes_arg (P := Tryd.prog) (w.alloc (.cells #[.int .u8 d] 5)) 50 5 Tryd.underlying50 Tryd.underlying5 w.heap.size 0 1 1 [d] rfl (fun i hi => by
        obtain rfl : i = 0 := by omega
        simp [go_sem]) 9 Tryd.underlying9
set_option maxHeartbeats 2000000 in
theorem integer_pos {n : Int} (h : In64 n) (h0 : 0 ≤ n) (w : World) : Calls Tryd.prog 72 #[.int .i64 n] w fun e w' => e = .returned (.string (ofNats (intC n))) ∧ Below w.heap.size w w' := by
  have h0' : ¬ n < 0 := by omega
  have hl := (int_len h).1
  have hF := fun w => hid (far_is h w)
  obtain ⟨f, hf⟩ : ∃ f : Nat, f = n.natAbs := ⟨_, rfl⟩
  have hfn : Hid (n.toNat = f) := by show _ = _; omega
  have hf64 : (f : Int) ≤ 18446744073709551615 := by obtain ⟨h1, h2⟩ := h; omega
  rw [← hf] at hF
  rw [hfn.out] at hl
  have HE : Hid (intC n = (24 + (mb f).length) :: mb f) := by show _ = _; unfold intC; rw [if_pos h0, hfn.out]
  clear hf
  go_enter Tryd.func72, Tryd.ntmps72
  go_wp2_with (go_at_call 56; refine (hF _).out.mono ?_; rintro e w1 ⟨rfl, hw⟩; replace hw := hw.symm; subst hw)
  go_loopg [3, 4, 5] f (fun g s3 s4 s5 wr => ∃ (m : Nat) (l : List Nat), g = m ∧ (m : Int) ≤ 18446744073709551615 ∧ s3 = .int .u64 m ∧ s4 = .string (ofNats l) ∧ Hid (mb f = mb m ++ l ∧ l.length ≤ 8) ∧ Hid (Below w.heap.size w wr))
  case atStart => exact ⟨f, [], rfl, hf64, rfl, rfl, hid ⟨by simp, by simp⟩, Below.refl _ _⟩
  case round =>
    obtain ⟨m, l, rfl, hm64, rfl, rfl, HP, HB⟩ := hrel
    obtain ⟨s, hs⟩ : ∃ s, s = ofNats l := ⟨_, rfl⟩
    have hsz : s.size ≤ 8 := by rw [hs, ofNats_size]; exact HP.out.2
    by_cases hlt : 0 < gk
    · have hcv := conv1 wr ((gk : Int) % 256)
      have hroom : ¬ 9223372036854775807 < 1 + s.size := by omega
      have HS : Hid (strOfNums [(gk : Int) % 256] ++ s = ofNats (gk % 256 :: l)) := by
        show _ = _
        rw [hs, show ((gk : Int) % 256) = ((gk % 256 : Nat) : Int) by omega]
        exact one_nat _ _
      have HN : Hid (mb f = mb (gk / 256) ++ (gk % 256 :: l) ∧ (gk % 256 :: l).length ≤ 8) := by
        have e := HP.out.1
        rw [mb_pos (show gk ≠ 0 by omega), List.append_assoc] at e
        refine ⟨e, ?_⟩
        have e2 := congrArg List.length e
        rw [List.length_append] at e2
        have e3 : ([gk % 256] ++ l).length = (gk % 256 :: l).length := rfl
        omega
      rw [← hs]
      clear hs
      go_wp2_with fail
      go_roundg (gk / 256)
      case measure => omega
      case rel => exact ⟨gk / 256, gk % 256 :: l, rfl, by omega, by go_num, by rw [HS.out], HN, Below.al HB.out _⟩
    · obtain rfl : gk = 0 := by omega
      have HL : Hid (mb f = l) := by have := HP.out.1; rw [mb_zero] at this; exact this
      have HSZ : Hid (s.size = (mb f).length) := by show _ = _; rw [hs, ofNats_size, HL.out]
      have hcv := conv1 wr (24 + ((mb f).length : Int))
      have hroom : ¬ 9223372036854775807 < 1 + s.size := by omega
      have HS : Hid (strOfNums [24 + ((mb f).length : Int)] ++ s = ofNats (intC n)) := by
        show _ = _
        rw [HE.out, hs, HL.out, show (24 + (l.length : Int)) = ((24 + l.length : Nat) : Int) by rw [← HL.out]; omega]
        exact one_nat _ _
      have hz : (s.size : Int) = ((mb f).length : Int) := by rw [HSZ.out]
      rw [← hs]
      clear hs
      go_wp2_with fail
      go_ret
      exact ⟨ret_s HS.out, Below.al HB.out _⟩
set_option maxHeartbeats 2000000 in
theorem integer_neg {n : Int} (h : In64 n) (h0 : n < 0) (w : World) : Calls Tryd.prog 72 #[.int .i64 n] w fun e w' => e = .returned (.string (ofNats (intC n))) ∧ Below w.heap.size w w' := by
  have h0' : ¬ 0 ≤ n := by omega
  have hl := (int_len h).2
  have hF := fun w => hid (far_is h w)
  obtain ⟨f, hf⟩ : ∃ f : Nat, f = n.natAbs := ⟨_, rfl⟩
  have hfn : Hid ((-n).toNat = f) := by show _ = _; omega
  have hf64 : (f : Int) ≤ 18446744073709551615 := by obtain ⟨h1, h2⟩ := h; omega
  rw [← hf] at hF
  rw [hfn.out] at hl
  have HE : Hid (intC n = (24 - (mb f).length) :: cps (mb f)) := by show _ = _; unfold intC; rw [if_neg h0', hfn.out]
  clear hf
  go_enter Tryd.func72, Tryd.ntmps72
  go_wp2_with (go_at_call 56; refine (hF _).out.mono ?_; rintro e w1 ⟨rfl, hw⟩; replace hw := hw.symm; subst hw)
  go_loopg [3, 4, 5] f (fun g s3 s4 s5 wr => ∃ (m : Nat) (l : List Nat), g = m ∧ (m : Int) ≤ 18446744073709551615 ∧ s3 = .int .u64 m ∧ s4 = .string (ofNats (cps l)) ∧ Hid (mb f = mb m ++ l ∧ l.length ≤ 8) ∧ Hid (Below w.heap.size w wr))
  case atStart => exact ⟨f, [], rfl, hf64, rfl, rfl, hid ⟨by simp, by simp⟩, Below.refl _ _⟩
  case round =>
    obtain ⟨m, l, rfl, hm64, rfl, rfl, HP, HB⟩ := hrel
    obtain ⟨s, hs⟩ : ∃ s, s = ofNats (cps l) := ⟨_, rfl⟩
    have hsz : s.size ≤ 8 := by rw [hs, ofNats_size]; rw [cps_len]; exact HP.out.2
    by_cases hlt : 0 < gk
    · have hcv := conv1 wr (255 - (gk : Int) % 256)
      have hroom : ¬ 9223372036854775807 < 1 + s.size := by omega
      have HS : Hid (strOfNums [255 - (gk : Int) % 256] ++ s = ofNats (cps (gk % 256 :: l))) := by
        show _ = _
        rw [hs, show (255 - (gk : Int) % 256) = ((cpl (gk % 256) : Nat) : Int) by unfold cpl; omega]
        exact one_nat _ _
      have HN : Hid (mb f = mb (gk / 256) ++ (gk % 256 :: l) ∧ (gk % 256 :: l).length ≤ 8) := by
        have e := HP.out.1
        rw [mb_pos (show gk ≠ 0 by omega), List.append_assoc] at e
        refine ⟨e, ?_⟩
        have e2 := congrArg List.length e
        rw [List.length_append] at e2
        have e3 : ([gk % 256] ++ l).length = (gk % 256 :: l).length := rfl
        omega
      rw [← hs]
      clear hs
      go_wp2_with fail
      go_roundg (gk / 256)
      case measure => omega
      case rel => exact ⟨gk / 256, gk % 256 :: l, rfl, by omega, by go_num, by rw [HS.out], HN, Below.al HB.out _⟩
    · obtain rfl : gk = 0 := by omega
      have HL : Hid (mb f = l) := by have := HP.out.1; rw [mb_zero] at this; exact this
      have HSZ : Hid (s.size = (mb f).length) := by show _ = _; rw [hs, ofNats_size, HL.out, cps_len]
      have hcv := conv1 wr (24 - ((mb f).length : Int))
      have hroom : ¬ 9223372036854775807 < 1 + s.size := by omega
      have HS : Hid (strOfNums [24 - ((mb f).length : Int)] ++ s = ofNats (intC n)) := by
        show _ = _
        rw [HE.out, hs, HL.out, show (24 - (l.length : Int)) = ((24 - l.length : Nat) : Int) by rw [← HL.out]; omega]
        exact one_nat _ _
      have hz : (s.size : Int) = ((mb f).length : Int) := by rw [HSZ.out]
      rw [← hs]
      clear hs
      go_wp2_with fail
      go_ret
      exact ⟨ret_s HS.out, Below.al HB.out _⟩
theorem integer_is {n : Int} (h : In64 n) (w : World) : Calls Tryd.prog 72 #[.int .i64 n] w fun e w' => e = .returned (.string (ofNats (intC n))) ∧ Below w.heap.size w w' := by
  by_cases h0 : 0 ≤ n
  · exact integer_pos h h0 w
  · exact integer_neg h (by omega) w
theorem nats_get {l : List Nat} (h : B8 l) (i : Nat) (hi : i < (ofNats l).size) : ((ofNats l)[i]'hi).toNat = l.getD i 0 := by
  have hl : i < l.length := by rwa [ofNats_size] at hi
  have e1 : (ofNats l)[i]'hi = UInt8.ofNat (l[i]'hl) := by
    show (ofNats l).data[i] = _
    simp [ofNats]
  rw [e1]
  simp [List.getD, hl]
  have := h _ (List.getElem_mem hl)
  omega
theorem index_at {t : List Nat} {k c : Nat} (ht : B8 t) (hc : t[k]? = some c) (w : World) : (Instr.index 9 (.string (ofNats t)) (.int .i64 (k : Int))).run Tryd.prog w = .ok (.int .u8 (c : Int)) w := by
  have hk : k < t.length := (List.getElem?_eq_some_iff.1 hc).1
  have hd : t.getD k 0 = c := by simp [List.getD, hc]
  rw [run_index_string w 9 (ofNats t) .i64 k Tryd.underlying9, dif_pos (by rw [ofNats_size]; omega)]
  have := nats_get ht k (by rw [ofNats_size]; exact hk)
  rw [hd] at this
  simp [this]
theorem sub1 {l : List Nat} {k c : Nat} (h8 : B8 l) (hc : l[k]? = some c) : (ofNats l).extract k (k + 1) = ofNats [c] := by
  rw [ofNats_extract h8]
  have hk : k < l.length := (List.getElem?_eq_some_iff.1 hc).1
  rw [List.getElem?_eq_getElem hk] at hc
  injection hc with hc
  rw [List.take_succ_eq_append_getElem hk, hc, List.drop_left' (by rw [List.length_take]; omega)]
theorem esc_take {l : List Nat} {k c : Nat} (hc : l[k]? = some c) : esc (l.take (k + 1)) = esc (l.take k) ++ (if c = 0 then [0, 255] else [c]) := by
  have hk : k < l.length := by
    rcases Nat.lt_or_ge k l.length with h | h
    · exact h
    · rw [List.getElem?_eq_none h] at hc; cases hc
  rw [List.take_succ_eq_append_getElem hk]
  rw [List.getElem?_eq_getElem hk] at hc
  injection hc with hc
  simp [esc, hc]
set_option maxHeartbeats 2000000 in
theorem reftext_is {l : List Nat} (h8 : B8 l) (hl : 2 * l.length + 10 ≤ 9223372036854775807) (w : World) : Calls Tryd.prog 73 #[.string (ofNats l)] w fun e w' => e = .returned (.string (ofNats (48 :: (esc l ++ [0])))) ∧ w' = w := by
  have hsz : (ofNats l).size = l.length := ofNats_size l
  have H8 := hid h8
  clear h8
  go_enter Tryd.func73, Tryd.ntmps73
  go_wp2_with fail
  go_loop [3, 4] (fun s3 s4 => ∃ k : Nat, k ≤ l.length ∧ s4 = .int .i64 k ∧ s3 = .string (ofNats (48 :: esc (l.take k)))) (fun _ s4 => l.length - (intOf s4).toNat)
  case atStart => exact ⟨0, by omega, rfl, rfl⟩
  case round =>
    obtain ⟨k, hk, rfl, rfl⟩ := hrel
    obtain ⟨s, hs⟩ : ∃ s, s = ofNats (48 :: esc (l.take k)) := ⟨_, rfl⟩
    have hss : s.size ≤ 2 * k + 1 := by rw [hs, ofNats_size]; have := (esc_len (l.take k)).2; rw [List.length_take] at this; simp; omega
    by_cases hlt : k < l.length
    · have hc : l[k]? = some l[k] := List.getElem?_eq_getElem hlt
      obtain ⟨ch, hc'⟩ : ∃ ch, ch = l[k] := ⟨_, rfl⟩
      rw [← hc'] at hc
      have hix : ∀ w, (Instr.index 9 (.string (ofNats l)) (.int .i64 (k : Int))).run Tryd.prog w = .ok (.int .u8 (ch : Int)) w := fun w => index_at H8.out hc w
      obtain ⟨s1, hs1⟩ : ∃ s1, s1 = (ofNats l).extract k (k + 1) := ⟨_, rfl⟩
      have e1 : s1 = ofNats [ch] := by rw [hs1, sub1 H8.out hc]
      have hz1 : s1.size = 1 := by rw [e1, ofNats_size]; rfl
      have hE := esc_take hc
      have HS : Hid (s ++ s1 = ofNats (48 :: (esc (l.take k) ++ [ch]))) := by show _ = _; rw [hs, e1, ofNats_append]; rfl
      have HS2 : Hid (s ++ s1 ++ ⟨#[255]⟩ = ofNats (48 :: (esc (l.take k) ++ [ch, 255]))) := by
        show _ = _
        rw [hs, e1, show (⟨#[255]⟩ : ByteArray) = ofNats [255] from rfl, ofNats_append, ofNats_append]; simp
      have HE := hid hE
      rw [← hs]
      clear hs hc hc' e1 hE
      have hr1 : ¬ 9223372036854775807 < s.size + 1 := by omega
      have hr2 : ¬ 9223372036854775807 < s.size + 1 + 1 := by omega
      by_cases h0 : ch = 0
      · have d0 : ((ch : Int) == 0) = true := by simp; omega
        have HF : Hid (esc (l.take (k + 1)) = esc (l.take k) ++ [ch, 255]) := by show _ = _; rw [HE.out, if_pos h0, h0]
        clear h0
        go_wp2_with fail
        go_round
        case rel => exact ⟨k + 1, by omega, by go_num, by rw [← hs1, HS2.out, HF.out]⟩
        case measure => simp [intOf]; omega
      · have d0 : ((ch : Int) == 0) = false := by simp; omega
        have HF : Hid (esc (l.take (k + 1)) = esc (l.take k) ++ [ch]) := by show _ = _; rw [HE.out, if_neg h0]
        clear h0
        go_wp2_with fail
        go_round
        case rel => exact ⟨k + 1, by omega, by go_num, by rw [← hs1, HS.out, HF.out]⟩
        case measure => simp [intOf]; omega
    · obtain rfl : k = l.length := by omega
      have HS : Hid (s ++ ⟨#[0]⟩ = ofNats (48 :: (esc l ++ [0]))) := by
        show _ = _
        rw [hs, show (⟨#[0]⟩ : ByteArray) = ofNats [0] from rfl, ofNats_append, List.take_length]; rfl
      have hr1 : ¬ 9223372036854775807 < s.size + 1 := by omega
      rw [← hs]
      clear hs
      go_wp2_with fail
      go_ret
      exact ⟨ret_s HS.out, rfl⟩
end Go.Proofs.YtfafkohghgliaabDoor.Tu
