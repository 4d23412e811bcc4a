import Derived.Test.YtfafkohghgliaaaTuFT
import Derived.Test.YtfafkohghgliaaaTuFI
/- The program reads the first value. -/
namespace Go.Proofs.Ytfafkohghgliaaa.Tu
open Go.RowKit Go.Sort Go.Proofs.Ytfafkohghgliaaa
set_option linter.unusedVariables false
set_option linter.unusedSectionVars false
variable [DecidableEq Vl]
set_option linter.unusedSimpArgs false

theorem Fe.out {l : List Nat} {w w' : World} {e : Ending} (h : Fe l w e w') : (takeV l = .none ∧ e = .returned (.tuple #[vNull.val, .int .i64 0]) ∨ ∃ v r, takeV l = .some (v, r) ∧ e = .returned (.tuple #[v.val, .int .i64 ((l.length - r.length : Nat) : Int)])) ∧ Below w.heap.size w w' := by
  unfold Fe at h
  cases ht : takeV l with
  | none => rw [ht] at h; exact ⟨.inl ⟨rfl, h.1⟩, h.2⟩
  | some p => rw [ht] at h; exact ⟨.inr ⟨p.1, p.2, rfl, h.1⟩, h.2⟩
theorem al_loose (w : World) : Loose (w.alloc (.cells #[.int .i64 0, .bool false, .int .i64 0, .string ⟨#[]⟩] 29)) w.heap.size := by intro o; simp [go_sem]
theorem al_cells {w w1 : World} (hb : Below (w.alloc (.cells #[.int .i64 0, .bool false, .int .i64 0, .string ⟨#[]⟩] 29)).heap.size (w.alloc (.cells #[.int .i64 0, .bool false, .int .i64 0, .string ⟨#[]⟩] 29)) w1) :
    w1.cell? ⟨w.heap.size, 0, none⟩ = some (.int .i64 0) ∧ w1.cell? ⟨w.heap.size, 1, none⟩ = some (.bool false) ∧ w1.cell? ⟨w.heap.size, 2, none⟩ = some (.int .i64 0) ∧ w1.cell? ⟨w.heap.size, 3, none⟩ = some (.string ⟨#[]⟩) :=
  ⟨cell_later hb (by simp [go_sem]), cell_later hb (by simp [go_sem]), cell_later hb (by simp [go_sem]), cell_later hb (by simp [go_sem])⟩
set_option maxHeartbeats 4000000 in
theorem first_1 {c : Nat} {r : List Nat} (h8 : B8 (c :: r)) (hc : c = 1) (hl : r.length ≤ 67108864) (w : World) : Calls Try.prog 16 #[.string (ofNats (c :: r))] w (Fe (c :: r) w) := by
  have hsz : (ofNats (c :: r)).size = r.length + 1 := by rw [ofNats_size]; rfl
  have hc8 : c < 256 := h8 c (by simp)
  have hix0 : ∀ w, (Instr.index 9 (.string (ofNats (c :: r))) (.int .i64 0)).run Try.prog w = .ok (.int .u8 (c : Int)) w := fun w => by simpa using index_at (t := c :: r) (k := 0) h8 rfl w
  have HV : Hid (takeV (c :: r) = some (vNull, r)) := by show _ = _; rw [hc, takeV_cons]; rfl
  obtain ⟨b, hb⟩ : ∃ b, b = ofNats (c :: r) := ⟨_, rfl⟩
  obtain ⟨n, hn⟩ : ∃ n, n = r.length := ⟨_, rfl⟩
  rw [← hb] at hix0 hsz ⊢
  rw [← hn] at hsz hl
  have HN := hid hn
  clear hb h8 hn
  subst hc
  go_enter Try.func16, Try.ntmps16
  go_wp2_with fail
  refine bodyPost_ret (v := .tuple #[vlv 0 false 0 ⟨#[]⟩, .int .i64 1]) (by simp [results, Try.results16, go_sem]) rfl (Fe.some HV.out (by rw [List.length_cons, show r.length + 1 - r.length = 1 by omega]; rfl) (by (repeat (first | exact Below.refl _ _ | assumption | refine Below.drew ?_ | refine Below.al ?_ _ | refine Below.setCell ?_ (by first | exact Nat.le_refl _ | (simp; omega) | (simp; done)) _ | refine Below.on ?_ (by assumption)))))
set_option maxHeartbeats 4000000 in
theorem first_2 {c : Nat} {r : List Nat} (h8 : B8 (c :: r)) (hc : c = 2) (hl : r.length ≤ 67108864) (w : World) : Calls Try.prog 16 #[.string (ofNats (c :: r))] w (Fe (c :: r) w) := by
  have hsz : (ofNats (c :: r)).size = r.length + 1 := by rw [ofNats_size]; rfl
  have hc8 : c < 256 := h8 c (by simp)
  have hix0 : ∀ w, (Instr.index 9 (.string (ofNats (c :: r))) (.int .i64 0)).run Try.prog w = .ok (.int .u8 (c : Int)) w := fun w => by simpa using index_at (t := c :: r) (k := 0) h8 rfl w
  have HV : Hid (takeV (c :: r) = some (vBool false, r)) := by show _ = _; rw [hc, takeV_cons]; rfl
  obtain ⟨b, hb⟩ : ∃ b, b = ofNats (c :: r) := ⟨_, rfl⟩
  obtain ⟨n, hn⟩ : ∃ n, n = r.length := ⟨_, rfl⟩
  rw [← hb] at hix0 hsz ⊢
  rw [← hn] at hsz hl
  have HN := hid hn
  clear hb h8 hn
  subst hc
  go_enter Try.func16, Try.ntmps16
  go_wp2_with (go_at_call 24; refine (flag_is _ _).mono ?_; rintro e w1 ⟨rfl, hb1⟩; have hl1 := Loose.later (p := w.heap.size) (al_loose w) hb1 (by simp); obtain ⟨r0, r1, r2, r3⟩ := al_cells hb1; have f0 := hl1 0; have f1 := hl1 1; have f2 := hl1 2; have f3 := hl1 3; have HB1 := hid hb1; clear hb1)
  refine bodyPost_ret (v := .tuple #[vlv 1 false 0 ⟨#[]⟩, .int .i64 1]) (by simp [results, Try.results16, go_sem, r0, r1, r2, r3]) rfl (Fe.some HV.out (by rw [List.length_cons, show r.length + 1 - r.length = 1 by omega]; rfl) ?_)
  have hbb := Below.on (Below.al (Below.refl w.heap.size w) _) HB1.out
  (repeat (first | exact Below.refl _ _ | assumption | refine Below.drew ?_ | refine Below.al ?_ _ | refine Below.setCell ?_ (by first | exact Nat.le_refl _ | (simp; omega) | (simp; done)) _ | refine Below.on ?_ (by assumption)))
set_option maxHeartbeats 4000000 in
theorem first_3 {c : Nat} {r : List Nat} (h8 : B8 (c :: r)) (hc : c = 3) (hl : r.length ≤ 67108864) (w : World) : Calls Try.prog 16 #[.string (ofNats (c :: r))] w (Fe (c :: r) w) := by
  have hsz : (ofNats (c :: r)).size = r.length + 1 := by rw [ofNats_size]; rfl
  have hc8 : c < 256 := h8 c (by simp)
  have hix0 : ∀ w, (Instr.index 9 (.string (ofNats (c :: r))) (.int .i64 0)).run Try.prog w = .ok (.int .u8 (c : Int)) w := fun w => by simpa using index_at (t := c :: r) (k := 0) h8 rfl w
  have HV : Hid (takeV (c :: r) = some (vBool true, r)) := by show _ = _; rw [hc, takeV_cons]; rfl
  obtain ⟨b, hb⟩ : ∃ b, b = ofNats (c :: r) := ⟨_, rfl⟩
  obtain ⟨n, hn⟩ : ∃ n, n = r.length := ⟨_, rfl⟩
  rw [← hb] at hix0 hsz ⊢
  rw [← hn] at hsz hl
  have HN := hid hn
  clear hb h8 hn
  subst hc
  go_enter Try.func16, Try.ntmps16
  go_wp2_with (go_at_call 24; refine (flag_is _ _).mono ?_; rintro e w1 ⟨rfl, hb1⟩; have hl1 := Loose.later (p := w.heap.size) (al_loose w) hb1 (by simp); obtain ⟨r0, r1, r2, r3⟩ := al_cells hb1; have f0 := hl1 0; have f1 := hl1 1; have f2 := hl1 2; have f3 := hl1 3; have HB1 := hid hb1; clear hb1)
  refine bodyPost_ret (v := .tuple #[vlv 1 true 0 ⟨#[]⟩, .int .i64 1]) (by simp [results, Try.results16, go_sem, r0, r1, r2, r3]) rfl (Fe.some HV.out (by rw [List.length_cons, show r.length + 1 - r.length = 1 by omega]; rfl) ?_)
  have hbb := Below.on (Below.al (Below.refl w.heap.size w) _) HB1.out
  (repeat (first | exact Below.refl _ _ | assumption | refine Below.drew ?_ | refine Below.al ?_ _ | refine Below.setCell ?_ (by first | exact Nat.le_refl _ | (simp; omega) | (simp; done)) _ | refine Below.on ?_ (by assumption)))
set_option maxHeartbeats 4000000 in
theorem first_txt {c : Nat} {r : List Nat} (h8 : B8 (c :: r)) (hc : c = 48) (hl : r.length ≤ 67108864) (w : World) : Calls Try.prog 16 #[.string (ofNats (c :: r))] w (Fe (c :: r) w) := by
  have hsz : (ofNats (c :: r)).size = r.length + 1 := by rw [ofNats_size]; rfl
  have hc8 : c < 256 := h8 c (by simp)
  have hix0 : ∀ w, (Instr.index 9 (.string (ofNats (c :: r))) (.int .i64 0)).run Try.prog w = .ok (.int .u8 (c : Int)) w := fun w => by simpa using index_at (t := c :: r) (k := 0) h8 rfl w
  have HT := fun w => hid (by have := ftext_is (r := r) (fun x hx => h8 x (by simp [hx])) hl w; rw [← hc] at this; exact this)
  obtain ⟨b, hb⟩ : ∃ b, b = ofNats (c :: r) := ⟨_, rfl⟩
  obtain ⟨n, hn⟩ : ∃ n, n = r.length := ⟨_, rfl⟩
  rw [← hb] at hix0 hsz HT ⊢
  rw [← hn] at hsz hl
  have HN := hid hn
  clear hb h8 hn
  subst hc
  go_enter Try.func16, Try.ntmps16
  go_wp2_with (go_at_call 25; refine (HT _).out.mono ?_; rintro e w1 hf1; obtain ⟨hf1, hb1⟩ := hf1.out; have hl1 := Loose.later (p := w.heap.size) (al_loose w) hb1 (by simp); obtain ⟨r0, r1, r2, r3⟩ := al_cells hb1; have f0 := hl1 0; have f1 := hl1 1; have f2 := hl1 2; have f3 := hl1 3; have HB1 := hid hb1; clear hb1; have HF1 := hid hf1; clear hf1; rcases HF1.out with ⟨hv, rfl⟩ | ⟨v, z, hv, rfl⟩)
  · have HV := hid hv
    clear hv
    go_wp2_with fail
    refine bodyPost_ret (v := .tuple #[vlv 0 false 0 ⟨#[]⟩, .int .i64 0]) (by simp [results, Try.results16, go_sem, r0, r1, r2, r3]; exact ⟨rfl, rfl, rfl, rfl⟩) rfl (Fe.none HV.out rfl ?_)
    have hbb := Below.on (Below.al (Below.refl w.heap.size w) _) HB1.out
    (repeat (first | exact Below.refl _ _ | assumption | refine Below.drew ?_ | refine Below.al ?_ _ | refine Below.setCell ?_ (by first | exact Nat.le_refl _ | (simp; omega) | (simp; done)) _ | refine Below.on ?_ (by assumption)))
  · have HV := hid hv
    clear hv
    obtain ⟨xk, xf, xn, xs⟩ := v
    go_wp2_with fail
    refine bodyPost_ret (v := .tuple #[vlv xk xf xn (ofNats xs), .int .i64 (((48 :: r).length - z.length : Nat) : Int)]) (by simp [results, Try.results16, go_sem, r0, r1, r2, r3]) rfl (Fe.some HV.out rfl ?_)
    have hbb := Below.on (Below.al (Below.refl w.heap.size w) _) HB1.out
    (repeat (first | exact Below.refl _ _ | assumption | refine Below.drew ?_ | refine Below.al ?_ _ | refine Below.setCell ?_ (by first | exact Nat.le_refl _ | (simp; omega) | (simp; done)) _ | refine Below.on ?_ (by assumption)))
set_option maxHeartbeats 4000000 in
theorem first_pos {c : Nat} {r : List Nat} (h8 : B8 (c :: r)) (h1 : 24 ≤ c) (h2 : c ≤ 32) (hl : r.length ≤ 67108864) (w : World) : Calls Try.prog 16 #[.string (ofNats (c :: r))] w (Fe (c :: r) w) := by
  have hsz : (ofNats (c :: r)).size = r.length + 1 := by rw [ofNats_size]; rfl
  have hc8 : c < 256 := h8 c (by simp)
  have hix0 : ∀ w, (Instr.index 9 (.string (ofNats (c :: r))) (.int .i64 0)).run Try.prog w = .ok (.int .u8 (c : Int)) w := fun w => by simpa using index_at (t := c :: r) (k := 0) h8 rfl w
  have HT := fun w => hid (fint_pos h8 h1 h2 hl w)
  obtain ⟨b, hb⟩ : ∃ b, b = ofNats (c :: r) := ⟨_, rfl⟩
  obtain ⟨n, hn⟩ : ∃ n, n = r.length := ⟨_, rfl⟩
  rw [← hb] at hix0 hsz HT ⊢
  rw [← hn] at hsz hl
  have HN := hid hn
  clear hb h8 hn
  go_enter Try.func16, Try.ntmps16
  go_wp2_with (go_at_call 26; refine (HT _).out.mono ?_; rintro e w1 hf1; obtain ⟨hf1, hb1⟩ := hf1.out; have hl1 := Loose.later (p := w.heap.size) (al_loose w) hb1 (by simp); obtain ⟨r0, r1, r2, r3⟩ := al_cells hb1; have f0 := hl1 0; have f1 := hl1 1; have f2 := hl1 2; have f3 := hl1 3; have HB1 := hid hb1; clear hb1; have HF1 := hid hf1; clear hf1; rcases HF1.out with ⟨hv, rfl⟩ | ⟨v, z, hv, rfl⟩)
  · have HV := hid hv
    clear hv
    go_wp2_with fail
    refine bodyPost_ret (v := .tuple #[vlv 0 false 0 ⟨#[]⟩, .int .i64 0]) (by simp [results, Try.results16, go_sem, r0, r1, r2, r3]; exact ⟨rfl, rfl, rfl, rfl⟩) rfl (Fe.none HV.out rfl ?_)
    have hbb := Below.on (Below.al (Below.refl w.heap.size w) _) HB1.out
    (repeat (first | exact Below.refl _ _ | assumption | refine Below.drew ?_ | refine Below.al ?_ _ | refine Below.setCell ?_ (by first | exact Nat.le_refl _ | (simp; omega) | (simp; done)) _ | refine Below.on ?_ (by assumption)))
  · have HV := hid hv
    clear hv
    obtain ⟨xk, xf, xn, xs⟩ := v
    go_wp2_with fail
    refine bodyPost_ret (v := .tuple #[vlv xk xf xn (ofNats xs), .int .i64 (((c :: r).length - z.length : Nat) : Int)]) (by simp [results, Try.results16, go_sem, r0, r1, r2, r3]) rfl (Fe.some HV.out rfl ?_)
    have hbb := Below.on (Below.al (Below.refl w.heap.size w) _) HB1.out
    (repeat (first | exact Below.refl _ _ | assumption | refine Below.drew ?_ | refine Below.al ?_ _ | refine Below.setCell ?_ (by first | exact Nat.le_refl _ | (simp; omega) | (simp; done)) _ | refine Below.on ?_ (by assumption)))
set_option maxHeartbeats 4000000 in
theorem first_neg {c : Nat} {r : List Nat} (h8 : B8 (c :: r)) (h1 : 16 ≤ c) (h2 : c < 24) (hl : r.length ≤ 67108864) (w : World) : Calls Try.prog 16 #[.string (ofNats (c :: r))] w (Fe (c :: r) w) := by
  have hsz : (ofNats (c :: r)).size = r.length + 1 := by rw [ofNats_size]; rfl
  have hc8 : c < 256 := h8 c (by simp)
  have hix0 : ∀ w, (Instr.index 9 (.string (ofNats (c :: r))) (.int .i64 0)).run Try.prog w = .ok (.int .u8 (c : Int)) w := fun w => by simpa using index_at (t := c :: r) (k := 0) h8 rfl w
  have HT := fun w => hid (fint_neg h8 h1 h2 hl w)
  obtain ⟨b, hb⟩ : ∃ b, b = ofNats (c :: r) := ⟨_, rfl⟩
  obtain ⟨n, hn⟩ : ∃ n, n = r.length := ⟨_, rfl⟩
  rw [← hb] at hix0 hsz HT ⊢
  rw [← hn] at hsz hl
  have HN := hid hn
  clear hb h8 hn
  go_enter Try.func16, Try.ntmps16
  go_wp2_with (go_at_call 26; refine (HT _).out.mono ?_; rintro e w1 hf1; obtain ⟨hf1, hb1⟩ := hf1.out; have hl1 := Loose.later (p := w.heap.size) (al_loose w) hb1 (by simp); obtain ⟨r0, r1, r2, r3⟩ := al_cells hb1; have f0 := hl1 0; have f1 := hl1 1; have f2 := hl1 2; have f3 := hl1 3; have HB1 := hid hb1; clear hb1; have HF1 := hid hf1; clear hf1; rcases HF1.out with ⟨hv, rfl⟩ | ⟨v, z, hv, rfl⟩)
  · have HV := hid hv
    clear hv
    go_wp2_with fail
    refine bodyPost_ret (v := .tuple #[vlv 0 false 0 ⟨#[]⟩, .int .i64 0]) (by simp [results, Try.results16, go_sem, r0, r1, r2, r3]; exact ⟨rfl, rfl, rfl, rfl⟩) rfl (Fe.none HV.out rfl ?_)
    have hbb := Below.on (Below.al (Below.refl w.heap.size w) _) HB1.out
    (repeat (first | exact Below.refl _ _ | assumption | refine Below.drew ?_ | refine Below.al ?_ _ | refine Below.setCell ?_ (by first | exact Nat.le_refl _ | (simp; omega) | (simp; done)) _ | refine Below.on ?_ (by assumption)))
  · have HV := hid hv
    clear hv
    obtain ⟨xk, xf, xn, xs⟩ := v
    go_wp2_with fail
    refine bodyPost_ret (v := .tuple #[vlv xk xf xn (ofNats xs), .int .i64 (((c :: r).length - z.length : Nat) : Int)]) (by simp [results, Try.results16, go_sem, r0, r1, r2, r3]) rfl (Fe.some HV.out rfl ?_)
    have hbb := Below.on (Below.al (Below.refl w.heap.size w) _) HB1.out
    (repeat (first | exact Below.refl _ _ | assumption | refine Below.drew ?_ | refine Below.al ?_ _ | refine Below.setCell ?_ (by first | exact Nat.le_refl _ | (simp; omega) | (simp; done)) _ | refine Below.on ?_ (by assumption)))
set_option maxHeartbeats 4000000 in
theorem first_no {c : Nat} {r : List Nat} (h8 : B8 (c :: r)) (h1 : c ≠ 1) (h2 : c ≠ 2) (h3 : c ≠ 3) (h48 : c ≠ 48) (h16 : c < 16 ∨ 32 < c) (hl : r.length ≤ 67108864) (w : World) : Calls Try.prog 16 #[.string (ofNats (c :: r))] w (Fe (c :: r) w) := by
  have hsz : (ofNats (c :: r)).size = r.length + 1 := by rw [ofNats_size]; rfl
  have hc8 : c < 256 := h8 c (by simp)
  have hix0 : ∀ w, (Instr.index 9 (.string (ofNats (c :: r))) (.int .i64 0)).run Try.prog w = .ok (.int .u8 (c : Int)) w := fun w => by simpa using index_at (t := c :: r) (k := 0) h8 rfl w
  have HV : Hid (takeV (c :: r) = none) := by show _ = _; rw [takeV_cons, if_neg h1, if_neg h2, if_neg h3, if_neg h48, if_neg (by omega)]
  obtain ⟨b, hb⟩ : ∃ b, b = ofNats (c :: r) := ⟨_, rfl⟩
  obtain ⟨n, hn⟩ : ∃ n, n = r.length := ⟨_, rfl⟩
  rw [← hb] at hix0 hsz ⊢
  rw [← hn] at hsz hl
  have HN := hid hn
  clear hb h8 hn
  have d1 : ((c : Int) == 1) = false := by simp; omega
  have d2 : ((c : Int) == 2) = false := by simp; omega
  have d3 : ((c : Int) == 3) = false := by simp; omega
  have d4 : ((c : Int) == 48) = false := by simp; omega
  rcases h16 with h16 | h16
  · have d5 : ¬ (16 : Int) ≤ (c : Int) := by omega
    have d6 : decide ((16 : Int) ≤ (c : Int)) = false := by simp; omega
    go_enter Try.func16, Try.ntmps16
    go_wp2_with fail
    refine bodyPost_ret (v := .tuple #[vlv 0 false 0 ⟨#[]⟩, .int .i64 0]) (by simp [results, Try.results16, go_sem]) rfl (Fe.none HV.out rfl (by (repeat (first | exact Below.refl _ _ | assumption | refine Below.drew ?_ | refine Below.al ?_ _ | refine Below.setCell ?_ (by first | exact Nat.le_refl _ | (simp; omega) | (simp; done)) _ | refine Below.on ?_ (by assumption)))))
  · have d5 : (16 : Int) ≤ (c : Int) := by omega
    have d6 : decide ((16 : Int) ≤ (c : Int)) = true := by simp; omega
    have d7 : ¬ (c : Int) ≤ 32 := by omega
    have d8 : decide ((c : Int) ≤ 32) = false := by simp; omega
    go_enter Try.func16, Try.ntmps16
    go_wp2_with fail
    refine bodyPost_ret (v := .tuple #[vlv 0 false 0 ⟨#[]⟩, .int .i64 0]) (by simp [results, Try.results16, go_sem]) rfl (Fe.none HV.out rfl (by (repeat (first | exact Below.refl _ _ | assumption | refine Below.drew ?_ | refine Below.al ?_ _ | refine Below.setCell ?_ (by first | exact Nat.le_refl _ | (simp; omega) | (simp; done)) _ | refine Below.on ?_ (by assumption)))))
theorem first_is {l : List Nat} (h8 : B8 l) (h0 : l ≠ []) (hl : l.length ≤ 67108864) (w : World) : Calls Try.prog 16 #[.string (ofNats l)] w (Fe l w) := by
  cases l with
  | nil => exact absurd rfl h0
  | cons c r =>
    have hl' : r.length ≤ 67108864 := by rw [List.length_cons] at hl; omega
    by_cases h1 : c = 1
    · exact first_1 h8 h1 hl' w
    by_cases h2 : c = 2
    · exact first_2 h8 h2 hl' w
    by_cases h3 : c = 3
    · exact first_3 h8 h3 hl' w
    by_cases h48 : c = 48
    · exact first_txt h8 h48 hl' w
    by_cases h16 : c < 16 ∨ 32 < c
    · exact first_no h8 h1 h2 h3 h48 h16 hl' w
    by_cases h24 : 24 ≤ c
    · exact first_pos h8 h24 (by omega) hl' w
    · exact first_neg h8 (by omega) (by omega) hl' w
end Go.Proofs.Ytfafkohghgliaaa.Tu
