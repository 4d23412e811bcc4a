import Derived.Test.YtmloaddbmkonoabKClock
namespace Go.Proofs.Ytmloaddbmkonoab
open Go.RowKit Go.Sort
set_option linter.unusedVariables false

set_option maxHeartbeats 400000 in
theorem observe_top (p : Nat) (c : Ck) (a b d : Int) (w : World) (h : ClockAt w p c) (ha : (a == 18446744073709551615) = true) :
    Calls Try.prog 15 #[.pointer (some ⟨p, 0, none⟩), stv a b d] w fun e w' => e = .returned (.int .i64 11) ∧ Only p w w' ∧ ClockAt w' p c := by
  have H := hid h
  clear h
  go_enter Try.func15, Try.ntmps15
  go_wp2
  go_ret
  exact ⟨rfl, Only.al (Only.refl _ _) _, H.out.later (Below.al (Below.refl _ _) _)⟩

theorem row2 {w : World} {b : Nat} (s t : St) (c0 : w.cell? ⟨b, 0, none⟩ = some (.int .u64 s.w)) (c1 : w.cell? ⟨b, 1, none⟩ = some (.int .u32 s.l)) (c2 : w.cell? ⟨b, 2, none⟩ = some (.int .u32 s.n))
    (c3 : w.cell? ⟨b, 3, none⟩ = some (.int .u64 t.w)) (c4 : w.cell? ⟨b, 4, none⟩ = some (.int .u32 t.l)) (c5 : w.cell? ⟨b, 5, none⟩ = some (.int .u32 t.n)) : Row w (some ⟨b, 0, none⟩) [s, t] := fun i hi => by
  match i, hi with
  | 0, _ => exact ⟨b, 0, rfl, c0, c1, c2⟩
  | 1, _ => exact ⟨b, 0, rfl, c3, c4, c5⟩

theorem max2 (s t : St) (hs : s.ok) : maxSt zst [s, t] = if s.less t then t else s := by
  have hz : (if zst.less s then s else zst) = s := by
    cases hl : zst.less s with
    | true => rfl
    | false =>
      have hl' := lessB_iff_false.1 hl
      obtain ⟨⟨h1, h2⟩, ⟨h3, h4⟩, h5, h6⟩ := hs
      obtain ⟨x, y, z⟩ := s
      simp only [zst] at hl' h1 h2 h3 h4 h5 h6
      obtain rfl : x = 0 := by omega
      obtain rfl : y = 0 := by omega
      obtain rfl : z = 0 := by omega
      rfl
  show (if (if zst.less s then s else zst).less t then t else (if zst.less s then s else zst)) = _
  rw [hz]

theorem max2_any {b : Nat} {s t m : St} (hm : maxSt zst [s, t] = m) (w : World) (h : Row w (some ⟨b, 0, none⟩) [s, t]) :
    Calls Try.prog 26 #[.slice (some ⟨b, 0, none⟩) 2 2] w fun e w' => e = .returned (stv m.w m.l m.n) ∧ Below w.heap.size w w' := by
  have := max_any (some ⟨b, 0, none⟩) 2 [s, t] w h (by simp)
  rw [hm] at this
  exact this

set_option maxHeartbeats 1000000 in
theorem observe_in (p : Nat) (c : Ck) (s : St) (w : World) (h : ClockAt w p c) (hs : c.l.ok) (ha : (s.w == 18446744073709551615) = false) {m : St} (hm : maxSt zst [c.l, s] = m) :
    Calls Try.prog 15 #[.pointer (some ⟨p, 0, none⟩), stv s.w s.l s.n] w fun e w' => e = .returned (.int .i64 0) ∧ Only p w w' ∧ ClockAt w' p { c with l := m } := by
  have h4 := h.c4; have h5 := h.c5; have h6 := h.c6
  have hf : ∀ o, w.frozen? ⟨p, o, none⟩ = false := h.loose
  have hp := h.lt
  have H := hid h
  have HM := hid hm
  clear h hm
  go_enter Try.func15, Try.ntmps15
  go_wp2_with fail
  obtain ⟨wa, hwa⟩ : ∃ wa, wa = w.alloc (.cells #[.int .u64 s.w, .int .u32 s.l, .int .u32 s.n] 33) := ⟨_, rfl⟩
  have ba : Below w.heap.size w wa := by rw [hwa]; exact Below.al (Below.refl _ _) _
  have K := H.out.later ba
  have k4 := K.c4; have k5 := K.c5; have k6 := K.c6
  have b0 : wa.cell? ⟨w.heap.size, 0, none⟩ = some (.int .u64 s.w) := by rw [hwa]; simp [go_sem]
  have b1 : wa.cell? ⟨w.heap.size, 1, none⟩ = some (.int .u32 s.l) := by rw [hwa]; simp [go_sem]
  have b2 : wa.cell? ⟨w.heap.size, 2, none⟩ = some (.int .u32 s.n) := by rw [hwa]; simp [go_sem]
  have kf : ∀ o, wa.frozen? ⟨p, o, none⟩ = false := K.loose
  have hpa : p < wa.heap.size := K.lt
  have hqa : w.heap.size < wa.heap.size := World.block_lt_of_cell? _ _ b0
  have HK := hid K
  rw [← hwa]
  clear K hwa h4 h5 h6 hf
  go_cut [] (fun wx => ∃ w1, Below wa.heap.size wa w1 ∧ wx = putLast w1 p m)
  case first =>
    go_region_with (first | (go_at_call 26; refine (max2_any HM.out _ (row2 c.l s (by simp [go_sem]) (by simp [go_sem]) (by simp [go_sem]) (by simp [go_sem]) (by simp [go_sem]) (by simp [go_sem]))).mono ?_; rintro e w1 ⟨rfl, hb1⟩; have hB1 : Below wa.heap.size wa w1 := (by refine Below.on ?_ hb1; (repeat (first | exact Below.refl _ _ | assumption | refine Below.drew ?_ | refine Below.al ?_ _ | refine Below.setCell ?_ (by first | exact Nat.le_refl _ | (simp; omega) | (simp; done)) _ | refine Below.on ?_ (by assumption)))); have k4 := cell_later hB1 k4; have k5 := cell_later hB1 k5; have k6 := cell_later hB1 k6; have kf : ∀ o, w1.frozen? ⟨p, o, none⟩ = false := (fun o => (hB1.frozen (p := ⟨p, o, none⟩) hpa).trans (kf o)); clear hb1))
    all_goals (try go_wp2_with fail)
    all_goals go_meet
    all_goals exact ⟨_, hB1, rfl⟩
  case rest =>
    obtain ⟨w1, hB1, rfl⟩ := hcut
    have R1 := hid ((HK.out.later hB1).setLast m)
    have R2 := hid (Only.putLast (p := p) (Only.on (Only.of_below ba) hB1) m)
    clear k4 k5 k6 b0 b1 b2 kf hB1
    go_wp2_with fail
    go_ret
    exact ⟨rfl, R2.out, R1.out⟩

theorem observe_is {p : Nat} {c : Ck} {s : St} {E : Int} {c' : Ck} (he : obsE s = E) (hc' : obsC c s = c') (w : World) (h : ClockAt w p c) (hc : c.ok) :
    Calls Try.prog 15 #[.pointer (some ⟨p, 0, none⟩), stv s.w s.l s.n] w fun e w' => e = .returned (.int .i64 E) ∧ Only p w w' ∧ ClockAt w' p c' := by
  subst he hc'
  by_cases ha : s.w = 18446744073709551615
  · have e1 : obsE s = 11 := by unfold obsE; rw [if_pos ha]
    have e2 : obsC c s = c := by unfold obsC; rw [if_pos ha]
    rw [e1, e2]
    exact observe_top p c s.w s.l s.n w h (beq_iff_eq.2 ha)
  · have e1 : obsE s = 0 := by unfold obsE; rw [if_neg ha]
    have e2 : obsC c s = { c with l := if c.l.less s then s else c.l } := by unfold obsC; rw [if_neg ha]
    rw [e1, e2]
    exact observe_in p c s w h hc.l (beq_eq_false_iff_ne.2 ha) (max2 c.l s hc.l)

theorem obsC_ok {c : Ck} {s : St} (h : c.ok) (hs : s.ok) : (obsC c s).ok := by
  unfold obsC
  split
  · exact h
  · refine ⟨h.win, h.ceil, h.node, h.rd, ?_⟩
    show (if c.l.less s then s else c.l).ok
    split
    · exact hs
    · exact h.l

end Go.Proofs.Ytmloaddbmkonoab
