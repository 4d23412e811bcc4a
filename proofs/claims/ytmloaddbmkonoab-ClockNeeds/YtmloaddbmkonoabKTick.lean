import Derived.Test.YtmloaddbmkonoabKClock
namespace Go.Proofs.Ytmloaddbmkonoab
open Go.RowKit Go.Sort
set_option linter.unusedVariables false

/-- the world behind an empty stamp's block -/
abbrev wz (w : World) : World := w.alloc (.cells #[.int .u64 0, .int .u32 0, .int .u32 0] 33)
theorem wz_at (w : World) : StampAt (wz w) w.heap.size 0 0 0 := by refine ⟨?_, ?_, ?_⟩ <;> (simp [go_sem]; done)
theorem wz_loose (w : World) : Loose (wz w) w.heap.size := fun o => by simp [go_sem]

set_option maxHeartbeats 1000000 in
theorem mnext_low (p : Nat) (c : Ck) (w : World) (h : ClockAt w p c) (hl : c.rd ≤ c.l.w) (hs : c.l.ok) {W L N E : Int} (hx : nxt c.l.w c.l.l c.node = ⟨W, L, N, E⟩) :
    Calls Try.prog 25 #[.pointer (some ⟨p, 0, none⟩)] w fun e w' => e = .returned (.tuple #[stv W L N, .int .i64 E]) ∧ Below w.heap.size w w' := by
  have h2 := h.c2; have h3 := h.c3; have h4 := h.c4; have h5 := h.c5; have h6 := h.c6
  have hp := h.lt
  have HX := hid hx
  clear h hx
  go_enter Try.func25, Try.ntmps25
  go_wp2_with fail
  go_region
  go_wp2_with fail
  have ba : Below w.heap.size w (wz w) := Below.al (Below.refl _ _) _
  have hne : p ≠ w.heap.size := by omega
  go_region_held3 (fun w' => w'.cell? ⟨p, 2, none⟩ = some (.int .u32 c.node) ∧ w'.cell? ⟨p, 4, none⟩ = some (.int .u64 c.l.w) ∧ w'.cell? ⟨p, 5, none⟩ = some (.int .u32 c.l.l) ∧ w'.cell? ⟨p, 6, none⟩ = some (.int .u32 c.l.n) ∧ Below w.heap.size w w')
    ((refine (fun (hB : Below w.heap.size w _) => ⟨cell_later hB h2, cell_later hB h4, cell_later hB h5, cell_later hB h6, hB⟩) ?_; repeat (first | exact Below.refl _ _ | refine Below.drew ?_ | refine Below.al ?_ _ | refine Below.setCell ?_ (by first | exact Nat.le_refl _ | (simp; omega) | (simp; done)) _ | refine Below.on ?_ (by assumption))))
    (first | (go_at_call 28; refine (next_is HX.out hs _).mono ?_; rintro e w1 ⟨rfl, hb1⟩; have hB1 : Below (wz w).heap.size (wz w) w1 := (by refine Below.on ?_ hb1; repeat (first | exact Below.refl _ _ | refine Below.drew ?_)); have ⟨z0, z1, z2⟩ := (wz_at w).later hB1; have fz : ∀ o, w1.frozen? ⟨w.heap.size, o, none⟩ = false := (wz_loose w).later hB1 (by simp); have hb1 := Below.on ba hB1; clear hB1))
  go_wp2_with fail
  refine bodyPost_ret (v := .tuple #[stv W L N, .int .i64 E]) (by simp [results, Try.results25, go_sem, z0, z1, z2]) rfl ⟨rfl, ?_⟩
  (repeat (first | exact Below.refl _ _ | assumption | refine Below.drew ?_ | refine Below.al ?_ _ | refine Below.setCell ?_ (by first | exact Nat.le_refl _ | (simp; omega) | (simp; done)) _ | refine Below.on ?_ (by assumption)))

set_option maxHeartbeats 1000000 in
theorem mnext_top (p : Nat) (c : Ck) (w : World) (h : ClockAt w p c) (hl : ¬ c.rd ≤ c.l.w) (he : (c.rd == 18446744073709551615) = true) :
    Calls Try.prog 25 #[.pointer (some ⟨p, 0, none⟩)] w fun e w' => e = .returned (.tuple #[stv 0 0 0, .int .i64 11]) ∧ Below w.heap.size w w' := by
  have h2 := h.c2; have h3 := h.c3; have h4 := h.c4; have h5 := h.c5; have h6 := h.c6
  have hp := h.lt
  clear h
  go_enter Try.func25, Try.ntmps25
  go_wp2_with fail
  go_region
  go_wp2_with fail
  refine bodyPost_ret (v := .tuple #[stv 0 0 0, .int .i64 11]) (by simp [results, Try.results25, go_sem]) rfl ⟨rfl, ?_⟩
  (repeat (first | exact Below.refl _ _ | assumption | refine Below.drew ?_ | refine Below.al ?_ _ | refine Below.setCell ?_ (by first | exact Nat.le_refl _ | (simp; omega) | (simp; done)) _ | refine Below.on ?_ (by assumption)))

set_option maxHeartbeats 1000000 in
theorem mnext_on (p : Nat) (c : Ck) (w : World) (h : ClockAt w p c) (hl : ¬ c.rd ≤ c.l.w) (he : (c.rd == 18446744073709551615) = false) :
    Calls Try.prog 25 #[.pointer (some ⟨p, 0, none⟩)] w fun e w' => e = .returned (.tuple #[stv c.rd 0 c.node, .int .i64 0]) ∧ Below w.heap.size w w' := by
  have h2 := h.c2; have h3 := h.c3; have h4 := h.c4; have h5 := h.c5; have h6 := h.c6
  have hp := h.lt
  clear h
  go_enter Try.func25, Try.ntmps25
  go_wp2_with fail
  go_region
  go_wp2_with fail
  go_region
  go_wp2_with fail
  refine bodyPost_ret (v := .tuple #[stv c.rd 0 c.node, .int .i64 0]) (by simp [results, Try.results25, go_sem]) rfl ⟨rfl, ?_⟩
  (repeat (first | exact Below.refl _ _ | assumption | refine Below.drew ?_ | refine Below.al ?_ _ | refine Below.setCell ?_ (by first | exact Nat.le_refl _ | (simp; omega) | (simp; done)) _ | refine Below.on ?_ (by assumption)))

theorem mnext_is {p : Nat} {c : Ck} {W L N E : Int} (hx : tickN c = ⟨W, L, N, E⟩) (w : World) (h : ClockAt w p c) (hs : c.l.ok) :
    Calls Try.prog 25 #[.pointer (some ⟨p, 0, none⟩)] w fun e w' => e = .returned (.tuple #[stv W L N, .int .i64 E]) ∧ Below w.heap.size w w' := by
  unfold tickN at hx
  by_cases hl : c.rd ≤ c.l.w
  · rw [if_pos hl] at hx
    exact mnext_low p c w h hl hs hx
  · rw [if_neg hl] at hx
    by_cases he : c.rd = 18446744073709551615
    · rw [if_pos he] at hx
      injection hx with e1 e2 e3 e4
      subst e1 e2 e3 e4
      exact mnext_top p c w h hl (beq_iff_eq.2 he)
    · rw [if_neg he] at hx
      injection hx with e1 e2 e3 e4
      subst e1 e2 e3 e4
      exact mnext_on p c w h hl (beq_eq_false_iff_ne.2 he)

theorem tickC_no {c : Ck} {W L N E : Int} (hx : tickN c = ⟨W, L, N, E⟩) (he : E ≠ 0) : tickC c = c := by
  unfold tickC; rw [hx, if_neg he]
theorem tickC_yes {c : Ck} {W L N E : Int} (hx : tickN c = ⟨W, L, N, E⟩) (he : E = 0) : tickC c = { c with l := ⟨W, L, N⟩ } := by
  unfold tickC; rw [hx, if_pos he]; rfl
theorem tickN_cases (c : Ck) (h : c.ok) : (tickN c = ⟨0, 0, 0, 11⟩ ∧ tickC c = c) ∨ ((tickN c).E = 0 ∧ (tickN c).st.ok ∧ (tickN c).N = c.node ∧ (tickN c).W ≤ 18446744073709551614 ∧ c.l.less (tickN c).st = true ∧ tickC c = { c with l := (tickN c).st }) := by
  have hr := h.rd
  unfold U64 at hr
  obtain ⟨hn1, hn2⟩ : 0 ≤ c.node ∧ c.node ≤ 4294967295 := h.node
  by_cases hl : c.rd ≤ c.l.w
  · have e : tickN c = nxt c.l.w c.l.l c.node := by unfold tickN; rw [if_pos hl]
    rcases nxt_cases c.node h.l h.node with ⟨h1, -⟩ | ⟨h1, h2, h3, h4, h5⟩
    · exact .inl ⟨e.trans h1, tickC_no (e.trans h1) (by omega)⟩
    · refine .inr ⟨by rw [e]; exact h1, by rw [e]; exact h2, by rw [e]; exact h3, by rw [e]; exact h4, by rw [e]; exact h5, by unfold tickC; rw [if_pos (by rw [e]; exact h1)]⟩
  · by_cases he : c.rd = 18446744073709551615
    · have e : tickN c = ⟨0, 0, 0, 11⟩ := by unfold tickN; rw [if_neg hl, if_pos he]
      exact .inl ⟨e, tickC_no e (by omega)⟩
    · have e : tickN c = ⟨c.rd, 0, c.node, 0⟩ := by unfold tickN; rw [if_neg hl, if_neg he]
      refine .inr ⟨by rw [e], ?_, by rw [e], ?_, ?_, by unfold tickC; rw [if_pos (by rw [e])]⟩
      · rw [e]; exact ⟨hr, ⟨by simp [Nxt.st], by simp [Nxt.st]⟩, hn1, hn2⟩
      · rw [e]; show c.rd ≤ _; omega
      · rw [e]; exact lessB_iff.2 (by simp [Nxt.st]; omega)
theorem tickC_ok {c : Ck} (h : c.ok) : (tickC c).ok := by
  rcases tickN_cases c h with ⟨-, e⟩ | ⟨-, h2, -, -, -, e⟩
  · rw [e]; exact h
  · rw [e]; exact ⟨h.win, h.ceil, h.node, h.rd, h2⟩

set_option maxHeartbeats 1000000 in
theorem tick_is {p : Nat} {c : Ck} {W L N E : Int} (hx : tickN c = ⟨W, L, N, E⟩) (w : World) (h : ClockAt w p c) (hc : c.ok) :
    Calls Try.prog 13 #[.pointer (some ⟨p, 0, none⟩)] w fun e w' => e = .returned (.tuple #[stv W L N, .int .i64 E]) ∧ Only p w w' ∧ ClockAt w' p (tickC c) := by
  have HX := hid hx
  have H := hid h
  have hp := h.lt
  have hs := hc.l
  by_cases he : E = 0
  · rw [tickC_yes hx he]
    subst he
    clear hx h hc
    go_enter Try.func13, Try.ntmps13
    go_wp2_with (first | (go_at_call 25; refine (mnext_is HX.out _ (H.out.later (Below.al (Below.refl _ _) _)) hs).mono ?_; rintro e w1 ⟨rfl, hb1⟩; have ⟨z0, z1, z2⟩ := (wz_at w).later hb1; have fz : ∀ o, w1.frozen? ⟨w.heap.size, o, none⟩ = false := (wz_loose w).later hb1 (by simp); have K := (H.out.later (Below.al (Below.refl _ _) _)).later hb1; have k4 := K.c4; have k5 := K.c5; have k6 := K.c6; have kf : ∀ o, w1.frozen? ⟨p, o, none⟩ = false := K.loose; have hK := hid K; have hpne : p ≠ w.heap.size := (by omega); have hq : w.heap.size < w1.heap.size := Nat.lt_of_lt_of_le (by simp) hb1.size; have hp1 : p < w1.heap.size := K.lt; clear K))
    have ho : Only p w w1 := Only.on (Only.of_below (Below.al (Below.refl _ _) _)) hb1
    refine bodyPost_ret (v := .tuple #[stv W L N, .int .i64 0]) (by simp [results, Try.results13, go_sem, z0, z1, z2, hq]) rfl ⟨rfl, ?_, ?_⟩
    · exact ((((((ho.set 4 _).set 5 _).set 6 _).setNew (Nat.le_refl _) 0 _).setNew (Nat.le_refl _) 1 _).setNew (Nat.le_refl _) 2 _).al _
    · exact (hK.out.setLast ⟨W, L, N⟩).only (p := w.heap.size) (((((Only.refl _ _).set 0 _).set 1 _).set 2 _).al _) hpne
  · obtain ⟨e0, e1⟩ : tickN c = ⟨0, 0, 0, 11⟩ ∧ tickC c = c := by
      rcases tickN_cases c hc with k | ⟨k, -⟩
      · exact k
      · rw [hx] at k; exact absurd k he
    rw [e1]
    rw [e0] at hx
    injection hx with q1 q2 q3 q4
    subst q1 q2 q3 q4
    clear h hc e1 e0 he
    go_enter Try.func13, Try.ntmps13
    go_wp2_with (first | (go_at_call 25; refine (mnext_is HX.out _ (H.out.later (Below.al (Below.refl _ _) _)) hs).mono ?_; rintro e w1 ⟨rfl, hb1⟩; have ⟨z0, z1, z2⟩ := (wz_at w).later hb1; have fz : ∀ o, w1.frozen? ⟨w.heap.size, o, none⟩ = false := (wz_loose w).later hb1 (by simp); have hq : w.heap.size < w1.heap.size := Nat.lt_of_lt_of_le (by simp) hb1.size; have K := hid ((H.out.later (Below.al (Below.refl _ _) _)).later hb1)))
    have ho : Only p w w1 := Only.on (Only.of_below (Below.al (Below.refl _ _) _)) hb1
    have hpne : p ≠ w.heap.size := by omega
    refine bodyPost_ret (v := .tuple #[stv 0 0 0, .int .i64 11]) (by simp [results, Try.results13, go_sem, z0, z1, z2, hq]) rfl ⟨rfl, ?_, ?_⟩
    · exact (((ho.setNew (Nat.le_refl _) 0 _).setNew (Nat.le_refl _) 1 _).setNew (Nat.le_refl _) 2 _).al _
    · exact K.out.only (p := w.heap.size) (((((Only.refl _ _).set 0 _).set 1 _).set 2 _).al _) hpne

end Go.Proofs.Ytmloaddbmkonoab
