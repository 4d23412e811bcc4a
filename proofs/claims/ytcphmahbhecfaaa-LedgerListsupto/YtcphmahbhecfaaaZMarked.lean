import Derived.Test.YtcphmahbhecfaaaZGrown
/- marked (written by mk_zmark.py). -/
namespace Go.Proofs.Ytcphmahbhecfaaa.Lg
open Go.RowKit Go.Sort Go.Shelf Go.Lib Lk
set_option linter.unusedVariables false

theorem ownW2_three (w : World) (a b c d e f : Value) {B : Nat} (hB : B ≤ w.heap.size) : OwnW2 (w.alloc (.cells #[a, b, c, d, e, f] 58)) B (.slice (some ⟨w.heap.size, 0, none⟩) 3 3) [(a, b), (c, d), (e, f)] :=
  ⟨rfl, .inr ⟨w.heap.size, 3, #[a, b, c, d, e, f], rfl, hB, World.alloc_heap_new w _, Nat.le_refl _, by decide, rfl, rfl⟩⟩
/-- a row's block is another's, a new one or none -/
def Nrv (w : World) (v x : Value) : Prop := x.ownBlock = none ∨ x.ownBlock = v.ownBlock ∨ ∃ k, x.ownBlock = some k ∧ w.heap.size ≤ k
def Nr (w : World) (v : Value) (e : En2) : Prop := Nrv w v e.1 ∧ Nrv w v e.2
theorem nrv_new {w w' : World} {B : Nat} {v x : Value} {U : List En} (h : OwnE w' B x U) (hB : w.heap.size ≤ B) : Nrv w v x := by
  cases hx : x.ownBlock with
  | none => exact .inl hx
  | some k => exact .inr (.inr ⟨k, hx, Nat.le_trans hB (World.ownsRow.lt h k hx).1⟩)
theorem nrv_near {w w1 : World} {v x : Value} (h : Near w1 v x) (hs : w.heap.size ≤ w1.heap.size) : Nrv w v x := by
  rcases h with e | ⟨k, e, hk⟩
  · exact .inr (.inl e)
  · exact .inr (.inr ⟨k, e, Nat.le_trans hs hk⟩)

set_option maxRecDepth 100000 in
set_option maxHeartbeats 4000000 in
theorem marked_is {w : World} {B n c : Nat} {a : Option Addr} {T : List En} (hT : T.length = n) (h : OwnE w B (.slice a n c) T) (hB : B ≤ w.heap.size) (i : Int) (hl : n ≤ 1900000) :
    Calls Try.prog 17 #[.slice a n c, .int .i64 i] w fun e w' => ∃ g9 e1 e2 e3, e = .returned (.slice (some ⟨g9, 0, none⟩) 3 3) ∧ Hid (OwnW2 w' w.heap.size (.slice (some ⟨g9, 0, none⟩) 3 3) [e1, e2, e3]) ∧ Hid (∀ e ∈ [e1, e2, e3], Ent w' e ∧ Nr w (Value.slice a n c) e) ∧ Hid (w.grownBy w' (Value.slice a n c).ownBlock) := by
  have HN := hid hT
  have HO0 := hid h
  have HB := hid hB
  clear h hT hB
  go_enter Try.func17, Try.ntmps17
  go_wp2_with fail
  go_loopg [10] n (fun g s10 wr => ∃ (k : Nat) (R : List En), k ≤ n ∧ g = n - k ∧ s10 = .int .i64 k ∧ Hid (R.length = n) ∧ Hid (OwnE wr B (.slice a n c) R) ∧ Hid (w.grownBy wr (Value.slice a n c).ownBlock))
  case atStart => exact ⟨0, T, by omega, by omega, rfl, HN, HO0, grownBy_refl _ _⟩
  case round =>
    obtain ⟨k, R, hk, rfl, rfl, HR, HO, HG⟩ := hrel
    clear HO0
    by_cases hlt : k < n
    · obtain ⟨g, rfl⟩ : ∃ g, a = some ⟨g, 0, none⟩ := by
        obtain ⟨g, c', e, _⟩ := OwnE.block HO.out (by rw [HR.out]; omega)
        injection e with e _ _
        exact ⟨g, e⟩
      have hk1 : (k : Int) < (n : Int) := by omega
      go_wp2_with fail
      refine (mark_is i k wr).mono ?_
      rintro e w1 ⟨x, rfl, hb1⟩
      have HO2 := hid (HO.out.later hb1)
      have HG2 : Hid (w.grownBy w1 (Value.slice (some ⟨g, 0, none⟩) n c).ownBlock) := grownBy_trans HG.out (grownBy_of hb1 _) (.inl rfl)
      have hc := OwnE.cellsAt HO2.out HR.out k hlt
      obtain ⟨z, hz⟩ : ∃ z, z = nthE R k := ⟨_, rfl⟩
      rw [← hz] at hc
      have q0 : w1.cell? ⟨g, k * 7, none⟩ = some (.int .u32 z.id.1) := hc 0 _ rfl
      have q1 : w1.cell? ⟨g, k * 7 + 1, none⟩ = some (.int .u32 z.id.2) := hc 1 _ rfl
      have q2 : w1.cell? ⟨g, k * 7 + 2, none⟩ = some (.int .u32 z.home) := hc 2 _ rfl
      have q3 : w1.cell? ⟨g, k * 7 + 3, none⟩ = some (.int .i64 z.oc) := hc 3 _ rfl
      have q4 : w1.cell? ⟨g, k * 7 + 4, none⟩ = some (.int .u64 z.w) := hc 4 _ rfl
      have q5 : w1.cell? ⟨g, k * 7 + 5, none⟩ = some (.int .u32 z.l) := hc 5 _ rfl
      have q6 : w1.cell? ⟨g, k * 7 + 6, none⟩ = some (.int .u32 z.n) := hc 6 _ rfl
      have f0 : ∀ o, w1.frozen? ⟨g, o, none⟩ = false := OwnE.loose HO2.out HR.out
      have HP := hid (OwnE.put HO2.out HR.out.symm k hlt x)
      clear hc hz hb1
      go_wp2_with fail
      go_roundg (n - (k + 1))
      case measure => omega
      case rel => exact ⟨k + 1, R.set k x, by omega, rfl, by go_num, by show _ = _; rw [List.length_set]; exact HR.out, HP.out.1, grownBy_trans HG2.out HP.out.2 (.inl rfl)⟩
    · obtain rfl : k = n := by omega
      clear hlt hk
      go_wp2_with fail
      refine (mark_is i 1000 wr).mono ?_
      rintro e w1 ⟨x1, rfl, hb1⟩
      have HB1 := hid hb1
      have HO1 := hid (HO.out.later hb1)
      clear hb1
      go_wp2_with fail
      refine (grown_is HO1.out x1 (by rw [HR.out]; omega) (by have h0 := HB.out; have h1 := HG.out.size; have h2 := HB1.out.size; omega)).mono ?_
      rintro e w2 ⟨v1, rfl, hL1⟩
      have HL1 := hid hL1
      clear hL1
      obtain ⟨T1, hT1⟩ : ∃ T1, T1 = List.replicate 70 x1 := ⟨_, rfl⟩
      rw [← hT1] at HL1
      have hl1 : T1.length = 70 := by rw [hT1, List.length_replicate]
      obtain ⟨g1, c1, e1, hc1⟩ := OwnE.block HL1.out.own (by rw [List.length_append]; omega)
      rw [List.length_append, HR.out, hl1] at e1 hc1
      subst e1
      clear hT1 hl1
      go_wp2_with fail
      refine (mark_is i 2000 w2).mono ?_
      rintro e w3 ⟨x3, rfl, hb3⟩
      have HB3 := hid hb3
      clear hb3
      go_wp2_with fail
      refine (grown_is (HL1.out.old.later HB3.out) x3 (by rw [HR.out]; omega) (by have h0 := HB.out; have h1 := HG.out.size; have h2 := HB1.out.size; have h3 := HB3.out.size; have h4 := HL1.out.gr.size; omega)).mono ?_
      rintro e w4 ⟨v2, rfl, hL2⟩
      have HL2 := hid hL2
      clear hL2
      obtain ⟨T2, hT2⟩ : ∃ T2, T2 = List.replicate 70 x3 := ⟨_, rfl⟩
      rw [← hT2] at HL2
      have hl2 : T2.length = 70 := by rw [hT2, List.length_replicate]
      have HT2 := hid hl2
      obtain ⟨g2, c2, e2, hc2⟩ := OwnE.block HL2.out.own (by rw [List.length_append]; omega)
      rw [List.length_append, HR.out, hl2] at e2
      subst e2
      clear hT2 hl2 hc2
      have HSW : Hid (w.heap.size ≤ w1.heap.size ∧ w.heap.size ≤ w3.heap.size ∧ w.heap.size ≤ w4.heap.size) := by
        have h1 := HG.out.size; have h2 := HB1.out.size; have h3 := HB3.out.size; have h4 := HL1.out.gr.size; have h5 := HL2.out.gr.size
        exact hid ⟨by omega, by omega, by omega⟩
      have HG4 : Hid (w.grownBy w4 (Value.slice a k c).ownBlock) := grownBy_trans HG.out (grownBy_trans (grownBy_of HB1.out _) (grownBy_trans HL1.out.gr (grownBy_trans (grownBy_of HB3.out _) HL2.out.gr (.inl rfl)) (.inl rfl)) (.inl rfl)) (.inl rfl)
      have HV4 : Hid (OwnE w4 B (.slice a k c) R) := HL2.out.old
      have H14 : Hid (OwnE w4 B (.slice (some ⟨g1, 0, none⟩) k c1) R) := by
        have h1 := one_head (HL1.out.old.later HB3.out) (HL1.out.own.later HB3.out) HL2.out.old HL2.out.gr
        rw [HR.out] at h1
        exact h1
      have H24 : Hid (OwnE w4 B (.slice (some ⟨g2, 0, none⟩) (k + 70) c2) (R ++ T2)) := HL2.out.own
      have HNA : Hid (Nrv w (.slice a k c) (.slice (some ⟨g1, 0, none⟩) k c1)) := nrv_near (x := .slice (some ⟨g1, 0, none⟩) (k + 70) c1) HL1.out.near HSW.out.1
      have HNB : Hid (Nrv w (.slice a k c) (.slice (some ⟨g2, 0, none⟩) (k + 70) c2)) := nrv_near HL2.out.near HSW.out.2.1
      have hcap : k ≤ c1 := by omega
      have K1 : Hid (∀ W', Below w4.heap.size w4 W' → Calls Try.prog 16 #[.slice a k c] W' fun e w' => ∃ a5 c5, e = .returned (.slice a5 k c5) ∧ Hid (OwnE w' W'.heap.size (.slice a5 k c5) R) ∧ Below W'.heap.size W' w') := fun W' hb => kept_at HR.out (HV4.out.later hb) (by omega)
      have K3 := K1
      have K2 : Hid (∀ W', Below w4.heap.size w4 W' → Calls Try.prog 16 #[.slice (some ⟨g2, 0, none⟩) (k + 70) c2] W' fun e w' => ∃ a5 c5, e = .returned (.slice a5 (k + 70) c5) ∧ Hid (OwnE w' W'.heap.size (.slice a5 (k + 70) c5) (R ++ T2)) ∧ Below W'.heap.size W' w') := fun W' hb => kept_at (by rw [List.length_append, HR.out, HT2.out]) (H24.out.later hb) (by omega)
      clear HL1 HL2 hc1 HB1 HB3 HO1 HG HO
      go_wp2_with fail
      go_region_held3 (fun w' => Below w4.heap.size w4 w')
        (((repeat (first | with_reducible exact Below.refl _ _ | with_reducible assumption | with_reducible refine Below.drew ?_ | with_reducible refine Below.al ?_ _ | with_reducible refine Below.setCell ?_ (by first | exact Nat.le_refl _ | (simp; omega) | (simp; done)) _ | with_reducible refine Below.on ?_ (by assumption)))))
        (first
          | (go_at_call 16; refine (K1.out _ (by (repeat (first | with_reducible exact Below.refl _ _ | with_reducible assumption | with_reducible refine Below.drew ?_ | with_reducible refine Below.al ?_ _ | with_reducible refine Below.setCell ?_ (by first | exact Nat.le_refl _ | (simp; omega) | (simp; done)) _ | with_reducible refine Below.on ?_ (by assumption))))).mono ?_; clear K1; rintro e w5 ⟨a5, c5, rfl, ho5, hb5⟩)
          | (go_at_call 16; refine (K3.out _ (by (repeat (first | with_reducible exact Below.refl _ _ | with_reducible assumption | with_reducible refine Below.drew ?_ | with_reducible refine Below.al ?_ _ | with_reducible refine Below.setCell ?_ (by first | exact Nat.le_refl _ | (simp; omega) | (simp; done)) _ | with_reducible refine Below.on ?_ (by assumption))))).mono ?_; clear K3; rintro e w6 ⟨a6, c6, rfl, ho6, hb6⟩)
          | (go_at_call 16; refine (K2.out _ (by (repeat (first | with_reducible exact Below.refl _ _ | with_reducible assumption | with_reducible refine Below.drew ?_ | with_reducible refine Below.al ?_ _ | with_reducible refine Below.setCell ?_ (by first | exact Nat.le_refl _ | (simp; omega) | (simp; done)) _ | with_reducible refine Below.on ?_ (by assumption))))).mono ?_; rintro e w7 ⟨a7, c7, rfl, ho7, hb7⟩))
      have hb45 : Below w4.heap.size w4 w5 := Below.on (Below.drew (Below.refl _ _)) hb5
      have hb46 : Below w4.heap.size w4 w6 := Below.on hb45 hb6
      have hb47 : Below w4.heap.size w4 w7 := Below.on hb46 hb7
      have hs4 := HSW.out.2.2
      have s5 := hb45.size
      have s6 := hb46.size
      have s7 := hb47.size
      have HA : Hid (∀ o : Obj, Below w7.heap.size w7 (w7.alloc o)) := fun o => Below.al (Below.refl _ _) _
      go_wp2_with fail
      go_ret
      refine ⟨w7.heap.size, _, _, _, rfl, ownW2_three w7 _ _ _ _ _ _ (by omega), ?_, grownBy_trans HG4.out (grownBy_of (Below.on hb47 (HA.out _)) _) (.inl rfl)⟩
      intro e he
      have hr := HR.out
      have h47 := fun o : Obj => Below.on hb47 (HA.out o)
      have h57 := fun o : Obj => Below.on (Below.on hb6 hb7) (HA.out o)
      have h67 := fun o : Obj => Below.on hb7 (HA.out o)
      simp only [List.mem_cons, List.not_mem_nil, or_false] at he
      rcases he with rfl | rfl | rfl
      · exact ⟨⟨R, by omega, HV4.out.zero.later (h47 _), ho5.out.zero.later (h57 _)⟩, .inr (.inl rfl), nrv_new ho5.out hs4⟩
      · exact ⟨⟨R, by omega, H14.out.zero.later (h47 _), ho6.out.zero.later (h67 _)⟩, HNA.out, nrv_new ho6.out (Nat.le_trans hs4 s5)⟩
      · exact ⟨⟨R ++ T2, by rw [List.length_append, HT2.out]; omega, H24.out.zero.later (h47 _), ho7.out.zero.later (HA.out _)⟩, HNB.out, nrv_new ho7.out (Nat.le_trans hs4 s6)⟩

end Go.Proofs.Ytcphmahbhecfaaa.Lg
