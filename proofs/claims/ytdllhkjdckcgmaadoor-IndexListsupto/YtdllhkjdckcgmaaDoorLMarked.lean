import Derived.Test.YtdllhkjdckcgmaaDoorLGrown
import Derived.Test.YtdllhkjdckcgmaaDoorLItoa
import Derived.Deep.AppendLies
namespace Go.Proofs.YtdllhkjdckcgmaaDoor
open Go.RowKit Go.Sort
set_option linter.unusedVariables false

theorem ownW2_one (w : World) (a b : Value) {B : Nat} (hB : B ≤ w.heap.size) : OwnW2 (w.alloc (.cells #[a, b] 44)) B (.slice (some ⟨w.heap.size, 0, none⟩) 1 1) [(a, b)] :=
  ⟨rfl, .inr ⟨w.heap.size, 1, #[a, b], rfl, hB, World.alloc_heap_new w _, Nat.le_refl _, by decide, rfl, rfl⟩⟩
theorem new2v (w : World) (a b : Value) (t : TypeId) : (w.alloc (.cells #[a, b] t)).cell? ⟨w.heap.size, 0, none⟩ = some a ∧ (w.alloc (.cells #[a, b] t)).cell? ⟨w.heap.size, 1, none⟩ = some b := by
  have h := World.alloc_heap_new w (.cells #[a, b] t)
  exact ⟨cell_of_obj h rfl, cell_of_obj h rfl⟩

/-- rows of different types lie apart -/
theorem rows_apart {w : World} {b1 b2 n1 n2 s1 s2 : Nat} {e1 e2 : TypeId} {v1 v2 : Value} {xs ys : List Value} (h1 : w.ownsRow b1 e1 s1 v1 n1 xs) (h2 : w.ownsRow b2 e2 s2 v2 n2 ys) (hne : e1 ≠ e2) : v1.ownBlock = none ∨ v1.ownBlock ≠ v2.ownBlock := by
  obtain ⟨_, ⟨rfl, _⟩ | ⟨g, cap, cur, rfl, _, hg, _⟩⟩ := h1
  · exact .inl rfl
  · right
    obtain ⟨_, ⟨rfl, _⟩ | ⟨g', cap', cur', rfl, _, hg', _⟩⟩ := h2
    · simp [Value.ownBlock]
    · simp only [Value.ownBlock]
      intro e
      injection e with e
      subst e
      rw [hg] at hg'
      injection hg' with hg'
      injection hg' with _ e _
      exact hne e
theorem news2 (w : World) (a b : Value) (t : TypeId) : ∀ (j : Nat) (u : Value), [a, b][j]? = some u → (w.alloc (.cells #[a, b] t)).cell? ((⟨w.heap.size, 0, none⟩ : Addr).add j) = some u := by
  intro j u hj
  match j, hj with
  | 0, hj => simp at hj; subst hj; exact (new2v w _ b t).1
  | 1, hj => simp at hj; subst hj; exact (new2v w a _ t).2
  | j + 2, hj => simp at hj
theorem ones2 {a b : Option Addr} {m n c d : Nat} : ∀ u ∈ [Value.slice a m c, Value.slice b n d], u.oneCell' = true := by
  intro u hu; simp at hu; rcases hu with rfl | rfl <;> rfl

set_option maxRecDepth 100000 in
set_option maxHeartbeats 4000000 in
theorem marked_is {W w : World} {v : Value} {T : List ByteArray} (hP : PowTab W) (hW : Below W.heap.size W w) (h : OwnT w W.heap.size v T) (i : Int) (h0 : -1 ≤ i) (hi : i ≤ 1000000) (hl : T.length ≤ 900000) :
    Calls Tryd.prog 14 #[v, .int .i64 i] w fun e w' => ∃ va e1 e2 e3, e = .returned va ∧ OwnW2 w' w.heap.size va [e1, e2, e3] ∧ (∀ e ∈ [e1, e2, e3], Ent w' e) ∧ w.grownBy w' v.ownBlock := by
  obtain ⟨a, c, rfl, hc⟩ := h.slice
  obtain ⟨n, hn⟩ : ∃ n, n = T.length := ⟨_, rfl⟩
  rw [← hn] at h hl hc ⊢
  have HN := hid hn
  have HO0 := hid h
  have HW := hid hW
  have HP := hid hP
  have H0 := hid h0
  have HI : Hid (∀ (j : Int) (W' : World), -1 ≤ j → j ≤ 1000000 → Below W.heap.size W W' → Calls Tryd.prog 32 #[.int .i64 j] W' fun e w' => ∃ s, e = .returned (.string s) ∧ s.size ≤ 40 ∧ Below W'.heap.size W' w') := fun j W' h1 h2 hb => itoa_any j h1 (by omega) W' (hP.later hb)
  have HBL : Hid (∀ wr, w.grownBy wr (Value.slice a n c).ownBlock → Below W.heap.size W wr) := fun wr hg => grown_below hg hW (Nat.le_refl _) fun k hk => (World.ownsRow.lt h k hk).1
  clear h hW hP hn
  go_enter Tryd.func14, Tryd.ntmps14
  go_wp2_with fail
  go_loopg [11] n (fun g s11 wr => ∃ (k : Nat) (R : List ByteArray), k ≤ n ∧ g = n - k ∧ s11 = .int .i64 k ∧ Hid (R.length = n) ∧ Hid (OwnT wr W.heap.size (.slice a n c) R) ∧ Hid (w.grownBy wr (Value.slice a n c).ownBlock))
  case atStart => exact ⟨0, T, by omega, by omega, rfl, HN.out.symm, HO0.out, grownBy_refl _ _⟩
  case round =>
    obtain ⟨k, R, hk, rfl, rfl, HR, HO, HG⟩ := hrel
    clear HO0
    have HB := hid (HBL.out _ HG.out)
    by_cases hlt : k < n
    · obtain ⟨g, rfl⟩ : ∃ g, a = some ⟨g, 0, none⟩ := by
        obtain ⟨g, c', e, _⟩ := HO.out.block (by have := HR.out; omega)
        injection e with e _ _
        exact ⟨g, e⟩
      go_wp2_with fail
      refine (HI.out i wr h0 hi HB.out).mono ?_
      rintro e w1 ⟨s1, rfl, hs1, hb1⟩
      have HB1 := hid hb1
      have k1 : (9223372036854775807 < 5 + s1.size) = False := by simp; omega
      have k2 : (9223372036854775807 < 5 + s1.size + 1) = False := by simp; omega
      clear hb1
      go_wp2_with fail
      refine (HI.out k w1 (by omega) (by omega) (Below.on HB.out HB1.out)).mono ?_
      rintro e w2 ⟨s2, rfl, hs2, hb2⟩
      have HB2 := hid (Below.on HB1.out hb2)
      have k3 : (9223372036854775807 < 5 + s1.size + 1 + s2.size) = False := by simp; omega
      have HO2 := hid (HO.out.later HB2.out)
      have HG2 : Hid (w.grownBy w2 (Value.slice (some ⟨g, 0, none⟩) n c).ownBlock) := grownBy_trans HG.out (grownBy_of HB2.out _) (.inl rfl)
      have HO3 : w2.ownsRow W.heap.size 9 1 (.slice (some ⟨g, 0, none⟩) n c) n (R.map Value.string) := by
        have h1 := HO2.out
        unfold OwnT at h1
        rw [HR.out] at h1
        exact h1
      have c0 : w2.cell? ⟨g, k, none⟩ = some (.string (nthT R k)) := by
        rw [HO3.cellAt k (by omega), List.getElem?_map, nthT, List.getElem?_eq_getElem (by have := HR.out; omega)]; rfl
      have f0 := HO3.frozenAt k
      clear HO3
      clear hb2
      go_wp2_with fail
      go_roundg (n - (k + 1))
      case measure => omega
      case rel => exact ⟨k + 1, R.set k _, by omega, rfl, by go_num, by show _ = _; rw [List.length_set]; exact HR.out, (HO2.out.put HR.out.symm k _).1, grownBy_trans HG2.out (HO2.out.put HR.out.symm k _).2 (.inl rfl)⟩
    · obtain rfl : k = n := by omega
      clear hlt hk
      go_wp2_with fail
      refine (HI.out i wr H0.out hi HB.out).mono ?_
      rintro e w1 ⟨s1, rfl, hs1, hb1⟩
      have HB1 := hid hb1
      have HO1 := hid (HO.out.later hb1)
      have k1 : (9223372036854775807 < 4 + s1.size) = False := by simp; omega
      clear hb1
      go_wp2_with fail
      refine (grown_is HO1.out _ (by have := HR.out; omega) (by have h1 := HB.out.size; have h2 := HB1.out.size; omega)).mono ?_
      rintro e w2 ⟨v1, rfl, hL1⟩
      have HL1 := hid hL1
      clear hL1
      obtain ⟨T1, hT1⟩ : ∃ T1, T1 = List.replicate 70 ((⟨#[111, 110, 101, 32]⟩ : ByteArray) ++ s1) := ⟨_, rfl⟩
      rw [← hT1] at HL1
      have hl1 : T1.length = 70 := by rw [hT1, List.length_replicate]
      have HT1 := hid hl1
      obtain ⟨g1, c1, e1, hc1⟩ := HL1.out.own.block (by rw [List.length_append]; omega)
      rw [List.length_append, HR.out, hl1] at e1 hc1
      subst e1
      clear hT1 hl1
      go_wp2_with fail
      refine (HI.out i w2 H0.out hi (HBL.out _ (grownBy_trans HG.out (grownBy_trans (grownBy_of HB1.out _) HL1.out.gr (.inl rfl)) (.inl rfl)))).mono ?_
      rintro e w3 ⟨s3, rfl, hs3, hb3⟩
      have HB3 := hid hb3
      have k3 : (9223372036854775807 < 4 + s3.size) = False := by simp; omega
      clear hb3
      go_wp2_with fail
      refine (grown_is (HL1.out.old.later HB3.out) _ (by have := HR.out; omega) (by have h1 := HB.out.size; have h2 := HB1.out.size; have h3 := HB3.out.size; have h4 := HL1.out.gr.size; omega)).mono ?_
      rintro e w4 ⟨v2, rfl, hL2⟩
      have HL2 := hid hL2
      clear hL2
      obtain ⟨T2, hT2⟩ : ∃ T2, T2 = List.replicate 70 ((⟨#[116, 119, 111, 32]⟩ : ByteArray) ++ s3) := ⟨_, rfl⟩
      rw [← hT2] at HL2
      have hl2 : T2.length = 70 := by rw [hT2, List.length_replicate]
      have HT2 := hid hl2
      obtain ⟨a2, c2, e2, hc2⟩ := HL2.out.own.slice
      rw [List.length_append, HR.out, hl2] at e2
      subst e2
      clear hT2 hl2 hc2
      have HG4 : Hid (w.grownBy w4 (Value.slice a k c).ownBlock) := grownBy_trans HG.out (grownBy_trans (grownBy_of HB1.out _) (grownBy_trans HL1.out.gr (grownBy_trans (grownBy_of HB3.out _) HL2.out.gr (.inl rfl)) (.inl rfl)) (.inl rfl)) (.inl rfl)
      have HV4 : Hid (OwnT w4 W.heap.size (.slice a k c) R) := HL2.out.old
      have H14 : Hid (OwnT w4 W.heap.size (.slice (some ⟨g1, 0, none⟩) k c1) R) := by
        have h1 := one_head (HL1.out.old.later HB3.out) (HL1.out.own.later HB3.out) HL2.out.old HL2.out.gr
        rw [HR.out] at h1
        exact h1
      have H24 : Hid (OwnT w4 W.heap.size (.slice a2 (k + 70) c2) (R ++ T2)) := HL2.out.own
      have hcap : k ≤ c1 := by omega
      have K1 : Hid (∀ W', Below w4.heap.size w4 W' → Calls Tryd.prog 13 #[.slice a k c] W' fun e w' => ∃ a5 c5, e = .returned (.slice a5 k c5) ∧ Hid (OwnT w' W'.heap.size (.slice a5 k c5) R) ∧ Below W'.heap.size W' w') := fun W' hb => kept_at HR.out.symm (HV4.out.later hb) (by have := HR.out; omega)
      have K2 : Hid (∀ W', Below w4.heap.size w4 W' → Calls Tryd.prog 13 #[.slice a2 (k + 70) c2] W' fun e w' => ∃ a5 c5, e = .returned (.slice a5 (k + 70) c5) ∧ Hid (OwnT w' W'.heap.size (.slice a5 (k + 70) c5) (R ++ T2)) ∧ Below W'.heap.size W' w') := fun W' hb => kept_at (by rw [List.length_append, HR.out, HT2.out]) (H24.out.later hb) (by rw [List.length_append, HT2.out]; have := HR.out; omega)
      clear HL1 HL2 hc1 HB1 HB3 HO1 HG HO
      go_wp2_with fail
      refine (K1.out w4 (Below.refl _ _)).mono ?_
      rintro e w5 ⟨a5, c5, rfl, ho5, hb5⟩
      have HB5 := hid hb5
      clear hb5
      go_wp2_with fail
      obtain ⟨w6, hw6⟩ : ∃ w6, w6 = w5.alloc (.cells #[.slice a k c, .slice a5 k c5] 44) := ⟨_, rfl⟩
      obtain ⟨b6, hb6⟩ : ∃ b6, b6 = w5.heap.size := ⟨_, rfl⟩
      have HSZ : Hid (w.heap.size ≤ w5.heap.size) := Nat.le_trans HG4.out.size HB5.out.size
      have HW6 : Hid (Below w4.heap.size w4 w6) := by show Below _ _ _; rw [hw6]; exact Below.al HB5.out _
      have HO6 : Hid (OwnW2 w6 w.heap.size (.slice (some ⟨b6, 0, none⟩) 1 1) [(.slice a k c, .slice a5 k c5)]) := by show OwnW2 _ _ _ _; rw [hw6, hb6]; exact ownW2_one _ _ _ HSZ.out
      have H56 : Hid (OwnT w6 0 (.slice a5 k c5) R) := by show OwnT _ _ _ _; rw [hw6]; exact (ho5.out.later (Below.al (Below.refl _ _) _)).zero
      have HBB : Hid (∀ W', Below w6.heap.size w6 W' → w.heap.size ≤ W'.heap.size) := fun W' hb => by
        have h1 := hb.size; have h2 := HW6.out.size; have h3 := HG4.out.size; omega
      have H5L : Hid (∀ j, (Value.slice a5 k c5).ownBlock = some j → j < b6) := fun j hj => by rw [hb6]; exact (World.ownsRow.lt ho5.out j hj).2
      have HB6 : Hid (w4.heap.size ≤ b6 ∧ b6 < w6.heap.size) := by show _ ∧ _; rw [hw6, hb6, World.size_alloc]; exact ⟨HB5.out.size, by omega⟩
      rw [← hw6, ← hb6]
      clear hw6 hb6 HSZ ho5
      obtain ⟨i0, hi0, hz0, hz1, hz2⟩ := info_ofI infoHeld
      go_region_held3 (fun w' => Below w4.heap.size w4 w')
        (((repeat (first | exact Below.refl _ _ | assumption | refine Below.drew ?_ | refine Below.al ?_ _ | refine Below.setCell ?_ (by first | exact Nat.le_refl _ | (simp; omega) | (simp; done)) _ | refine Below.on ?_ (by assumption)))))
        (first
          | (go_at_call 13; refine (K1.out _ (by (repeat (first | exact Below.refl _ _ | assumption | refine Below.drew ?_ | refine Below.al ?_ _ | refine Below.setCell ?_ (by first | exact Nat.le_refl _ | (simp; omega) | (simp; done)) _ | refine Below.on ?_ (by assumption))))).mono ?_; rintro e w7 ⟨a7, c7, rfl, ho7, hb7⟩)
          | (refine step_append_lies _ (by rfl) _ _ 31 (by rfl) w.heap.size 44 i0 _ 2 48 Tryd.underlying31 hi0 hz0 hz1 hz2 rfl (by decide) (.slice (some ⟨b6, 0, none⟩) 1 1) 1 _ (by simp [Act.eval]) (HO6.out.later (by (repeat (first | exact Below.refl _ _ | assumption | refine Below.drew ?_ | refine Below.al ?_ _ | refine Below.setCell ?_ (by first | exact Nat.le_refl _ | (simp; omega) | (simp; done)) _ | refine Below.on ?_ (by assumption))))) ⟨w7.heap.size, 0, none⟩ 1 1 [.slice (some ⟨g1, 0, none⟩) k c1, .slice a7 k c7] (by simp [Act.eval]) rfl (news2 _ _ _ _) ones2 (by decide) (by decide) (by decide) (HBB.out _ (by (repeat (first | exact Below.refl _ _ | assumption | refine Below.drew ?_ | refine Below.al ?_ _ | refine Below.setCell ?_ (by first | exact Nat.le_refl _ | (simp; omega) | (simp; done)) _ | refine Below.on ?_ (by assumption))))) _ rfl ?_; intro g8 c8 w8 hown8 hg8 hat8 hlt8; have hb8 : Below w4.heap.size w4 w8 := grown_below hg8 (by (repeat (first | exact Below.refl _ _ | assumption | refine Below.drew ?_ | refine Below.al ?_ _ | refine Below.setCell ?_ (by first | exact Nat.le_refl _ | (simp; omega) | (simp; done)) _ | refine Below.on ?_ (by assumption)))) (Nat.le_refl _) (fun j hj => by have h1 := HB6.out.1; have h2 : b6 = j := (by simpa [Value.ownBlock] using hj); omega)))
      have HO8 : Hid (OwnW2 w8 w.heap.size (.slice (some ⟨g8, 0, none⟩) 2 c8) [(.slice a k c, .slice a5 k c5), (.slice (some ⟨g1, 0, none⟩) k c1, .slice a7 k c7)]) := hown8
      have hb67 : Below w6.heap.size w6 (w7.alloc (.cells #[.slice (some ⟨g1, 0, none⟩) k c1, .slice a7 k c7] 44)) := Below.al (Below.on (Below.drew (Below.refl _ _)) hb7) _
      have H58 : Hid (OwnT w8 0 (.slice a5 k c5) R) := World.ownsRow.kept (H56.out.later hb67) hg8 (.inr fun e => by have h1 := H5L.out b6 e; omega)
      have H78 : Hid (OwnT w8 0 (.slice a7 k c7) R) := World.ownsRow.kept (ho7.out.zero.later (Below.al (Below.refl _ _) _)) hg8 (.inr fun e => by
        have h1 := (World.ownsRow.lt ho7.out b6 e).1
        have h2 := HB6.out.2
        have h3 : w6.drew.heap.size = w6.heap.size := rfl
        omega)
      have HB8 := hid hb8
      have HG8 : Hid (w4.heap.size ≤ g8) := by
        show _ ≤ _
        rcases hat8 with e | e
        · have h1 := HB6.out.1; have h2 : b6 = g8 := (by simpa [Value.ownBlock] using e); omega
        · have h1 := hb67.size; have h2 := HW6.out.size; omega
      have HBB8 : Hid (w.heap.size ≤ w8.heap.size) := Nat.le_trans (HBB.out _ hb67) hg8.size
      clear hown8 hb67 hg8 hat8 hlt8 ho7 hb7 hb8 HO6 H56 H5L HB6 HBB K1 HW6
      go_wp2_with fail
      refine (K2.out w8 HB8.out).mono ?_
      rintro e w9 ⟨a9, c9, rfl, ho9, hb9⟩
      have HB9 := hid hb9
      clear hb9
      go_wp2_with (at_builtin; refine append_W2 rfl _ _ rfl (.slice a2 (k + 70) c2, .slice a9 (k + 70) c9) rfl (HO8.out.later (Below.al HB9.out _)) rfl (new2v _ _ _ _).1 (new2v _ _ _ _).2 rfl rfl (by simp) (by have h1 := HBB8.out; have h2 := HB9.out.size; simp; omega) ?_; intro va w10 ho10 hg10 _)
      go_ret
      have hg : (w9.alloc (.cells #[.slice a2 (k + 70) c2, .slice a9 (k + 70) c9] 44)).grownBy w10 (Value.slice (some ⟨g8, 0, none⟩) 2 c8).ownBlock := hg10
      have hb9 : Below w8.heap.size w8 (w9.alloc (.cells #[.slice a2 (k + 70) c2, .slice a9 (k + 70) c9] 44)) := Below.al HB9.out _
      have ho := HO8.out.later hb9
      have H4 : ∀ v U, OwnT w4 W.heap.size v U → OwnT w10 0 v U := fun v U h => by
        have h1 := ((h.zero.later HB8.out).later hb9)
        exact World.ownsRow.kept h1 hg (rows_apart h1 ho (by decide))
      have H8 : ∀ v U, OwnT w8 0 v U → OwnT w10 0 v U := fun v U h => by
        have h1 := h.later hb9
        exact World.ownsRow.kept h1 hg (rows_apart h1 ho (by decide))
      have H9 : OwnT w10 0 (.slice a9 (k + 70) c9) (R ++ T2) := by
        have h1 := ho9.out.zero.later (Below.al (Below.refl _ _) (.cells #[.slice a2 (k + 70) c2, .slice a9 (k + 70) c9] 44))
        exact World.ownsRow.kept h1 hg (rows_apart h1 ho (by decide))
      refine ⟨_, _, _, _, rfl, ho10, ?_, ?_⟩
      · intro e he
        have hr := HR.out
        simp at he
        rcases he with rfl | rfl | rfl
        · exact ⟨R, by omega, H4 _ _ HV4.out, H8 _ _ H58.out⟩
        · exact ⟨R, by omega, H4 _ _ H14.out, H8 _ _ H78.out⟩
        · exact ⟨R ++ T2, by rw [List.length_append, HT2.out]; omega, H4 _ _ H24.out, H9⟩
      · refine grownBy_trans HG4.out (grownBy_of (grown_below hg (Below.on HB8.out hb9) (Nat.le_refl _) fun j hj => ?_) _) (.inl rfl)
        have h1 := HG8.out
        have h2 : g8 = j := (by simpa [Value.ownBlock] using hj)
        omega

end Go.Proofs.YtdllhkjdckcgmaaDoor
