import Derived.Test.YtfafkohghgliaabDoorTuPE
import Derived.Test.YtfafkohghgliaabDoorTuPC
import Derived.Test.YtfafkohghgliaabDoorTuRoom
import Derived.Test.YtfafkohghgliaabDoorTuLSm
/- The law: TupleOrder. -/
namespace Go.Proofs.YtfafkohghgliaabDoor.Tu
open Go.RowKit Go.Sort Go.Proofs.YtfafkohghgliaabDoor
set_option linter.unusedVariables false
set_option linter.unusedSectionVars false
variable [DecidableEq Vl]

/-- what is asked of two tuples' comparison -/
structure Cm (xs ys : List Vl) (K : Int) (l1 l2 q s : Bool) : Prop where
  k : cmpT xs ys = K
  a : Op.bytesLess (encS xs).toList (encS ys).toList = l1
  b : Op.bytesLess (encS ys).toList (encS xs).toList = l2
  e : ((encS xs).toList == (encS ys).toList) = q
  m : decide (xs = ys) = s
theorem cm_of {xs ys : List Vl} (h1 : okT xs = true) (h2 : okT ys = true) (k1 : OkT xs) (k2 : OkT ys) : Cm xs ys (-1) true false false false ∨ Cm xs ys 0 false false true true ∨ Cm xs ys 1 false true false false := by
  have c1 := lt_enc h1 h2 k1 k2
  have c2 := lt_enc h2 h1 k2 k1
  have b1 := encL_b8 k1
  have b2 := encL_b8 k2
  have e1 := encS_yes h1
  have e2 := encS_yes h2
  have hn := cmp_neg xs ys
  rcases cmp_cases xs ys with h | h | h
  · refine .inl ⟨h, by rw [e1, e2, bless b1 b2, c1, h]; rfl, by rw [e1, e2, bless b2 b1, c2, hn, h]; rfl, ?_, ?_⟩
    · rw [e1, e2, beq_nats b1 b2, decide_eq_false_iff_not, eq_enc h1 h2 k1 k2, h]; decide
    · rw [decide_eq_false_iff_not]; intro e; subst e; rw [cmp_refl] at h; omega
  · refine .inr (.inl ⟨h, by rw [e1, e2, bless b1 b2, c1, h]; rfl, by rw [e1, e2, bless b2 b1, c2, hn, h]; rfl, ?_, ?_⟩)
    · rw [e1, e2, beq_nats b1 b2, decide_eq_true_eq, eq_enc h1 h2 k1 k2]; exact h
    · rw [decide_eq_true_eq]; exact cmp_eq h
  · refine .inr (.inr ⟨h, by rw [e1, e2, bless b1 b2, c1, h]; rfl, by rw [e1, e2, bless b2 b1, c2, hn, h]; rfl, ?_, ?_⟩)
    · rw [e1, e2, beq_nats b1 b2, decide_eq_false_iff_not, eq_enc h1 h2 k1 k2, h]; decide
    · rw [decide_eq_false_iff_not]; intro e; subst e; rw [cmp_refl] at h; omega
set_option maxHeartbeats 4000000 in
set_option maxRecDepth 100000 in
theorem law_order {a b : Option Addr} {c d : Nat} {xs ys : List Vl} {w : World} (h : RowV w a xs) (h2 : RowV w b ys) (ht : Tp xs) (ht2 : Tp ys) (hl : xs.length ≤ 1048576) (hl2 : ys.length ≤ 1048576) (he : (encL xs).length ≤ 2097152) (he2 : (encL ys).length ≤ 2097152) :
    Calls Tryd.prog 3 #[.agg #[.slice a xs.length c, .slice b ys.length d]] w fun e w' => e = .returned (.bool true) ∧ Below w.heap.size w w' := by
  have HR := hid (show RowV w a xs ∧ RowV w b ys from ⟨h, h2⟩)
  have HO1 : ∀ w', Below w.heap.size w w' → Hid (Calls Tryd.prog 9 #[.slice a xs.length c] w' fun e w'' => ∃ g, e = .returned (.slice (some ⟨g, 0, none⟩) xs.length (xs.length + 1)) ∧ RowV w'' (some ⟨g, 0, none⟩) xs ∧ Below w'.heap.size w' w'') := fun w' hb => hid ((own_is (HR.out.1.later hb) (by omega)).mono (by rintro e w'' ⟨g, rfl, hr, -, -, hb2⟩; exact ⟨g, rfl, hr.own, hb2⟩))
  have HO2 : ∀ w', Below w.heap.size w w' → Hid (Calls Tryd.prog 9 #[.slice b ys.length d] w' fun e w'' => ∃ g, e = .returned (.slice (some ⟨g, 0, none⟩) ys.length (ys.length + 1)) ∧ RowV w'' (some ⟨g, 0, none⟩) ys ∧ Below w'.heap.size w' w'') := fun w' hb => hid ((own_is (HR.out.2.later hb) (by omega)).mono (by rintro e w'' ⟨g, rfl, hr, -, -, hb2⟩; exact ⟨g, rfl, hr.own, hb2⟩))
  have HE1 : ∀ w' g, RowV w' (some ⟨g, 0, none⟩) xs → Hid (Calls Tryd.prog 8 #[.slice (some ⟨g, 0, none⟩) xs.length (xs.length + 1)] w' fun e w'' => e = .returned (.tuple #[.string (encS xs), .int .i64 (vE (okT xs))]) ∧ Below w'.heap.size w' w'') := fun w' g r => hid (encode_is r ht)
  have HE2 : ∀ w' g, RowV w' (some ⟨g, 0, none⟩) ys → Hid (Calls Tryd.prog 8 #[.slice (some ⟨g, 0, none⟩) ys.length (ys.length + 1)] w' fun e w'' => e = .returned (.tuple #[.string (encS ys), .int .i64 (vE (okT ys))]) ∧ Below w'.heap.size w' w'') := fun w' g r => hid (encode_is r ht2)
  have HV1 : ∀ w', Below w.heap.size w w' → Hid (Calls Tryd.prog 11 #[.slice a xs.length c] w' fun e w'' => e = .returned (.int .i64 (vE (okT xs))) ∧ Below w'.heap.size w' w'') := fun w' hb => hid (refvalid_is (HR.out.1.later hb) ht.ok ht.le)
  have HV2 : ∀ w', Below w.heap.size w w' → Hid (Calls Tryd.prog 11 #[.slice b ys.length d] w' fun e w'' => e = .returned (.int .i64 (vE (okT ys))) ∧ Below w'.heap.size w' w'') := fun w' hb => hid (refvalid_is (HR.out.2.later hb) ht2.ok ht2.le)
  have HC : ∀ w' g1 g2, RowV w' (some ⟨g1, 0, none⟩) xs → RowV w' (some ⟨g2, 0, none⟩) ys → Hid (Calls Tryd.prog 10 #[.slice (some ⟨g1, 0, none⟩) xs.length (xs.length + 1), .slice (some ⟨g2, 0, none⟩) ys.length (ys.length + 1)] w' fun e w'' => e = .returned (.int .i64 (cmpT xs ys)) ∧ Below w'.heap.size w' w'') := fun w' g1 g2 r1 r2 => hid (compare_is r1 r2 ht ht2)
  have HCN : ∀ w' g, RowV w' (some ⟨g, 0, none⟩) [vNull] → Hid (Calls Tryd.prog 10 #[.slice (some ⟨g, 0, none⟩) 1 1, .slice none 0 0] w' fun e w'' => e = .returned (.int .i64 1) ∧ Below w'.heap.size w' w'') := fun w' g r => hid (compare_is (c := 1) (d := 0) (ys := []) r (RowV.nil _ _) one_tp ⟨OkT.nil, by simp, by simp, by simp [encL]⟩)
  have HSM : ∀ w', Below w.heap.size w w' → Hid (Calls Tryd.prog 12 #[.slice a xs.length c, .slice b ys.length d] w' fun e w'' => e = .returned (.bool (decide (xs = ys))) ∧ Below w'.heap.size w' w'') := fun w' hb => hid (refsame_is rfl (HR.out.1.later hb) (HR.out.2.later hb) ht.ok ht2.ok ht.le ht2.le)
  have HCM := hid (show okT xs = true → okT ys = true → _ from fun h1 h2 => cm_of h1 h2 ht.ok ht2.ok)
  obtain ⟨u1, hu1⟩ : ∃ u, okT xs = u := ⟨_, rfl⟩
  obtain ⟨u2, hu2⟩ : ∃ u, okT ys = u := ⟨_, rfl⟩
  have HU := hid (show okT xs = u1 ∧ okT ys = u2 from ⟨hu1, hu2⟩)
  rw [hu1] at HE1 HV1
  rw [hu2] at HE2 HV2
  obtain ⟨s1, hs1⟩ : ∃ s, s = encS xs := ⟨_, rfl⟩
  obtain ⟨s2, hs2⟩ : ∃ s, s = encS ys := ⟨_, rfl⟩
  have HS := hid (show s1 = encS xs ∧ s2 = encS ys from ⟨hs1, hs2⟩)
  rw [← hs1] at HE1
  rw [← hs2] at HE2
  obtain ⟨n, hn⟩ : ∃ n, n = xs.length := ⟨_, rfl⟩
  obtain ⟨m, hm⟩ : ∃ m, m = ys.length := ⟨_, rfl⟩
  rw [← hn] at HO1 HE1 HV1 HC HSM hl ⊢
  rw [← hm] at HO2 HE2 HV2 HC HSM hl2 ⊢
  clear h h2 ht ht2 hn hm hu1 hu2 hs1 hs2 he he2
  go_enter Tryd.func3, Tryd.ntmps3
  have hbx := World.alloc_heap_new w (.cells #[.slice a n c, .slice b m d] 24)
  have k0 : (w.alloc (.cells #[.slice a n c, .slice b m d] 24)).cell? ⟨w.heap.size, 0, none⟩ = some (.slice a n c) := by simp only [World.cell?, hbx]; rfl
  have k1 : (w.alloc (.cells #[.slice a n c, .slice b m d] 24)).cell? ⟨w.heap.size, 1, none⟩ = some (.slice b m d) := by simp only [World.cell?, hbx]; rfl
  have hW0 : Below w.heap.size w (w.alloc (.cells #[.slice a n c, .slice b m d] 24)) := Below.al (Below.refl _ _) _
  clear hbx
  go_wp2_with fail
  refine (HO1 _ hW0).out.mono ?_
  rintro e w1 ⟨g1, rfl, hr1, hb1⟩
  have hW1 : Below w.heap.size w w1 := Below.on hW0 hb1
  have k0 := cell_later hb1 k0
  have k1 := cell_later hb1 k1
  clear hb1
  go_wp2_with fail
  refine (HE1 _ _ hr1).out.mono ?_
  rintro e w2 ⟨rfl, hb2⟩
  have hW2 : Below w.heap.size w w2 := Below.on hW1 hb2
  have k0 := cell_later hb2 k0
  have k1 := cell_later hb2 k1
  clear hb2 hr1
  go_wp2_with fail
  refine (HO2 _ hW2).out.mono ?_
  rintro e w3 ⟨g3, rfl, hr3, hb3⟩
  have hW3 : Below w.heap.size w w3 := Below.on hW2 hb3
  have k0 := cell_later hb3 k0
  have k1 := cell_later hb3 k1
  clear hb3
  go_wp2_with fail
  refine (HE2 _ _ hr3).out.mono ?_
  rintro e w4 ⟨rfl, hb4⟩
  have hW4 : Below w.heap.size w w4 := Below.on hW3 hb4
  have k0 := cell_later hb4 k0
  have k1 := cell_later hb4 k1
  clear hb4 hr3
  go_wp2_with fail
  refine (HCN _ _ (one_row _)).out.mono ?_
  rintro e w5 ⟨rfl, hb5⟩
  have hW5 : Below w.heap.size w w5 := Below.on (Below.al hW4 _) hb5
  have hb5' : Below w4.heap.size w4 w5 := Below.on (Below.al (Below.refl _ _) _) hb5
  have k0 := cell_later hb5' k0
  have k1 := cell_later hb5' k1
  clear hb5 hb5' hW0 hW1 hW2 hW3 hW4
  cases u1 with
  | false =>
    go_wp2_with (go_at_call 11; refine (HV1 _ hW5).out.mono ?_; rintro e w6 ⟨rfl, hb6⟩; simp only [vE])
    all_goals
      go_ret
      exact ⟨rfl, Below.on hW5 hb6⟩
  | true =>
    go_wp2_with fail
    refine (HV1 _ hW5).out.mono ?_
    rintro e w6 ⟨rfl, hb6⟩
    simp only [vE]
    have hW6 : Below w.heap.size w w6 := Below.on hW5 hb6
    have k0 := cell_later hb6 k0
    have k1 := cell_later hb6 k1
    clear hb6 hW5
    cases u2 with
    | false =>
      go_wp2_with (go_at_call 11; refine (HV2 _ hW6).out.mono ?_; rintro e w7 ⟨rfl, hb7⟩; simp only [vE])
      go_ret
      exact ⟨rfl, Below.on hW6 hb7⟩
    | true =>
      go_wp2_with (go_at_call 11; refine (HV2 _ hW6).out.mono ?_; rintro e w7 ⟨rfl, hb7⟩; simp only [vE]; have hW7 : Below w.heap.size w w7 := Below.on hW6 hb7; have k0 := cell_later hb7 k0; have k1 := cell_later hb7 k1; clear hb7)
      go_cut [7] (fun s7 wx => s7 = .int .i64 (cmpT xs ys) ∧ Below w7.heap.size w7 wx)
      case first =>
        go_region_held3 (fun z => z.cell? ⟨w.heap.size, 0, none⟩ = some (.slice a n c) ∧ z.cell? ⟨w.heap.size, 1, none⟩ = some (.slice b m d) ∧ Below w7.heap.size w7 z)
          ((refine (fun (hB : Below w7.heap.size w7 _) => ⟨cell_later hB k0, cell_later hB k1, hB⟩) ?_; (repeat (first | with_reducible exact Below.refl _ _ | with_reducible assumption | with_reducible refine Below.drew ?_ | with_reducible refine Below.al ?_ _ | with_reducible refine Below.setCell ?_ (by first | exact Nat.le_refl _ | (simp; omega) | (simp; done)) _ | with_reducible refine Below.on ?_ (by assumption)))))
          (first
            | (go_at_call 9; first
                | ((with_reducible refine (HO1 _ (Below.on hW7 (by (repeat (first | with_reducible exact Below.refl _ _ | with_reducible assumption | with_reducible refine Below.drew ?_ | with_reducible refine Below.al ?_ _ | with_reducible refine Below.setCell ?_ (by first | exact Nat.le_refl _ | (simp; omega) | (simp; done)) _ | with_reducible refine Below.on ?_ (by assumption)))))).out.mono ?_); rintro e wA ⟨gA, rfl, hrA, hbA⟩)
                | ((with_reducible refine (HO2 _ (Below.on hW7 (by (repeat (first | with_reducible exact Below.refl _ _ | with_reducible assumption | with_reducible refine Below.drew ?_ | with_reducible refine Below.al ?_ _ | with_reducible refine Below.setCell ?_ (by first | exact Nat.le_refl _ | (simp; omega) | (simp; done)) _ | with_reducible refine Below.on ?_ (by assumption)))))).out.mono ?_); rintro e wB ⟨gB, rfl, hrB, hbB⟩))
            | (go_at_call 10; refine (HC _ _ _ (by first | assumption | exact hrA.later (by assumption)) (by first | assumption | exact hrB.later (by assumption))).out.mono ?_; rintro e wC ⟨rfl, hbC⟩))
        all_goals (try go_wp2_with fail)
        all_goals go_meet
        all_goals (refine ⟨rfl, ?_⟩)
        all_goals (repeat (first | with_reducible exact Below.refl _ _ | with_reducible assumption | with_reducible refine Below.drew ?_ | with_reducible refine Below.al ?_ _ | with_reducible refine Below.setCell ?_ (by first | exact Nat.le_refl _ | (simp; omega) | (simp; done)) _ | with_reducible refine Below.on ?_ (by assumption)))
      case rest =>
        obtain ⟨rfl, hb8⟩ := hcut
        have hW8 : Below w.heap.size w wc := Below.on hW7 hb8
        have k0 := cell_later hb8 k0
        have k1 := cell_later hb8 k1
        have HSM2 := HSM _ hW8
        clear hb8
        rcases HCM.out HU.out.1 HU.out.2 with h | h | h
        all_goals
          obtain ⟨hk, ha, hb, hq, hm⟩ := h
          rw [← HS.out.1, ← HS.out.2] at ha hb hq
          rw [hm] at HSM2
          rw [hk]
          clear hk hm
          go_wp2_with (go_at_call 12; refine HSM2.out.mono ?_; rintro e w9 ⟨rfl, hb9⟩)
          go_ret
          exact ⟨rfl, Below.on hW8 hb9⟩
end Go.Proofs.YtfafkohghgliaabDoor.Tu
