import Derived.Test.YtfafkohghgliaaaDoorTuPE
import Derived.Test.YtfafkohghgliaaaDoorTuRoom
import Derived.Test.YtfafkohghgliaaaDoorTuJoin
import Derived.Test.YtfafkohghgliaaaDoorTuLSm
/- The law: TupleJoins. -/
namespace Go.Proofs.YtfafkohghgliaaaDoor.Tu
open Go.RowKit Go.Sort Go.Proofs.YtfafkohghgliaaaDoor
set_option linter.unusedVariables false
set_option linter.unusedSectionVars false
variable [DecidableEq Vl]

set_option maxHeartbeats 4000000 in
theorem law_joins {a b : Option Addr} {c d : Nat} {xs ys : List Vl} {w : World} (h : RowV w a xs) (h2 : RowV w b ys) (ht : Tp xs) (ht2 : Tp ys) (hl : xs.length ≤ 1048576) (hl2 : ys.length ≤ 1048576) (he : (encL xs).length ≤ 2097152) (he2 : (encL ys).length ≤ 2097152) :
    Calls Tryd.prog 3 #[.agg #[.slice a xs.length c, .slice b ys.length d]] w fun e w' => e = .returned (.bool true) ∧ Below w.heap.size w w' := by
  have HR := hid (show RowV w a xs ∧ RowV w b ys from ⟨h, h2⟩)
  have htj := tp_join ht ht2 hl hl2 he he2
  have HO1 : ∀ w', Below w.heap.size w w' → Hid (Calls Tryd.prog 8 #[.slice a xs.length c] w' fun e w'' => ∃ g, e = .returned (.slice (some ⟨g, 0, none⟩) xs.length (xs.length + 1)) ∧ RowV w'' (some ⟨g, 0, none⟩) xs ∧ Below w'.heap.size w' w'') := fun w' hb => hid ((own_is (HR.out.1.later hb) (by omega)).mono (by rintro e w'' ⟨g, rfl, hr, -, -, hb2⟩; exact ⟨g, rfl, hr.own, hb2⟩))
  have HO2 : ∀ w', Below w.heap.size w w' → Hid (Calls Tryd.prog 8 #[.slice b ys.length d] w' fun e w'' => ∃ g, e = .returned (.slice (some ⟨g, 0, none⟩) ys.length (ys.length + 1)) ∧ RowV w'' (some ⟨g, 0, none⟩) ys ∧ Below w'.heap.size w' w'') := fun w' hb => hid ((own_is (HR.out.2.later hb) (by omega)).mono (by rintro e w'' ⟨g, rfl, hr, -, -, hb2⟩; exact ⟨g, rfl, hr.own, hb2⟩))
  have HE1 : ∀ w' g, RowV w' (some ⟨g, 0, none⟩) xs → Hid (Calls Tryd.prog 7 #[.slice (some ⟨g, 0, none⟩) xs.length (xs.length + 1)] w' fun e w'' => e = .returned (.tuple #[.string (encS xs), .int .i64 (vE (okT xs))]) ∧ Below w'.heap.size w' w'') := fun w' g r => hid (encode_is r ht)
  have HE2 : ∀ w' g, RowV w' (some ⟨g, 0, none⟩) ys → Hid (Calls Tryd.prog 7 #[.slice (some ⟨g, 0, none⟩) ys.length (ys.length + 1)] w' fun e w'' => e = .returned (.tuple #[.string (encS ys), .int .i64 (vE (okT ys))]) ∧ Below w'.heap.size w' w'') := fun w' g r => hid (encode_is r ht2)
  have HJ : ∀ w', Below w.heap.size w w' → Hid (Calls Tryd.prog 9 #[.slice a xs.length c, .slice b ys.length d] w' fun e w'' => ∃ p q, e = .returned (.slice p (xs ++ ys).length q) ∧ RowV w'' p (xs ++ ys) ∧ Below w'.heap.size w' w'') := fun w' hb => hid ((joined_is (HR.out.1.later hb) (HR.out.2.later hb) (by omega)).mono (by rintro e w'' ⟨v, rfl, ho, hb2⟩; obtain ⟨p, q, rfl⟩ := ho.slice; exact ⟨p, q, rfl, ho.row, hb2⟩))
  have HEJ : ∀ w' p q, RowV w' p (xs ++ ys) → Hid (Calls Tryd.prog 7 #[.slice p (xs ++ ys).length q] w' fun e w'' => e = .returned (.tuple #[.string (encS (xs ++ ys)), .int .i64 (vE (okT (xs ++ ys)))]) ∧ Below w'.heap.size w' w'') := fun w' p q r => hid (encode_is r htj)
  have HEN : ∀ w' g, RowV w' (some ⟨g, 0, none⟩) [vNull] → Hid (Calls Tryd.prog 7 #[.slice (some ⟨g, 0, none⟩) 1 1] w' fun e w'' => e = .returned (.tuple #[.string ⟨#[1]⟩, .int .i64 0]) ∧ Below w'.heap.size w' w'') := fun w' g r => hid (encode_is (c := 1) r one_tp)
  have hsz : okT xs = true → okT ys = true → ¬ 9223372036854775807 < (encS xs).size + (encS ys).size := fun h1 h2 => by
    rw [encS_yes h1, encS_yes h2, ofNats_size, ofNats_size]; omega
  have HSZ := hid hsz
  obtain ⟨u1, hu1⟩ : ∃ u, okT xs = u := ⟨_, rfl⟩
  obtain ⟨u2, hu2⟩ : ∃ u, okT ys = u := ⟨_, rfl⟩
  obtain ⟨s1, hs1⟩ : ∃ s, s = encS xs := ⟨_, rfl⟩
  obtain ⟨s2, hs2⟩ : ∃ s, s = encS ys := ⟨_, rfl⟩
  obtain ⟨s3, hs3⟩ : ∃ s, s = encS (xs ++ ys) := ⟨_, rfl⟩
  have h3 : u1 = true → u2 = true → s3 = s1 ++ s2 := fun e1 e2 => by
    rw [hs1, hs2, hs3, encS_yes (hu1.trans e1), encS_yes (hu2.trans e2), encS_yes (by rw [okT_app, hu1, hu2, e1, e2]; rfl), ofNats_append, encL_append]
  have h4 : (u1 && u2) = false → s3 = ⟨#[]⟩ := fun e => by rw [hs3, encS_no (by rw [okT_app, hu1, hu2, e])]
  have hj : okT (xs ++ ys) = (u1 && u2) := by rw [okT_app, hu1, hu2]
  have hz : u1 = true → u2 = true → ¬ 9223372036854775807 < s1.size + s2.size := fun e1 e2 => by rw [hs1, hs2]; exact HSZ.out (hu1.trans e1) (hu2.trans e2)
  have H3 := hid h3
  have H4 := hid h4
  have HZ := hid hz
  rw [hu1, ← hs1] at HE1
  rw [hu2, ← hs2] at HE2
  rw [hj, ← hs3] at HEJ
  obtain ⟨n, hn⟩ : ∃ n, n = xs.length := ⟨_, rfl⟩
  obtain ⟨m, hm⟩ : ∃ m, m = ys.length := ⟨_, rfl⟩
  obtain ⟨nm, hnm⟩ : ∃ nm, nm = (xs ++ ys).length := ⟨_, rfl⟩
  rw [← hn] at HO1 HE1 HJ hl ⊢
  rw [← hm] at HO2 HE2 HJ hl2 ⊢
  rw [← hnm] at HJ HEJ
  clear h h2 ht ht2 htj hn hm hnm hsz HSZ hu1 hu2 hs1 hs2 hs3 h3 h4 hj hz he he2
  go_enter Tryd.func3, Tryd.ntmps3
  have hbx := World.alloc_heap_new w (.cells #[.slice a n c, .slice b m d] 24)
  have k0 : (w.alloc (.cells #[.slice a n c, .slice b m d] 24)).cell? ⟨w.heap.size, 0, none⟩ = some (.slice a n c) := by simp only [World.cell?, hbx]; rfl
  have k1 : (w.alloc (.cells #[.slice a n c, .slice b m d] 24)).cell? ⟨w.heap.size, 1, none⟩ = some (.slice b m d) := by simp only [World.cell?, hbx]; rfl
  have hW0 : Below w.heap.size w (w.alloc (.cells #[.slice a n c, .slice b m d] 24)) := Below.al (Below.refl _ _) _
  clear hbx
  go_wp2_with fail
  refine (HO1 _ hW0).out.mono ?_
  rintro e w1 ⟨g1, rfl, hr1, hb1⟩
  have hW1 : Below w.heap.size w w1 := Below.on hW0 hb1
  have k0 := cell_later hb1 k0
  have k1 := cell_later hb1 k1
  clear hb1
  go_wp2_with fail
  refine (HE1 _ _ hr1).out.mono ?_
  rintro e w2 ⟨rfl, hb2⟩
  have hW2 : Below w.heap.size w w2 := Below.on hW1 hb2
  have k0 := cell_later hb2 k0
  have k1 := cell_later hb2 k1
  clear hb2 hr1
  go_wp2_with fail
  refine (HO2 _ hW2).out.mono ?_
  rintro e w3 ⟨g3, rfl, hr3, hb3⟩
  have hW3 : Below w.heap.size w w3 := Below.on hW2 hb3
  have k0 := cell_later hb3 k0
  have k1 := cell_later hb3 k1
  clear hb3
  go_wp2_with fail
  refine (HE2 _ _ hr3).out.mono ?_
  rintro e w4 ⟨rfl, hb4⟩
  have hW4 : Below w.heap.size w w4 := Below.on hW3 hb4
  have k0 := cell_later hb4 k0
  have k1 := cell_later hb4 k1
  clear hb4 hr3
  go_wp2_with fail
  refine (HJ _ hW4).out.mono ?_
  rintro e w5 ⟨p, q, rfl, hr5, hb5⟩
  have hW5 : Below w.heap.size w w5 := Below.on hW4 hb5
  clear hb5
  go_wp2_with fail
  refine (HEJ _ _ _ hr5).out.mono ?_
  rintro e w6 ⟨rfl, hb6⟩
  have HW6 := hid (Below.on hW5 hb6)
  clear hb6 hr5 hW1 hW2 hW3 hW4 hW5 hW0 k0 k1
  cases u1 <;> cases u2
  case true.true =>
    have hq : (s3.toList == (s1 ++ s2).toList) = true := by rw [H3.out rfl rfl]; simp
    have hr := HZ.out rfl rfl
    go_wp2_with (go_at_call 7; refine (HEN _ _ (one_row _)).out.mono ?_; rintro e w7 ⟨rfl, hb7⟩; simp only [vE])
    go_ret
    exact ⟨rfl, Below.on (Below.al HW6.out _) hb7⟩
  all_goals
    have hs3 := H4.out rfl
    subst hs3
    go_wp2_with (go_at_call 7; refine (HEN _ _ (one_row _)).out.mono ?_; rintro e w7 ⟨rfl, hb7⟩; simp only [vE])
    go_ret
    exact ⟨rfl, Below.on (Below.al HW6.out _) hb7⟩
end Go.Proofs.YtfafkohghgliaaaDoor.Tu
