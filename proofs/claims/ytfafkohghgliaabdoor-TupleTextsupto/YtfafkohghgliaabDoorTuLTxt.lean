import Derived.Test.YtfafkohghgliaabDoorTuPT
import Derived.Test.YtfafkohghgliaabDoorTuPP
import Derived.Test.YtfafkohghgliaabDoorTuRoom
import Derived.Test.YtfafkohghgliaabDoorTuOvr
/- The law: TupleTexts. -/
namespace Go.Proofs.YtfafkohghgliaabDoor.Tu
open Go.RowKit Go.Sort Go.Proofs.YtfafkohghgliaabDoor Go.Proofs.YtfafkohghgliaabDoor.Rt Go.Proofs.YtfafkohghgliaabDoor.Gt
set_option linter.unusedVariables false
set_option linter.unusedSectionVars false
variable [DecidableEq Vl]

set_option maxHeartbeats 4000000 in
theorem law_texts {a : Option Addr} {c : Nat} {t : List Vl} {w : World} (h : RowV w a t) (k : Tp t) (hn1 : t.length ≤ 1048576) (he : (encL t).length ≤ 2097152) (hv : Vars w) :
    Calls Tryd.prog 6 #[.slice a t.length c] w fun e w' => e = .returned (.bool true) ∧ Below w.heap.size w w' := by
  have HOWN := hid (own_is (c := c) h (by omega))
  have HK := hid k
  have HVW := hid hv
  clear hv
  have HR := hid h
  have hle : (textL t).length ≤ 44040192 := by have := k.txt; omega
  obtain ⟨u, hu⟩ : ∃ u, u = okT t := ⟨_, rfl⟩
  have HU := hid hu
  obtain ⟨n, hn⟩ : ∃ n, n = t.length := ⟨_, rfl⟩
  have HN := hid hn
  rw [← hn] at HOWN hn1 ⊢
  obtain ⟨m, hm⟩ : ∃ m, m = vE (okT t) := ⟨_, rfl⟩
  obtain ⟨s, hs⟩ : ∃ s, s = textS t := ⟨_, rfl⟩
  have HM := hid hm
  have HS := hid hs
  have HRE : ∀ w', Below w.heap.size w w' → Hid (Calls Tryd.prog 22 #[.slice a n c] w' fun e w'' => e = .returned (.tuple #[.string s, .int .i64 m]) ∧ Below w'.heap.size w' w'') := fun w' hb => by
    rw [hm, hs, hn]; exact hid (refText_is (HR.out.later hb) HK.out.ok HK.out.sw HK.out.tl HK.out.le)
  clear hn hm hs h k hu he
  go_enter Tryd.func6, Tryd.ntmps6
  go_wp2_with fail
  refine HOWN.out.mono ?_
  rintro e w1 ⟨g, rfl, hrm, _, hg, hb1⟩
  have HG := hid hg
  have HRM := hid hrm
  have HPE : ∀ w', Below w1.heap.size w1 w' → Hid (Calls Tryd.prog 21 #[.slice (some ⟨g, 0, none⟩) n (n + 1)] w' fun e w'' => e = .returned (.tuple #[.string s, .int .i64 m]) ∧ Below w'.heap.size w' w'') := fun w' hb => by
    rw [HM.out, HS.out, HN.out]; exact hid (text_is (by rw [HN.out] at hrm; exact (hrm.later hb).own) HK.out (HVW.out.pow.later (Below.on hb1 hb)))
  have HL : ∀ w', Below w1.heap.size w1 w' → Hid (Calls Tryd.prog 19 #[.slice (some ⟨g, 0, none⟩) n (n + 1), .slice a n c] w' fun e w'' => e = .returned (.bool true) ∧ Below w'.heap.size w' w'') := fun w' hb => by
    rw [HN.out]; exact hid (left_is (by rw [HN.out] at hrm; exact hrm.later hb) (HR.out.later (Below.on hb1 hb)) HK.out.ok (by have := HK.out.len; omega))
  have HOV : ∀ w', Below w1.heap.size w1 w' → Hid (Calls Tryd.prog 20 #[.slice (some ⟨g, 0, none⟩) n (n + 1)] w' fun e w'' => e = .returned (.tuple #[]) ∧ RowV w'' (some ⟨g, 0, none⟩) (overL n) ∧ Onl (fun k => k = g) w' w'' ∧ w''.heap.size = w'.heap.size) := fun w' hb =>
    hid (over_is (hrm.later hb) (by omega) (by omega))
  clear hrm hg
  have hq : (s.toList == s.toList) = true := by simp
  go_wp2_with (first
    | (go_at_call 21; refine (HPE _ (by (repeat (first | with_reducible exact Below.refl _ _ | with_reducible assumption | with_reducible refine Below.drew ?_ | with_reducible refine Below.al ?_ _ | with_reducible refine Below.setCell ?_ (by first | exact Nat.le_refl _ | (simp; omega) | (simp; done)) _ | with_reducible refine Below.on ?_ (by assumption))))).out.mono ?_; rintro e w2 ⟨rfl, hb⟩)
    | (go_at_call 22; refine (HRE _ (by (repeat (first | with_reducible exact Below.refl _ _ | with_reducible assumption | with_reducible refine Below.drew ?_ | with_reducible refine Below.al ?_ _ | with_reducible refine Below.setCell ?_ (by first | exact Nat.le_refl _ | (simp; omega) | (simp; done)) _ | with_reducible refine Below.on ?_ (by assumption))))).out.mono ?_; rintro e w2 ⟨rfl, hb⟩)
    | (go_at_call 19; refine (HL _ (by (repeat (first | with_reducible exact Below.refl _ _ | with_reducible assumption | with_reducible refine Below.drew ?_ | with_reducible refine Below.al ?_ _ | with_reducible refine Below.setCell ?_ (by first | exact Nat.le_refl _ | (simp; omega) | (simp; done)) _ | with_reducible refine Below.on ?_ (by assumption))))).out.mono ?_; rintro e w2 ⟨rfl, hb⟩))
  refine (HOV _ (by (repeat (first | with_reducible exact Below.refl _ _ | with_reducible assumption | with_reducible refine Below.drew ?_ | with_reducible refine Below.al ?_ _ | with_reducible refine Below.setCell ?_ (by first | exact Nat.le_refl _ | (simp; omega) | (simp; done)) _ | with_reducible refine Below.on ?_ (by assumption))))).out.mono ?_
  rintro e w6 ⟨rfl, hrow, honl, _⟩
  have HB6 : Hid (Below w.heap.size w w6) := hid (onl_below (by (repeat (first | with_reducible exact Below.refl _ _ | with_reducible assumption | with_reducible refine Below.drew ?_ | with_reducible refine Below.al ?_ _ | with_reducible refine Below.setCell ?_ (by first | exact Nat.le_refl _ | (simp; omega) | (simp; done)) _ | with_reducible refine Below.on ?_ (by assumption)))) honl HG.out)
  obtain ⟨m2, hm2⟩ : ∃ m2, m2 = vE (okT (overL n)) := ⟨_, rfl⟩
  obtain ⟨s2, hs2⟩ : ∃ s2, s2 = textS (overL n) := ⟨_, rfl⟩
  have hk2 : Tp (overL n) := overL_tp (by omega)
  have hln : (overL n).length = n := overL_len n
  have HQE : ∀ w', Below w6.heap.size w6 w' → Hid (Calls Tryd.prog 21 #[.slice (some ⟨g, 0, none⟩) n (n + 1)] w' fun e w'' => e = .returned (.tuple #[.string s2, .int .i64 m2]) ∧ Below w'.heap.size w' w'') := fun w' hb => by
    have := text_is (c := n + 1) (hrow.later hb) hk2 (HVW.out.pow.later (Below.on HB6.out hb))
    rw [hln, ← hm2, ← hs2] at this; exact hid this
  have HQRE : ∀ w', Below w6.heap.size w6 w' → Hid (Calls Tryd.prog 22 #[.slice (some ⟨g, 0, none⟩) n (n + 1)] w' fun e w'' => e = .returned (.tuple #[.string s2, .int .i64 m2]) ∧ Below w'.heap.size w' w'') := fun w' hb => by
    have := refText_is (c := n + 1) (hrow.later hb) hk2.ok hk2.sw hk2.tl hk2.le
    rw [hln, ← hm2, ← hs2] at this; exact hid this
  clear hrow honl hm2 hs2 hk2 hln hq
  clear HPE HRE HL HOV
  have hq2 : (s2.toList == s2.toList) = true := by simp
  have HSM : ∀ w' b d, Below w.heap.size w w' → RowV w' b t → Hid (Calls Tryd.prog 12 #[.slice b n d, .slice a n c] w' fun e w'' => e = .returned (.bool true) ∧ Below w'.heap.size w' w'') := fun w' b d hb hr => by
    rw [HN.out]; exact hid (refsame_is (u := true) (by simp) hr (HR.out.later hb) HK.out.ok HK.out.ok HK.out.le HK.out.le)
  cases u with
  | false =>
    have hm1 : m = 1 := by rw [HM.out, ← HU.out]; rfl
    subst hm1
    go_wp2_with (first
      | (go_at_call 21; refine (HQE _ (by (repeat (first | with_reducible exact Below.refl _ _ | with_reducible assumption | with_reducible refine Below.drew ?_ | with_reducible refine Below.al ?_ _ | with_reducible refine Below.setCell ?_ (by first | exact Nat.le_refl _ | (simp; omega) | (simp; done)) _ | with_reducible refine Below.on ?_ (by assumption))))).out.mono ?_; rintro e w7 ⟨rfl, hb7⟩)
      | (go_at_call 22; refine (HQRE _ (by (repeat (first | with_reducible exact Below.refl _ _ | with_reducible assumption | with_reducible refine Below.drew ?_ | with_reducible refine Below.al ?_ _ | with_reducible refine Below.setCell ?_ (by first | exact Nat.le_refl _ | (simp; omega) | (simp; done)) _ | with_reducible refine Below.on ?_ (by assumption))))).out.mono ?_; rintro e w8 ⟨rfl, hb8⟩))
    go_ret
    exact ⟨rfl, Below.on (Below.on HB6.out hb7) hb8⟩
  | true =>
    have hm0 : m = 0 := by rw [HM.out, ← HU.out]; rfl
    subst hm0
    have HD : ∀ w', Below w.heap.size w w' → Hid (Calls Tryd.prog 23 #[.string s] w' fun e w'' => ∃ b d, e = .returned (.tuple #[.slice b n d, .int .i64 0]) ∧ RowV w'' b t ∧ Below w'.heap.size w' w'') := fun w' hbw => by
      have hs : s = ofNats (textL t) := by rw [HS.out]; unfold textS; rw [← HU.out]; rfl
      rw [hs]
      refine hid ((parse_is (text_b8 HK.out.ok) (by omega) (HVW.out.later hbw)).mono ?_)
      rintro e w'' ⟨v, rfl, ho, hb⟩
      rw [par_text HU.out.symm HK.out.ok] at ho ⊢
      obtain ⟨b, d, rfl⟩ := ho.slice
      rw [HN.out]
      exact ⟨b, d, rfl, ho.row, hb⟩
    go_wp2_with (first
      | (go_at_call 21; refine (HQE _ (by (repeat (first | with_reducible exact Below.refl _ _ | with_reducible assumption | with_reducible refine Below.drew ?_ | with_reducible refine Below.al ?_ _ | with_reducible refine Below.setCell ?_ (by first | exact Nat.le_refl _ | (simp; omega) | (simp; done)) _ | with_reducible refine Below.on ?_ (by assumption))))).out.mono ?_; rintro e w7 ⟨rfl, hb7⟩)
      | (go_at_call 22; refine (HQRE _ (by (repeat (first | with_reducible exact Below.refl _ _ | with_reducible assumption | with_reducible refine Below.drew ?_ | with_reducible refine Below.al ?_ _ | with_reducible refine Below.setCell ?_ (by first | exact Nat.le_refl _ | (simp; omega) | (simp; done)) _ | with_reducible refine Below.on ?_ (by assumption))))).out.mono ?_; rintro e w8 ⟨rfl, hb8⟩; have HB8 := hid (Below.on (Below.on HB6.out hb7) hb8))
      | (go_at_call 23; refine (HD _ HB8.out).out.mono ?_; rintro e w9 ⟨b9, d9, rfl, hr9, hb9⟩; have HB9 := hid (Below.on HB8.out hb9))
      | (go_at_call 12; refine (HSM _ _ _ HB9.out (by assumption)).out.mono ?_; rintro e w10 ⟨rfl, hb10⟩))
    go_ret
    exact ⟨rfl, Below.on HB9.out hb10⟩
end Go.Proofs.YtfafkohghgliaabDoor.Tu
