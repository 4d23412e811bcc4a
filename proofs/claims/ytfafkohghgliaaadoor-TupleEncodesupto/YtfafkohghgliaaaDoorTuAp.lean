import Derived.Test.YtfafkohghgliaaaDoorTuRep
import Derived.Test.YtfafkohghgliaaaDoorTuInt
/- A value's code is appended. -/
namespace Go.Proofs.YtfafkohghgliaaaDoor.Tu
open Go.RowKit Go.Sort Go.Proofs.YtfafkohghgliaaaDoor
set_option linter.unusedVariables false
set_option linter.unusedSectionVars false
variable [DecidableEq Vl]
set_option linter.unusedSimpArgs false

set_option maxHeartbeats 2000000 in
theorem appText_is {w : World} {B : Nat} {v : Value} {l s : List Nat} (hO : OwnB w B v l) (hB : B ≤ w.heap.size) (h8 : B8 s) (hs : s.length ≤ 67108864) (hl : l.length ≤ 70368744177664) :
    Calls Tryd.prog 23 #[v, .string (ofNats s)] w (Ae B w (l ++ 48 :: (esc s ++ [0]))) := by
  have HR := fun w => hid (repall_is h8 hs w)
  have hel : (esc s).length ≤ 134217728 := by have := (esc_len s).2; omega
  have HE8 := hid (esc_b8 h8)
  have HO := hid hO
  have HB := hid hB
  obtain ⟨b, hb⟩ : ∃ b, b = ofNats s := ⟨_, rfl⟩
  rw [← hb] at HR ⊢
  clear hO hB h8 hs hb
  go_enter Tryd.func23, Tryd.ntmps23
  go_wp2_with (first
    | (go_at_call 32; go_loud (refine (HR _).out.mono ?_; rintro e w3 ⟨rfl, hb3⟩; have HO3 := hid (HO2.out.later hb3); have HB3 := hid (HB2.out.trans (hb3.mono (Nat.le_trans HB.out HB2.out.size))); clear hb3))
    | (at_builtin; go_loud (first
        | (have h4 := HO4.out; refine append_S rfl _ _ rfl [0] (by intro x hx; simp at hx; omega) rfl h4 rfl ?c2 ?c3 ?_; (case c2 => simp; omega); (case c3 => have := HB4.out.size; have := HB.out; omega); intro v5 w5 ho5 hg5; have HO5 := hid ho5; have HB5 := hid (OwnB.grown h4 hg5 HB4.out HB.out); clear h4 ho5 hg5)
        | (have h3 := HO3.out; refine append_S rfl _ _ rfl (esc s) HE8.out rfl h3 rfl ?c2 ?c3 ?_; (case c2 => simp; omega); (case c3 => have := HB3.out.size; have := HB.out; omega); intro v4 w4 ho4 hg4; have HO4 := hid ho4; have HB4 := hid (OwnB.grown h3 hg4 HB3.out HB.out); clear h3 ho4 hg4)
        | (refine append_B rfl _ _ rfl [48] rfl (HO.out.later (Below.al (Below.refl _ _) _)) (g := w.heap.size) rfl rfl ?c1 ?c2 ?c3 ?_; (case c1 => intro i hi; obtain rfl : i = 0 := (by simpa using hi); simp [go_sem]); (case c2 => simp; omega); (case c3 => have := HB.out; simp; omega); intro v2 w2 ho2 hg2; have HO2 := hid ho2; have HB2 := hid (OwnB.grown (HO.out.later (Below.al (Below.refl _ _) _)) hg2 ((Below.al (Below.refl _ _) _).mono HB.out) HB.out); clear ho2 hg2))))
  go_ret
  exact ⟨v5, rfl, by have := HO5.out; rw [List.append_assoc, List.append_assoc] at this; exact this, HB5.out⟩
set_option maxHeartbeats 2000000 in
theorem appCode_is {w : World} {B : Nat} {v : Value} {l : List Nat} {x : Vl} (hO : OwnB w B v l) (hB : B ≤ w.heap.size) (hx : x.ok) (hs : x.s.length ≤ 67108864) (hl : l.length ≤ 70368744177664) :
    Calls Tryd.prog 17 #[v, x.val] w (Ae B w (l ++ codeV x)) := by
  have HI : ∀ w', Below w.heap.size w w' → Hid (Calls Tryd.prog 22 #[v, .int .i64 x.n] w' fun e w'' => ∃ u, e = .returned u ∧ OwnB w'' B u (l ++ intC x.n) ∧ Below B w w'') := fun w' hb =>
    hid ((appInt_is (hO.later hb) (Nat.le_trans hB hb.size) hx.n64 hl).mono fun e w'' ⟨u, he, ho, hb2⟩ => ⟨u, he, ho, (hb.mono hB).trans hb2⟩)
  have HT : ∀ w', Below w.heap.size w w' → Hid (Calls Tryd.prog 23 #[v, .string (ofNats x.s)] w' fun e w'' => ∃ u, e = .returned u ∧ OwnB w'' B u (l ++ 48 :: (esc x.s ++ [0])) ∧ Below B w w'') := fun w' hb =>
    hid ((appText_is (hO.later hb) (Nat.le_trans hB hb.size) hx.b8 hs hl).mono fun e w'' ⟨u, he, ho, hb2⟩ => ⟨u, he, ho, (hb.mono hB).trans hb2⟩)
  have HO := hid hO
  have HB := hid hB
  clear hO hB hx hs
  obtain ⟨k, f, n, s⟩ := x
  simp only at HI HT
  by_cases h1 : k = 1
  · subst h1
    cases f with
    | true =>
      have HE : Hid (codeV ⟨1, true, n, s⟩ = [3]) := rfl
      go_enter Tryd.func17, Tryd.ntmps17
      go_wp2_with (at_builtin; go_loud (refine append_B rfl _ _ rfl [3] rfl (HO.out.later (Below.al (Below.al (Below.refl _ _) _) _)) (g := w.heap.size + 1) rfl rfl ?c1 ?c2 ?c3 ?_; (case c1 => intro i hi; obtain rfl : i = 0 := (by simpa using hi); simp [go_sem]); (case c2 => simp; omega); (case c3 => have := HB.out; simp; omega); intro v2 w2 ho2 hg2; have HO2 := hid ho2; have HB2 := hid (OwnB.grown (HO.out.later (Below.al (Below.al (Below.refl _ _) _) _)) hg2 ((Below.al (Below.al (Below.refl _ _) _) _).mono HB.out) HB.out); clear ho2 hg2))
      go_ret
      exact ⟨v2, rfl, by rw [HE.out]; exact HO2.out, HB2.out⟩
    | false =>
      have HE : Hid (codeV ⟨1, false, n, s⟩ = [2]) := rfl
      go_enter Tryd.func17, Tryd.ntmps17
      go_wp2_with (at_builtin; go_loud (refine append_B rfl _ _ rfl [2] rfl (HO.out.later (Below.al (Below.al (Below.refl _ _) _) _)) (g := w.heap.size + 1) rfl rfl ?c1 ?c2 ?c3 ?_; (case c1 => intro i hi; obtain rfl : i = 0 := (by simpa using hi); simp [go_sem]); (case c2 => simp; omega); (case c3 => have := HB.out; simp; omega); intro v2 w2 ho2 hg2; have HO2 := hid ho2; have HB2 := hid (OwnB.grown (HO.out.later (Below.al (Below.al (Below.refl _ _) _) _)) hg2 ((Below.al (Below.al (Below.refl _ _) _) _).mono HB.out) HB.out); clear ho2 hg2))
      go_ret
      exact ⟨v2, rfl, by rw [HE.out]; exact HO2.out, HB2.out⟩
  by_cases h2 : k = 2
  · subst h2
    have HE : Hid (codeV ⟨2, f, n, s⟩ = intC n) := rfl
    go_enter Tryd.func17, Tryd.ntmps17
    go_wp2_with (go_at_call 22; go_loud (refine (HI _ (by (repeat (first | exact Below.refl _ _ | assumption | refine Below.drew ?_ | refine Below.al ?_ _ | refine Below.setCell ?_ (by first | exact Nat.le_refl _ | (simp; omega) | (simp; done)) _ | refine Below.on ?_ (by assumption))))).out.mono ?_; rintro e w2 ⟨u, rfl, ho2, hb2⟩; have HO2 := hid ho2; have HB2 := hid hb2; clear ho2 hb2))
    go_ret
    exact ⟨u, rfl, by rw [HE.out]; exact HO2.out, HB2.out⟩
  by_cases h3 : k = 3
  · subst h3
    have HE : Hid (codeV ⟨3, f, n, s⟩ = 48 :: (esc s ++ [0])) := rfl
    obtain ⟨b, hb⟩ : ∃ b, b = ofNats s := ⟨_, rfl⟩
    have e : (Vl.val ⟨3, f, n, s⟩) = vlv 3 f n b := by rw [hb]
    rw [← hb] at HT
    rw [e]
    clear hb e
    go_enter Tryd.func17, Tryd.ntmps17
    go_wp2_with (go_at_call 23; go_loud (refine (HT _ (by (repeat (first | exact Below.refl _ _ | assumption | refine Below.drew ?_ | refine Below.al ?_ _ | refine Below.setCell ?_ (by first | exact Nat.le_refl _ | (simp; omega) | (simp; done)) _ | refine Below.on ?_ (by assumption))))).out.mono ?_; rintro e w2 ⟨u, rfl, ho2, hb2⟩; have HO2 := hid ho2; have HB2 := hid hb2; clear ho2 hb2))
    go_ret
    exact ⟨u, rfl, by rw [HE.out]; exact HO2.out, HB2.out⟩
  · have HE : Hid (codeV ⟨k, f, n, s⟩ = [1]) := by show _ = _; simp [codeV, h1, h2, h3]
    have d1 : ((k : Int) == 1) = false := by simp; omega
    have d2 : ((k : Int) == 2) = false := by simp; omega
    have d3 : ((k : Int) == 3) = false := by simp; omega
    clear h1 h2 h3
    go_enter Tryd.func17, Tryd.ntmps17
    go_wp2_with (at_builtin; go_loud (refine append_B rfl _ _ rfl [1] rfl (HO.out.later (Below.al (Below.al (Below.refl _ _) _) _)) (g := w.heap.size + 1) rfl rfl ?c1 ?c2 ?c3 ?_; (case c1 => intro i hi; obtain rfl : i = 0 := (by simpa using hi); simp [go_sem]); (case c2 => simp; omega); (case c3 => have := HB.out; simp; omega); intro v2 w2 ho2 hg2; have HO2 := hid ho2; have HB2 := hid (OwnB.grown (HO.out.later (Below.al (Below.al (Below.refl _ _) _) _)) hg2 ((Below.al (Below.al (Below.refl _ _) _) _).mono HB.out) HB.out); clear ho2 hg2))
    go_ret
    exact ⟨v2, rfl, by rw [HE.out]; exact HO2.out, HB2.out⟩
end Go.Proofs.YtfafkohghgliaaaDoor.Tu
