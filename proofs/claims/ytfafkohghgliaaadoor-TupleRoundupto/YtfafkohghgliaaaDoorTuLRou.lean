import Derived.Test.YtfafkohghgliaaaDoorTuPE
import Derived.Test.YtfafkohghgliaaaDoorTuPD
import Derived.Test.YtfafkohghgliaaaDoorTuRoom
/- The law: TupleRound. -/
namespace Go.Proofs.YtfafkohghgliaaaDoor.Tu
open Go.RowKit Go.Sort Go.Proofs.YtfafkohghgliaaaDoor
set_option linter.unusedVariables false
set_option linter.unusedSectionVars false
variable [DecidableEq Vl]

set_option maxHeartbeats 4000000 in
theorem law_round {a : Option Addr} {c : Nat} {t : List Vl} {w : World} (h : RowV w a t) (k : Tp t) (hn1 : t.length ≤ 1048576) (he : (encL t).length ≤ 2097152) :
    Calls Tryd.prog 5 #[.slice a t.length c] w fun e w' => e = .returned (.bool true) ∧ Below w.heap.size w w' := by
  have HOWN := hid (own_is (c := c) h (by omega))
  have HK := hid k
  have HR := hid h
  have HV : ∀ w', Below w.heap.size w w' → Hid (Calls Tryd.prog 12 #[.slice a t.length c] w' fun e w'' => e = .returned (.int .i64 (vE (okT t))) ∧ Below w'.heap.size w' w'') := fun w' hb => hid (refvalid_is (h.later hb) k.ok k.le)
  have HE : ∀ g w', Rm w' g (roomF t) (t.length + 1) → Hid (Calls Tryd.prog 7 #[.slice (some ⟨g, 0, none⟩) t.length (t.length + 1)] w' fun e w'' => e = .returned (.tuple #[.string (encS t), .int .i64 (vE (okT t))]) ∧ Below w'.heap.size w' w'') := fun g w' hr => hid (encode_is hr.own k)
  have HSM : ∀ w' b d, Below w.heap.size w w' → RowV w' b t → Hid (Calls Tryd.prog 11 #[.slice b t.length d, .slice a t.length c] w' fun e w'' => e = .returned (.bool true) ∧ Below w'.heap.size w' w'') := fun w' b d hb hr => hid (refsame_is (u := true) (by simp) hr (h.later hb) k.ok k.ok k.le k.le)
  obtain ⟨n, hn⟩ : ∃ n, n = t.length := ⟨_, rfl⟩
  have HN := hid hn
  rw [← hn] at HOWN hn1 HV HE HSM ⊢
  clear h hn
  obtain ⟨u, hu⟩ : ∃ u, okT t = u := ⟨_, rfl⟩
  rw [hu] at HV HE
  cases u with
  | false =>
    have hs : encS t = ⟨#[]⟩ := by unfold encS; rw [hu]; rfl
    rw [hs] at HE
    clear hu hs
    go_enter Tryd.func5, Tryd.ntmps5
    go_wp2_with (first
      | (go_at_call 8; refine HOWN.out.mono ?_; rintro e w1 ⟨g, rfl, hrm, _, hg, hb1⟩)
      | (go_at_call 7; refine (HE _ _ (by assumption)).out.mono ?_; rintro e w2 ⟨rfl, hb2⟩; simp only [vE])
      | (go_at_call 12; refine (HV _ (by (repeat (first | with_reducible exact Below.refl _ _ | with_reducible assumption | with_reducible refine Below.drew ?_ | with_reducible refine Below.al ?_ _ | with_reducible refine Below.setCell ?_ (by first | exact Nat.le_refl _ | (simp; omega) | (simp; done)) _ | with_reducible refine Below.on ?_ (by assumption))))).out.mono ?_; rintro e w3 ⟨rfl, hb3⟩; simp only [vE]))
    go_ret
    exact ⟨rfl, Below.on (Below.on hb1 hb2) hb3⟩
  | true =>
    have hs : encS t = ofNats (encL t) := by unfold encS; rw [hu]; rfl
    have HD : ∀ w', Hid (Calls Tryd.prog 10 #[.string (encS t)] w' fun e w'' => ∃ b d, e = .returned (.tuple #[.slice b n d, .int .i64 0]) ∧ RowV w'' b t ∧ Below w'.heap.size w' w'') := fun w' => by
      rw [hs]
      refine hid ((decode_is (encL_b8 HK.out.ok) (by omega) w').mono ?_)
      rintro e w'' ⟨v, rfl, ho, hb⟩
      rw [dec_enc hu HK.out.ok] at ho ⊢
      obtain ⟨b, d, rfl⟩ := ho.slice
      rw [HN.out]
      exact ⟨b, d, rfl, ho.row, hb⟩
    obtain ⟨s, hse⟩ : ∃ s, s = encS t := ⟨_, rfl⟩
    rw [← hse] at HE HD
    clear hu hs hse
    go_enter Tryd.func5, Tryd.ntmps5
    go_wp2_with (first
      | (go_at_call 8; refine HOWN.out.mono ?_; rintro e w1 ⟨g, rfl, hrm, _, hg, hb1⟩)
      | (go_at_call 7; refine (HE _ _ (by assumption)).out.mono ?_; rintro e w2 ⟨rfl, hb2⟩; simp only [vE])
      | (go_at_call 12; refine (HV _ (by (repeat (first | with_reducible exact Below.refl _ _ | with_reducible assumption | with_reducible refine Below.drew ?_ | with_reducible refine Below.al ?_ _ | with_reducible refine Below.setCell ?_ (by first | exact Nat.le_refl _ | (simp; omega) | (simp; done)) _ | with_reducible refine Below.on ?_ (by assumption))))).out.mono ?_; rintro e w3 ⟨rfl, hb3⟩; simp only [vE])
      | (go_at_call 10; refine (HD _).out.mono ?_; rintro e w4 ⟨b, d, rfl, hr4, hb4⟩)
      | (go_at_call 11; refine (HSM _ _ _ (by (repeat (first | with_reducible exact Below.refl _ _ | with_reducible assumption | with_reducible refine Below.drew ?_ | with_reducible refine Below.al ?_ _ | with_reducible refine Below.setCell ?_ (by first | exact Nat.le_refl _ | (simp; omega) | (simp; done)) _ | with_reducible refine Below.on ?_ (by assumption)))) (by assumption)).out.mono ?_; rintro e w5 ⟨rfl, hb5⟩))
    go_ret
    exact ⟨rfl, Below.on (Below.on (Below.on (Below.on hb1 hb2) hb3) hb4) hb5⟩
end Go.Proofs.YtfafkohghgliaaaDoor.Tu
