import Derived.Test.YtfafkohghgliaabDoorTuRefN
import Derived.Test.YtfafkohghgliaabDoorTuRefEn
import Derived.Test.YtfafkohghgliaabDoorTuUnw
/- The document's Text. -/
namespace Go.Proofs.YtfafkohghgliaabDoor.Tu
open Go.RowKit Go.Sort Go.Proofs.YtfafkohghgliaabDoor Go.Proofs.YtfafkohghgliaabDoor.Rt Go.Proofs.YtfafkohghgliaabDoor.Gt
set_option linter.unusedVariables false
set_option linter.unusedSectionVars false
variable [DecidableEq Vl]

theorem refdec_is {u : Nat} (h : u < 18446744073709551616) (w : World) : Calls Tryd.prog 55 #[.int .u64 u] w fun e w' => e = .returned (.string (ofNats (decN u))) ∧ Below w.heap.size w w' := by
  rw [← dec_nats]; exact refdecimal_any u h w
set_option maxHeartbeats 1000000 in
theorem said_is {v : Vl} (h : v.ok) (hl : 3 * v.s.length + 10 ≤ 140737488355328) (w : World) : Calls Tryd.prog 34 #[v.val] w fun e w' => e = .returned (.string (ofNats (saidL v))) ∧ Below w.heap.size w w' := by
  obtain ⟨hn1, hn2⟩ := h.n64
  have HT := fun w => hid (rword_is h.b8 (by omega) w)
  obtain ⟨k, f, n, s⟩ := v
  simp only at HT hn1 hn2 hl
  by_cases h1 : k = 1
  · subst h1
    cases f
    all_goals
      go_enter Tryd.func34, Tryd.ntmps34
      go_wp2_with fail
      go_ret
      exact ⟨rfl, by (repeat (first | exact Below.refl _ _ | assumption | refine Below.drew ?_ | refine Below.al ?_ _ | refine Below.setCell ?_ (by first | exact Nat.le_refl _ | (simp; omega) | (simp; done)) _ | refine Below.on ?_ (by assumption)))⟩
  · by_cases h2 : k = 2
    · subst h2
      by_cases h0 : n < 0
      · have HE : Hid (saidL ⟨2, f, n, s⟩ = 45 :: decN n.natAbs) := by show decI n = _; unfold decI; rw [if_pos h0]
        have HF := fun w => hid (far_is ⟨hn1, hn2⟩ w)
        obtain ⟨u, hu⟩ : ∃ u : Nat, u = n.natAbs := ⟨_, rfl⟩
        have HD := fun w => hid (refdec_is (u := u) (by omega) w)
        rw [← hu] at HF HE
        have hL : (decN u).length ≤ 20 := decN_len 19 u (by rw [show (10 : Nat) ^ (19 + 1) = 100000000000000000000 by decide]; omega)
        have hLs : (ofNats (decN u)).size ≤ 20 := by rw [ofNats_size]; exact hL
        obtain ⟨d, hd⟩ : ∃ d, d = ofNats (decN u) := ⟨_, rfl⟩
        have HS : Hid (⟨#[45]⟩ ++ d = ofNats (45 :: decN u)) := by show _ = _; rw [hd, show (45 :: decN u) = [45] ++ decN u from rfl, ← ofNats_append]; rfl
        rw [← hd] at HD hLs
        have hroom : ¬ 9223372036854775807 < 1 + d.size := by omega
        clear hu hd hL
        go_enter Tryd.func34, Tryd.ntmps34
        go_wp2_with (first | (go_at_call 56; refine (HF _).out.mono ?_; rintro e w1 ⟨rfl, hw⟩; replace hw := hw.symm; subst hw) | (go_at_call 55; refine (HD _).out.mono ?_; rintro e w1 ⟨rfl, hb1⟩))
        go_ret
        exact ⟨ret_s (by rw [HE.out, ← HS.out]), Below.on (Below.al (Below.refl _ _) _) hb1⟩
      · obtain ⟨u, rfl⟩ : ∃ u : Nat, n = (u : Int) := ⟨n.toNat, by omega⟩
        have HE : Hid (saidL ⟨2, f, (u : Int), s⟩ = decN u) := by show decI (u : Int) = decN u; unfold decI; rw [if_neg h0]; rfl
        have HD := fun w => hid (refdec_is (u := u) (by omega) w)
        clear h0
        go_enter Tryd.func34, Tryd.ntmps34
        go_wp2_with (go_at_call 55; refine (HD _).out.mono ?_; rintro e w1 ⟨rfl, hb1⟩)
        go_ret
        exact ⟨ret_s (by rw [HE.out]), Below.on (Below.al (Below.refl _ _) _) hb1⟩
    · by_cases h3 : k = 3
      · subst h3
        have HE : Hid (saidL ⟨3, f, n, s⟩ = 39 :: wordL s) := rfl
        have hL := (wordL_len s).2
        have hLs : (ofNats (wordL s)).size ≤ 3 * s.length + 1 := by rw [ofNats_size]; exact hL
        obtain ⟨d, hd⟩ : ∃ d, d = ofNats (wordL s) := ⟨_, rfl⟩
        have HS : Hid (⟨#[39]⟩ ++ d = ofNats (39 :: wordL s)) := by show _ = _; rw [hd, show (39 :: wordL s) = [39] ++ wordL s from rfl, ← ofNats_append]; rfl
        rw [← hd] at HT hLs
        have hroom : ¬ 9223372036854775807 < 1 + d.size := by omega
        clear hd hL
        go_enter Tryd.func34, Tryd.ntmps34
        go_wp2_with (go_at_call 57; refine (HT _).out.mono ?_; rintro e w1 ⟨rfl, hb1⟩)
        go_ret
        exact ⟨ret_s (by rw [HE.out, ← HS.out]), Below.on (Below.al (Below.refl _ _) _) hb1⟩
      · have HE : Hid (saidL ⟨k, f, n, s⟩ = nNull) := by show _ = _; simp [saidL, h1, h2, h3]
        go_enter Tryd.func34, Tryd.ntmps34
        go_wp2_with fail
        go_ret
        exact ⟨ret_s (by rw [HE.out]; rfl), by (repeat (first | exact Below.refl _ _ | assumption | refine Below.drew ?_ | refine Below.al ?_ _ | refine Below.setCell ?_ (by first | exact Nat.le_refl _ | (simp; omega) | (simp; done)) _ | refine Below.on ?_ (by assumption)))⟩
end Go.Proofs.YtfafkohghgliaabDoor.Tu
