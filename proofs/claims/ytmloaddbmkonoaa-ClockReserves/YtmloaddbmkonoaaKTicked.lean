import Derived.Test.YtmloaddbmkonoaaKUseAny
namespace Go.Proofs.Ytmloaddbmkonoaa
open Go.RowKit Go.Sort
set_option linter.unusedVariables false

/-- behind a Tick, used or not -/
def TickedPost (b p : Nat) (g n r : Int) (w w' : World) : Prop :=
  Only2 b p w w' ∧ ∃ K l U, ResI K r l U ∧ BookAt w' b K U true ∧ ClockAt w' p ⟨g, K, n, r, l⟩

set_option maxHeartbeats 2000000 in
theorem ticked_no (b p : Nat) (g kp n r lw ll ln uw ul un : Int) (f : Bool) (w : World) (HC : Hid (Ck.ok ⟨g, kp, n, r, ⟨lw, ll, ln⟩⟩)) (H0 : Hid (ClockAt w p ⟨g, kp, n, r, ⟨lw, ll, ln⟩⟩)) (B0 : Hid (BookAt w b kp ⟨uw, ul, un⟩ true)) (hbp : b ≠ p) (I : Hid (ResI kp r ⟨lw, ll, ln⟩ ⟨uw, ul, un⟩))
    (HX : Hid (tickN ⟨g, kp, n, r, ⟨lw, ll, ln⟩⟩ = ⟨0, 0, 0, 11⟩)) (HT : Hid (tickC ⟨g, kp, n, r, ⟨lw, ll, ln⟩⟩ = ⟨g, kp, n, r, ⟨lw, ll, ln⟩⟩)) :
    Calls Try.prog 20 #[.pointer (some ⟨b, 0, none⟩), .pointer (some ⟨p, 0, none⟩), .bool f] w fun e w' => e = .returned (.bool true) ∧ TickedPost b p g n r w w' := by
  have q1 : ∀ w, (binOp .eql 30 (stv 0 0 0) (stv 0 0 0)).run Try.prog w = .ok (.bool true) w := fun w => by rw [run_eq, sameB_self]
  go_enter Try.func20, Try.ntmps20
  go_wp2_with (first
    | (go_at_call 11; refine (tick_is HX.out _ H0.out HC.out).mono ?_; rw [HT.out]; rintro e w2 ⟨rfl, ho2, hc2⟩))
  go_ret
  exact ⟨rfl, (Only2.right ho2).on (w3c_below _ _ _ _), kp, _, _, I.out, (B0.out.only ho2 hbp).later (w3c_below _ _ _ _), hc2.later (w3c_below _ _ _ _)⟩

set_option maxHeartbeats 2000000 in
theorem ticked_yes (b p : Nat) (g kp n r lw ll ln uw ul un W L : Int) (f : Bool) (w : World) (HC : Hid (Ck.ok ⟨g, kp, n, r, ⟨lw, ll, ln⟩⟩)) (H0 : Hid (ClockAt w p ⟨g, kp, n, r, ⟨lw, ll, ln⟩⟩)) (B0 : Hid (BookAt w b kp ⟨uw, ul, un⟩ true)) (hbp : b ≠ p) (I : Hid (ResI kp r ⟨W, L, n⟩ ⟨uw, ul, un⟩))
    (HX : Hid (tickN ⟨g, kp, n, r, ⟨lw, ll, ln⟩⟩ = ⟨W, L, n, 0⟩)) (HT : Hid (tickC ⟨g, kp, n, r, ⟨lw, ll, ln⟩⟩ = ⟨g, kp, n, r, ⟨W, L, n⟩⟩)) (HA : Hid (lessB uw ul un W L n = true)) (HW : Hid (¬ W = 18446744073709551615)) :
    Calls Try.prog 20 #[.pointer (some ⟨b, 0, none⟩), .pointer (some ⟨p, 0, none⟩), .bool f] w fun e w' => e = .returned (.bool true) ∧ TickedPost b p g n r w w' := by
  go_enter Try.func20, Try.ntmps20
  go_wp2_with (first
    | (go_at_call 11; refine (tick_is HX.out _ H0.out HC.out).mono ?_; rw [HT.out]; rintro e w2 ⟨rfl, ho2, hc2⟩))
  obtain ⟨w3, hw3⟩ : ∃ w3, w3 = w3c w2 W L n := ⟨_, rfl⟩
  have R3 : UseAt w (w3c w2 W L n) w2.heap.size b p ⟨W, L, n⟩ kp ⟨uw, ul, un⟩ true ⟨g, kp, n, r, ⟨W, L, n⟩⟩ :=
    ⟨(Only2.right ho2).on (w3c_below _ _ _ _), w3c_at _ _ _ _, (B0.out.only ho2 hbp).later (w3c_below _ _ _ _), hc2.later (w3c_below _ _ _ _), by have := (B0.out.only ho2 hbp).lt; omega, by have := hc2.lt; omega, hbp⟩
  rw [← hw3] at R3
  show Code.wp _ _ _ _ (w3c w2 W L n)
  rw [← hw3]
  have HR3 := hid R3
  have ⟨s0, s1, s2⟩ := R3.st
  have b1 := R3.bk.c1; have b2 := R3.bk.c2; have b3 := R3.bk.c3; have b4 := R3.bk.c4
  have ks0 := cell_regrown s0; have ks1 := cell_regrown s1; have ks2 := cell_regrown s2
  have kb1 := cell_regrown b1; have kb2 := cell_regrown b2; have kb3 := cell_regrown b3; have kb4 := cell_regrown b4
  clear hw3 R3 ho2 hc2
  refine wp_region_quiet_below (by kernel_rfl) (by kernel_rfl) ?_
  repeat (go_big_quiet_step ((go_at_call 15; exact Calls.regrown_of (after_is HA.out _))))
  refine wpQuiet_nil ?_
  intro w4 hw
  have R4 := hid (HR3.out.later (below_of_regrown hw))
  clear hw HR3 s0 s1 s2 b1 b2 b3 b4 ks0 ks1 ks2 kb1 kb2 kb3 kb4
  have ⟨s0, s1, s2⟩ := R4.out.st
  cases f with
  | false =>
    go_wp2_with fail
    go_ret
    exact ⟨rfl, R4.out.only, kp, _, _, I.out, R4.out.bk, R4.out.ck⟩
  | true =>
    have HC2 : Hid (Ck.ok ⟨g, kp, n, r, ⟨W, L, n⟩⟩) := ⟨HC.out.win, HC.out.ceil, HC.out.node, HC.out.rd, I.out.ul⟩
    go_wp2_with (first
      | (go_at_call 21; refine (use_any b p g kp n r ⟨W, L, n⟩ ⟨W, L, n⟩ ⟨uw, ul, un⟩ true _ HC2.out I.out.ul HW.out R4.out.ck R4.out.bk hbp).mono ?_; rintro e w5 ⟨rfl, ho5, K, U, hU, -, hB5, hC5⟩; have HO5 := hid ho5; have HU := hid hU; have HB5 := hid hB5; have HC5 := hid hC5; clear ho5 hU hB5 hC5))
    go_ret
    refine ⟨rfl, R4.out.only.trans HO5.out, K, _, U, ?_, HB5.out, HC5.out⟩
    obtain ⟨h1, h2, h3, h4⟩ := HU.out
    refine ⟨h1, I.out.ur, I.out.ul, ?_, ?_⟩
    · rcases h4 with rfl | rfl
      · exact h2
      · have := I.out.low
        omega
    · rcases h4 with rfl | rfl
      · exact less_irr _ _ _
      · exact I.out.last

theorem ticked_any (b p : Nat) (g kp n r : Int) (l u : St) (f : Bool) (w : World) (hc : Ck.ok ⟨g, kp, n, r, l⟩) (h0 : ClockAt w p ⟨g, kp, n, r, l⟩) (b0 : BookAt w b kp u true) (hbp : b ≠ p) (I : ResI kp r l u) :
    Calls Try.prog 20 #[.pointer (some ⟨b, 0, none⟩), .pointer (some ⟨p, 0, none⟩), .bool f] w fun e w' => e = .returned (.bool true) ∧ TickedPost b p g n r w w' := by
  obtain ⟨lw, ll, ln⟩ := l
  obtain ⟨uw, ul, un⟩ := u
  rcases tickN_cases _ hc with ⟨h1, h2⟩ | ⟨h1, h2, h3, h4, h5, h6⟩
  · exact ticked_no b p g kp n r lw ll ln uw ul un f w hc h0 b0 hbp I h1 h2
  · obtain ⟨W, L, N, E, e⟩ : ∃ W L N E, tickN ⟨g, kp, n, r, ⟨lw, ll, ln⟩⟩ = ⟨W, L, N, E⟩ := ⟨_, _, _, _, rfl⟩
    rw [e] at h1 h2 h3 h4 h5 h6
    simp only at h1 h3 h4
    subst h1 h3
    obtain ⟨k1, k2⟩ := less_chain h5 I.last
    exact ticked_yes b p g kp _ r lw ll ln uw ul un W L f w hc h0 b0 hbp ⟨I.uk, I.ur, h2, I.low, k2⟩ e h6 k1 (by show ¬ _; omega)

end Go.Proofs.Ytmloaddbmkonoaa
