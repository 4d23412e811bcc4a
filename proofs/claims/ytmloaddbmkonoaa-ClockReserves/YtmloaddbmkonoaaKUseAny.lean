import Derived.Test.YtmloaddbmkonoaaKUse
namespace Go.Proofs.Ytmloaddbmkonoaa
open Go.RowKit Go.Sort
set_option linter.unusedVariables false

theorem less_chain {s l u : St} (h1 : l.less s = true) (h2 : l.less u = false) : u.less s = true ∧ s.less u = false := by
  unfold St.less at *
  rw [lessB_iff] at h1 ⊢
  rw [lessB_iff_false] at h2 ⊢
  omega
theorem less_keep {s l u : St} (h1 : s.less l = false) (h2 : l.less u = false) : s.less u = false := by
  unfold St.less at *
  rw [lessB_iff_false] at *
  omega

/-- what a use leaves: the ceiling is above the stamp; the greatest used is it or was it -/
def Used (kp K : Int) (s u U : St) : Prop := U64 K ∧ s.w < K ∧ kp ≤ K ∧ (U = s ∨ U = u)

theorem use_any (b p : Nat) (g kp n r : Int) (l s u : St) (y : Bool) (w : World) (hc : Ck.ok ⟨g, kp, n, r, l⟩) (hs : s.ok) (hsw : ¬ s.w = 18446744073709551615) (h0 : ClockAt w p ⟨g, kp, n, r, l⟩) (b0 : BookAt w b kp u y) (hbp : b ≠ p) :
    Calls Try.prog 21 #[.pointer (some ⟨b, 0, none⟩), .pointer (some ⟨p, 0, none⟩), stv s.w s.l s.n] w fun e w' => e = .returned (.bool true) ∧ Only2 b p w w' ∧
      ∃ K U, Used kp K s u U ∧ (y = false → U = s) ∧ BookAt w' b K U true ∧ ClockAt w' p ⟨g, K, n, r, l⟩ := by
  obtain ⟨sw, sl, sn⟩ := s
  obtain ⟨uw, ul, un⟩ := u
  have hcu := hc.ceil
  have hgu := hc.win
  have hsu := hs.1
  unfold U64 at hcu hgu
  dsimp only at hcu hgu hsu hsw
  cases hm : mustB ⟨g, kp, n, r, l⟩ sw with
  | true =>
    have hge : ¬ sw < kp := by
      intro h
      rw [mustB] at hm
      simp [h] at hm
    obtain ⟨K, hK⟩ : ∃ K, needN ⟨g, kp, n, r, l⟩ sw = K := ⟨_, rfl⟩
    have hKv : U64 K ∧ sw < K := by
      rw [← hK]
      unfold needN U64
      rw [hm, if_pos rfl]
      dsimp only
      split <;> omega
    have hgt : kp < K := by omega
    have hX : maxI kp K = K := by unfold maxI; rw [if_pos hgt]
    cases y with
    | false => exact (use_m_first b p g kp n r sw sl sn uw ul un K l w hc hs h0 b0 hbp hK hm hX hgt hKv.2).mono fun e w' ⟨h1, h2, h3, h4⟩ => ⟨h1, h2, K, _, ⟨hKv.1, hKv.2, by omega, .inl rfl⟩, fun _ => rfl, h3, h4⟩
    | true =>
      cases hA : lessB uw ul un sw sl sn with
      | true => exact (use_m_less b p g kp n r sw sl sn uw ul un K l w hc hs h0 b0 hbp hK hm hX hgt hKv.2 hA).mono fun e w' ⟨h1, h2, h3, h4⟩ => ⟨h1, h2, K, _, ⟨hKv.1, hKv.2, by omega, .inl rfl⟩, fun h => (by cases h), h3, h4⟩
      | false => exact (use_m_not b p g kp n r sw sl sn uw ul un K l w hc hs h0 b0 hbp hK hm hX hgt hKv.2 hA).mono fun e w' ⟨h1, h2, h3, h4⟩ => ⟨h1, h2, K, _, ⟨hKv.1, hKv.2, by omega, .inr rfl⟩, fun h => (by cases h), h3, h4⟩
  | false =>
    have hlt : sw < kp := by
      rw [mustB] at hm
      simp [hsw] at hm
      exact hm
    have hK : needN ⟨g, kp, n, r, l⟩ sw = 0 := by unfold needN; rw [hm]; rfl
    cases y with
    | false => exact (use_n_first b p g kp n r sw sl sn uw ul un l w hc hs h0 b0 hbp hK hm hlt).mono fun e w' ⟨h1, h2, h3, h4⟩ => ⟨h1, h2, kp, _, ⟨hcu, hlt, by omega, .inl rfl⟩, fun _ => rfl, h3, h4⟩
    | true =>
      cases hA : lessB uw ul un sw sl sn with
      | true => exact (use_n_less b p g kp n r sw sl sn uw ul un l w hc hs h0 b0 hbp hK hm hlt hA).mono fun e w' ⟨h1, h2, h3, h4⟩ => ⟨h1, h2, kp, _, ⟨hcu, hlt, by omega, .inl rfl⟩, fun h => (by cases h), h3, h4⟩
      | false => exact (use_n_not b p g kp n r sw sl sn uw ul un l w hc hs h0 b0 hbp hK hm hlt hA).mono fun e w' ⟨h1, h2, h3, h4⟩ => ⟨h1, h2, kp, _, ⟨hcu, hlt, by omega, .inr rfl⟩, fun h => (by cases h), h3, h4⟩

/-- what holds of a life: all that was used is below what is kept, and not above the last stamp -/
structure ResI (kp r : Int) (l u : St) : Prop where
  uk : U64 kp
  ur : U64 r
  ul : l.ok
  low : u.w < kp
  last : l.less u = false

end Go.Proofs.Ytmloaddbmkonoaa
