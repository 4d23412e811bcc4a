import Derived.Test.YtfafkohghgliaabDoorTuRefE
/- The document's Encode. -/
namespace Go.Proofs.YtfafkohghgliaabDoor.Tu
open Go.RowKit Go.Sort Go.Proofs.YtfafkohghgliaabDoor
set_option linter.unusedVariables false
set_option linter.unusedSectionVars false
variable [DecidableEq Vl]

/-- how long texts may be -/
def Sh (t : List Vl) : Prop := ∀ v ∈ t, 2 * v.s.length + 10 ≤ 9223372036854775807
set_option maxHeartbeats 1000000 in
theorem code_is {v : Vl} (h : v.ok) (hl : 2 * v.s.length + 10 ≤ 9223372036854775807) (w : World) : Calls Tryd.prog 49 #[v.val] w fun e w' => e = .returned (.string (ofNats (codeV v))) ∧ Below w.heap.size w w' := by
  have HI := fun w => hid (integer_is h.n64 w)
  have HT := fun w => hid (reftext_is h.b8 hl w)
  obtain ⟨k, f, n, s⟩ := v
  simp only at HI HT
  by_cases h1 : k = 1
  · subst h1
    cases f
    all_goals
      go_enter Tryd.func49, Tryd.ntmps49
      go_wp2_with fail
      go_ret
      exact ⟨rfl, by (repeat (first | exact Below.refl _ _ | assumption | refine Below.drew ?_ | refine Below.al ?_ _ | refine Below.setCell ?_ (by first | exact Nat.le_refl _ | (simp; omega) | (simp; done)) _ | refine Below.on ?_ (by assumption)))⟩
  · by_cases h2 : k = 2
    · subst h2
      have HE : Hid (codeV ⟨2, f, n, s⟩ = intC n) := rfl
      go_enter Tryd.func49, Tryd.ntmps49
      go_wp2_with (go_at_call 72; refine (HI _).out.mono ?_; rintro e w1 ⟨rfl, hb1⟩)
      go_ret
      exact ⟨ret_s (by rw [HE.out]), Below.on (Below.al (Below.refl _ _) _) hb1⟩
    · by_cases h3 : k = 3
      · subst h3
        have HE : Hid (codeV ⟨3, f, n, s⟩ = 48 :: (esc s ++ [0])) := rfl
        go_enter Tryd.func49, Tryd.ntmps49
        go_wp2_with (go_at_call 73; refine (HT _).out.mono ?_; rintro e w1 ⟨rfl, hw⟩; replace hw := hw.symm; subst hw)
        go_ret
        exact ⟨ret_s (by rw [HE.out]), by (repeat (first | exact Below.refl _ _ | assumption | refine Below.drew ?_ | refine Below.al ?_ _ | refine Below.setCell ?_ (by first | exact Nat.le_refl _ | (simp; omega) | (simp; done)) _ | refine Below.on ?_ (by assumption)))⟩
      · have HE : Hid (codeV ⟨k, f, n, s⟩ = [1]) := by show _ = _; simp [codeV, h1, h2, h3]
        go_enter Tryd.func49, Tryd.ntmps49
        go_wp2_with fail
        go_ret
        exact ⟨ret_s (by rw [HE.out]; rfl), by (repeat (first | exact Below.refl _ _ | assumption | refine Below.drew ?_ | refine Below.al ?_ _ | refine Below.setCell ?_ (by first | exact Nat.le_refl _ | (simp; omega) | (simp; done)) _ | refine Below.on ?_ (by assumption)))⟩
/-- the bytes of what is valid -/
def encS (t : List Vl) : ByteArray := if okT t then ofNats (encL t) else ⟨#[]⟩
theorem ret_si {a b : ByteArray} {m n : Int} (h : a = b) (k : m = n) : Ending.returned (.tuple #[.string a, .int .i64 m]) = Ending.returned (.tuple #[.string b, .int .i64 n]) := by rw [h, k]
theorem encL_take {t : List Vl} {k : Nat} (h : k < t.length) : encL (t.take (k + 1)) = encL (t.take k) ++ codeV (nthV t k) := by rw [nthV_take h, encL_snoc]
theorem encL_take_le (t : List Vl) (k : Nat) : (encL (t.take k)).length ≤ (encL t).length := by
  have := encL_append (t.take k) (t.drop k)
  rw [List.take_append_drop] at this
  rw [this, List.length_append]; omega
set_option maxHeartbeats 4000000 in
theorem refencode_is {a : Option Addr} {c : Nat} {t : List Vl} {w : World} (h : RowV w a t) (ho : OkT t) (hs : Sh t) (hb : (encL t).length ≤ 4611686018427387904) (hl : t.length ≤ 4611686018427387904) :
    Calls Tryd.prog 31 #[.slice a t.length c] w fun e w' => e = .returned (.tuple #[.string (encS t), .int .i64 (vE (okT t))]) ∧ Below w.heap.size w w' := by
  have HV := fun w (h : RowV w a t) => hid (refvalid_is (c := c) h ho hl)
  obtain ⟨n, hn⟩ : ∃ n, n = t.length := ⟨_, rfl⟩
  have HA := hid (show _ ∧ _ ∧ _ ∧ _ ∧ _ from ⟨h, ho, hn, hs, hb⟩)
  rw [← hn] at hl HV ⊢
  clear h ho hn hs hb
  go_enter Tryd.func31, Tryd.ntmps31
  obtain ⟨u, hu⟩ : ∃ u, okT t = u := ⟨_, rfl⟩
  have HU : Hid (okT t = u) := hu
  rw [hu] at HV
  cases u with
  | false =>
    have HE : Hid (encS t = ⟨#[]⟩) := by show _ = _; unfold encS; rw [hu]; rfl
    clear hu
    go_wp2_with (go_at_call 11; refine (HV _ HA.out.1).out.mono ?_; rintro e w1 ⟨rfl, hb1⟩; simp only [vE])
    go_ret2
    exact ⟨ret_si (by rw [HE.out]) (by rw [HU.out]; rfl), hb1⟩
  | true =>
    have HE : Hid (encS t = ofNats (encL t)) := by show _ = _; unfold encS; rw [hu]; rfl
    clear hu
    go_wp2_with (go_at_call 11; refine (HV _ HA.out.1).out.mono ?_; rintro e w1 ⟨rfl, hb1⟩; simp only [vE])
    have HB1 := hid hb1
    clear hb1 HV
    go_loopg [5, 6] n (fun g s5 s6 wr => ∃ i : Nat, i ≤ n ∧ g = n - i ∧ s6 = .int .i64 i ∧ s5 = .string (ofNats (encL (t.take i))) ∧ Hid (Below w.heap.size w wr))
    case atStart => exact ⟨0, by omega, by omega, rfl, rfl, HB1.out⟩
    case round =>
      obtain ⟨i, hi, rfl, rfl, rfl, HB⟩ := hrel
      by_cases hlt : i < n
      · have hlt' : i < t.length := by rw [← HA.out.2.2.1]; exact hlt
        obtain ⟨ba, oa, ea, a0, a1, a2, a3⟩ := (HA.out.1.later HB.out) i hlt'
        subst ea
        obtain ⟨x, hx⟩ : ∃ x, x = nthV t i := ⟨_, rfl⟩
        have hc := encL_take hlt'
        have hc2 := encL_take_le t (i + 1)
        rw [← hx] at a0 a1 a2 a3 hc
        have ox : x.ok := by rw [hx]; exact HA.out.2.1 _ (nthV_mem hlt')
        have sx : 2 * x.s.length + 10 ≤ 9223372036854775807 := by rw [hx]; exact HA.out.2.2.2.1 _ (nthV_mem hlt')
        have HC := fun w => hid (code_is ox sx w)
        obtain ⟨cd, hcd⟩ : ∃ cd, cd = ofNats (codeV x) := ⟨_, rfl⟩
        obtain ⟨s, hs⟩ : ∃ s, s = ofNats (encL (t.take i)) := ⟨_, rfl⟩
        have HS : Hid (s ++ cd = ofNats (encL (t.take (i + 1)))) := by show _ = _; rw [hs, hcd, ofNats_append, hc]
        have hsz : ¬ 9223372036854775807 < s.size + cd.size := by
          have := congrArg List.length hc
          rw [List.length_append] at this
          rw [hs, hcd, ofNats_size, ofNats_size]
          have := HA.out.2.2.2.2
          omega
        rw [← hcd] at HC
        rw [← hs]
        clear hx hc hc2 ox sx hcd hs hlt'
        obtain ⟨xk, xf, xn, xs⟩ := x
        simp only at a0 a1 a2 a3
        go_wp2_with (go_at_call 49; refine (HC _).out.mono ?_; rintro e w2 ⟨rfl, hb2⟩)
        go_roundg (n - (i + 1))
        case measure => omega
        case rel => exact ⟨i + 1, by omega, rfl, by go_num, by rw [HS.out], Below.on HB.out hb2⟩
      · obtain rfl : i = n := by omega
        have HF : Hid (t.take i = t) := by show _ = _; rw [HA.out.2.2.1, List.take_length]
        go_wp2_with fail
        go_ret2
        exact ⟨ret_si (by rw [HE.out, HF.out]) (by rw [HU.out]; rfl), HB.out⟩
end Go.Proofs.YtfafkohghgliaabDoor.Tu
