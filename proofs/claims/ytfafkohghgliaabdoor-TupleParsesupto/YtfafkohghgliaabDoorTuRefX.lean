import Derived.Test.YtfafkohghgliaabDoorTuRefT
/- The document's Text, whole. -/
namespace Go.Proofs.YtfafkohghgliaabDoor.Tu
open Go.RowKit Go.Sort Go.Proofs.YtfafkohghgliaabDoor Go.Proofs.YtfafkohghgliaabDoor.Rt Go.Proofs.YtfafkohghgliaabDoor.Gt
set_option linter.unusedVariables false
set_option linter.unusedSectionVars false
variable [DecidableEq Vl]

/-- the text of what is valid -/
def textS (t : List Vl) : ByteArray := if okT t then ofNats (textL t) else ⟨#[]⟩
/-- how long texts may be -/
def Sw (t : List Vl) : Prop := ∀ v ∈ t, 3 * v.s.length + 10 ≤ 140737488355328
theorem text_take {t : List Vl} {k : Nat} (h : k < t.length) : textL (t.take (k + 1)) = if k = 0 then saidL (nthV t k) else textL (t.take k) ++ 32 :: saidL (nthV t k) := by
  rw [nthV_take h, text_snoc]
  by_cases hk : k = 0
  · subst hk; simp
  · rw [if_neg hk, if_neg]
    intro e
    have := congrArg List.length e
    rw [List.length_take, List.length_nil] at this
    omega
theorem text_take_le (t : List Vl) (k : Nat) : (textL (t.take k)).length ≤ joinN (t.map saidL) := by
  have h1 := join_len_le ((t.take k).map saidL)
  have h2 := joinN_take (t.map saidL) k
  rw [← List.map_take] at h2
  unfold textL; omega
set_option maxHeartbeats 4000000 in
theorem refText_is {a : Option Addr} {c : Nat} {t : List Vl} {w : World} (h : RowV w a t) (ho : OkT t) (hs : Sw t) (hb : joinN (t.map saidL) ≤ 4611686018427387904) (hl : t.length ≤ 4611686018427387904) :
    Calls Tryd.prog 22 #[.slice a t.length c] w fun e w' => e = .returned (.tuple #[.string (textS t), .int .i64 (vE (okT t))]) ∧ Below w.heap.size w w' := by
  have HV := fun w (h : RowV w a t) => hid (refvalid_is (c := c) h ho hl)
  obtain ⟨n, hn⟩ : ∃ n, n = t.length := ⟨_, rfl⟩
  have HA := hid (show _ ∧ _ ∧ _ ∧ _ ∧ _ from ⟨h, ho, hn, hs, hb⟩)
  rw [← hn] at hl HV ⊢
  clear h ho hn hs hb
  go_enter Tryd.func22, Tryd.ntmps22
  obtain ⟨u, hu⟩ : ∃ u, okT t = u := ⟨_, rfl⟩
  have HU : Hid (okT t = u) := hu
  rw [hu] at HV
  cases u with
  | false =>
    have HE : Hid (textS t = ⟨#[]⟩) := by show _ = _; unfold textS; rw [hu]; rfl
    clear hu
    go_wp2_with (go_at_call 11; refine (HV _ HA.out.1).out.mono ?_; rintro e w1 ⟨rfl, hb1⟩; simp only [vE])
    go_ret2
    exact ⟨ret_si (by rw [HE.out]) (by rw [HU.out]; rfl), hb1⟩
  | true =>
    have HE : Hid (textS t = ofNats (textL t)) := by show _ = _; unfold textS; rw [hu]; rfl
    clear hu
    go_wp2_with (go_at_call 11; refine (HV _ HA.out.1).out.mono ?_; rintro e w1 ⟨rfl, hb1⟩; simp only [vE])
    have HB1 := hid hb1
    clear hb1 HV
    go_loopg [5, 6] n (fun g s5 s6 wr => ∃ i : Nat, i ≤ n ∧ g = n - i ∧ s6 = .int .i64 i ∧ s5 = .string (ofNats (textL (t.take i))) ∧ Hid (Below w.heap.size w wr))
    case atStart => exact ⟨0, by omega, by omega, rfl, rfl, HB1.out⟩
    case round =>
      obtain ⟨i, hi, rfl, rfl, rfl, HB⟩ := hrel
      by_cases hlt : i < n
      · have hlt' : i < t.length := by rw [← HA.out.2.2.1]; exact hlt
        obtain ⟨ba, oa, ea, a0, a1, a2, a3⟩ := (HA.out.1.later HB.out) i hlt'
        subst ea
        obtain ⟨x, hx⟩ : ∃ x, x = nthV t i := ⟨_, rfl⟩
        have hc := text_take hlt'
        have hc2 := text_take_le t (i + 1)
        rw [← hx] at a0 a1 a2 a3 hc
        have ox : x.ok := by rw [hx]; exact HA.out.2.1 _ (nthV_mem hlt')
        have sx : 3 * x.s.length + 10 ≤ 140737488355328 := by rw [hx]; exact HA.out.2.2.2.1 _ (nthV_mem hlt')
        have HC := fun w => hid (said_is ox sx w)
        obtain ⟨cd, hcd⟩ : ∃ cd, cd = ofNats (saidL x) := ⟨_, rfl⟩
        obtain ⟨s, hs⟩ : ∃ s, s = ofNats (textL (t.take i)) := ⟨_, rfl⟩
        have hL := congrArg List.length hc
        have hle := HA.out.2.2.2.2
        rw [← hcd] at HC
        by_cases h0 : i = 0
        · rw [if_pos h0] at hc hL
          have HS : Hid (s ++ cd = ofNats (textL (t.take (i + 1)))) := by
            show _ = _
            rw [hs, hcd, ofNats_append, hc, h0]; rfl
          have hs0 : s.size = 0 := by rw [hs, h0]; rfl
          have hsz : ¬ 9223372036854775807 < s.size + cd.size := by rw [hs0, hcd, ofNats_size]; omega
          have h0' : ¬ (0 : Int) < (i : Int) := by omega
          rw [← hs]
          clear hx hc hc2 ox sx hcd hs hlt' hL hle hs0 h0
          obtain ⟨xk, xf, xn, xs⟩ := x
          simp only at a0 a1 a2 a3
          go_wp2_with (go_at_call 34; refine (HC _).out.mono ?_; rintro e w2 ⟨rfl, hb2⟩)
          go_roundg (n - (i + 1))
          case measure => omega
          case rel => exact ⟨i + 1, by omega, rfl, by go_num, by rw [HS.out], Below.on HB.out hb2⟩
        · rw [if_neg h0] at hc hL
          rw [List.length_append, List.length_cons] at hL
          have HS : Hid (s ++ ⟨#[32]⟩ ++ cd = ofNats (textL (t.take (i + 1)))) := by
            show _ = _
            rw [hs, hcd, hc, show (32 :: saidL x) = [32] ++ saidL x from rfl, ← ofNats_append, ← ofNats_append, ByteArray.append_assoc]; rfl
          have hsz0 : s.size + cd.size + 1 ≤ 4611686018427387904 := by rw [hs, hcd, ofNats_size, ofNats_size]; omega
          have hsz : ¬ 9223372036854775807 < s.size + 1 + cd.size := by omega
          have hsz1 : ¬ 9223372036854775807 < s.size + 1 := by omega
          have h0' : (0 : Int) < (i : Int) := by omega
          rw [← hs]
          clear hx hc hc2 ox sx hcd hs hlt' hL hle h0 hsz0
          obtain ⟨xk, xf, xn, xs⟩ := x
          simp only at a0 a1 a2 a3
          go_wp2_with (go_at_call 34; refine (HC _).out.mono ?_; rintro e w2 ⟨rfl, hb2⟩)
          go_roundg (n - (i + 1))
          case measure => omega
          case rel => exact ⟨i + 1, by omega, rfl, by go_num, by rw [← HS.out], Below.on HB.out hb2⟩
      · obtain rfl : i = n := by omega
        have HF : Hid (t.take i = t) := by show _ = _; rw [HA.out.2.2.1, List.take_length]
        go_wp2_with fail
        go_ret2
        exact ⟨ret_si (by rw [HE.out, HF.out]) (by rw [HU.out]; rfl), HB.out⟩
end Go.Proofs.YtfafkohghgliaabDoor.Tu
