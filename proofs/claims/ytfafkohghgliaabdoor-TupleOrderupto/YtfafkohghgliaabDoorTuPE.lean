import Derived.Test.YtfafkohghgliaabDoorTuAp
import Derived.Test.YtfafkohghgliaabDoorTuPV
import Derived.Test.YtfafkohghgliaabDoorTuRefEn
/- The program's Encode. -/
namespace Go.Proofs.YtfafkohghgliaabDoor.Tu
open Go.RowKit Go.Sort Go.Proofs.YtfafkohghgliaabDoor
set_option linter.unusedVariables false
set_option linter.unusedSectionVars false
variable [DecidableEq Vl]
set_option linter.unusedSimpArgs false

set_option maxHeartbeats 2000000 in
theorem encode_is {a : Option Addr} {c : Nat} {t : List Vl} {w : World} (h : RowV w a t) (k : Tp t) :
    Calls Tryd.prog 8 #[.slice a t.length c] w fun e w' => e = .returned (.tuple #[.string (encS t), .int .i64 (vE (okT t))]) ∧ Below w.heap.size w w' := by
  have HV := fun w (h : RowV w a t) => hid (valid_is (c := c) h k)
  obtain ⟨n, hn⟩ : ∃ n, n = t.length := ⟨_, rfl⟩
  have hl : n ≤ 16777216 := by rw [hn]; exact k.len
  have HA := hid (show _ ∧ _ ∧ _ from ⟨h, k, hn⟩)
  rw [← hn] at HV ⊢
  clear h k hn
  obtain ⟨u, hu⟩ : ∃ u, okT t = u := ⟨_, rfl⟩
  have HU : Hid (okT t = u) := hu
  rw [hu] at HV
  go_enter Tryd.func8, Tryd.ntmps8
  cases u with
  | false =>
    have HE : Hid (encS t = ⟨#[]⟩) := by show _ = _; unfold encS; rw [hu]; rfl
    clear hu
    go_wp2_with (go_at_call 25; refine (HV _ HA.out.1).out.mono ?_; rintro e w1 ⟨rfl, hb1⟩; simp only [vE])
    go_ret2
    exact ⟨ret_si (by rw [HE.out]) (by rw [HU.out]; rfl), hb1⟩
  | true =>
    have HE : Hid (encS t = ofNats (encL t)) := by show _ = _; unfold encS; rw [hu]; rfl
    clear hu
    go_wp2_with (go_at_call 25; refine (HV _ HA.out.1).out.mono ?_; rintro e w1 ⟨rfl, hb1⟩; simp only [vE])
    have HB1 := hid hb1
    clear hb1 HV
    go_loopg [5, 7, 15] n (fun g s5 s7 s15 wr => ∃ (i : Nat) (u : Value), i ≤ n ∧ g = n - i ∧ s15 = .int .i64 i ∧ u = s5 ∧ Hid (OwnB wr w.heap.size u (encL (t.take i))) ∧ Hid (Below w.heap.size w wr))
    case atStart => exact ⟨0, .slice none 0 0, by omega, by omega, rfl, rfl, hid (OwnB.nil _ _), HB1⟩
    case round =>
      obtain ⟨i, u, hi, rfl, rfl, rfl, HO, HB⟩ := hrel
      clear HB1
      by_cases hlt : i < n
      · have hlt' : i < t.length := by rw [← HA.out.2.2]; exact hlt
        obtain ⟨ba, oa, ea, a0, a1, a2, a3⟩ := (HA.out.1.later HB.out) i hlt'
        subst ea
        obtain ⟨x, hx⟩ : ∃ x, x = nthV t i := ⟨_, rfl⟩
        have hc := encL_take hlt'
        have hc2 := encL_take_le t i
        rw [← hx] at a0 a1 a2 a3 hc
        have ox : x.ok := by rw [hx]; exact HA.out.2.1.ok _ (nthV_mem hlt')
        have sx : x.s.length ≤ 67108864 := by rw [hx]; exact HA.out.2.1.sh _ (nthV_mem hlt')
        have hen := HA.out.2.1.enc
        have HC : ∀ w', Below wr.heap.size wr w' → Hid (Calls Tryd.prog 26 #[u, x.val] w' fun e w'' => ∃ v, e = .returned v ∧ OwnB w'' w.heap.size v (encL (t.take (i + 1))) ∧ Below w.heap.size w w'') := fun w' hb => by
          rw [hc]
          have hs := HB.out.size
          exact hid ((appCode_is (HO.out.later hb) (Nat.le_trans hs hb.size) ox sx (by omega)).mono fun e w'' ⟨v, he, ho, hb2⟩ => ⟨v, he, ho, (HB.out.trans (hb.mono hs)).trans hb2⟩)
        clear hx hc hc2 ox sx hen hlt'
        obtain ⟨xk, xf, xn, xs⟩ := x
        simp only at a0 a1 a2 a3
        go_wp2_with (go_at_call 26; go_loud (refine (HC _ (by (repeat (first | exact Below.refl _ _ | assumption | refine Below.drew ?_ | refine Below.al ?_ _ | refine Below.setCell ?_ (by first | exact Nat.le_refl _ | (simp; omega) | (simp; done)) _ | refine Below.on ?_ (by assumption))))).out.mono ?_; rintro e w2 ⟨v, rfl, ho2, hb2⟩; have HO2 := hid ho2; have HB2 := hid hb2; clear ho2 hb2))
        go_roundg (n - (i + 1))
        case measure => omega
        case rel => exact ⟨i + 1, v, by omega, rfl, by go_num, rfl, HO2, HB2⟩
      · obtain rfl : i = n := by omega
        have HF : Hid (t.take i = t) := by show _ = _; rw [HA.out.2.2, List.take_length]
        have hcv := HO.out.convert
        obtain ⟨a9, c9, hu9⟩ := HO.out.slice
        subst hu9
        rw [HF.out, ← HE.out] at hcv
        obtain ⟨z, hz⟩ : ∃ z, z = encS t := ⟨_, rfl⟩
        obtain ⟨m, hm⟩ : ∃ m, m = (encL t).length := ⟨_, rfl⟩
        rw [← hz, ← hm] at hcv
        rw [HF.out, ← hm]
        have HZ := hid hz
        clear hz hm
        go_wp2_with fail
        go_ret2
        exact ⟨ret_si HZ.out (by rw [HU.out]; rfl), HB.out⟩
end Go.Proofs.YtfafkohghgliaabDoor.Tu
