import Derived.Test.YtfafkohghgliaaaDoorTuPV
import Derived.Test.YtfafkohghgliaaaDoorTuPE
import Derived.Test.YtfafkohghgliaaaDoorTuRoom
import Derived.Test.YtfafkohghgliaaaDoorTuOvr
/- The law: TupleEncodes. -/
namespace Go.Proofs.YtfafkohghgliaaaDoor.Tu
open Go.RowKit Go.Sort Go.Proofs.YtfafkohghgliaaaDoor
set_option linter.unusedVariables false
set_option linter.unusedSectionVars false
variable [DecidableEq Vl]

set_option maxHeartbeats 4000000 in
theorem law_encodes {a : Option Addr} {c : Nat} {t : List Vl} {w : World} (h : RowV w a t) (k : Tp t) (hn1 : t.length ≤ 1048576) :
    Calls Tryd.prog 6 #[.slice a t.length c] w fun e w' => e = .returned (.bool true) ∧ Below w.heap.size w w' := by
  have HOWN := hid (own_is (c := c) h (by omega))
  have HK := hid k
  have HR := hid h
  obtain ⟨n, hn⟩ : ∃ n, n = t.length := ⟨_, rfl⟩
  have HN := hid hn
  rw [← hn] at HOWN hn1 ⊢
  obtain ⟨m, hm⟩ : ∃ m, m = vE (okT t) := ⟨_, rfl⟩
  obtain ⟨s, hs⟩ : ∃ s, s = encS t := ⟨_, rfl⟩
  have HM := hid hm
  have HS := hid hs
  have HRV : ∀ w', Below w.heap.size w w' → Hid (Calls Tryd.prog 12 #[.slice a n c] w' fun e w'' => e = .returned (.int .i64 m) ∧ Below w'.heap.size w' w'') := fun w' hb => by
    rw [hm, hn]; exact hid (refvalid_is (HR.out.later hb) HK.out.ok HK.out.le)
  have HRE : ∀ w', Below w.heap.size w w' → Hid (Calls Tryd.prog 14 #[.slice a n c] w' fun e w'' => e = .returned (.tuple #[.string s, .int .i64 m]) ∧ Below w'.heap.size w' w'') := fun w' hb => by
    rw [hm, hs, hn]; exact hid (refencode_is (HR.out.later hb) HK.out.ok HK.out.ss HK.out.el HK.out.le)
  clear hn hm hs h k
  go_enter Tryd.func6, Tryd.ntmps6
  go_wp2_with fail
  refine HOWN.out.mono ?_
  rintro e w1 ⟨g, rfl, hrm, _, hg, hb1⟩
  have HG := hid hg
  have HRM := hid hrm
  have HPV : ∀ w', Below w1.heap.size w1 w' → Hid (Calls Tryd.prog 13 #[.slice (some ⟨g, 0, none⟩) n (n + 1)] w' fun e w'' => e = .returned (.int .i64 m) ∧ Below w'.heap.size w' w'') := fun w' hb => by
    rw [HM.out, HN.out]; exact hid (valid_is (by rw [HN.out] at hrm; exact (hrm.later hb).own) HK.out)
  have HPE : ∀ w', Below w1.heap.size w1 w' → Hid (Calls Tryd.prog 7 #[.slice (some ⟨g, 0, none⟩) n (n + 1)] w' fun e w'' => e = .returned (.tuple #[.string s, .int .i64 m]) ∧ Below w'.heap.size w' w'') := fun w' hb => by
    rw [HM.out, HS.out, HN.out]; exact hid (encode_is (by rw [HN.out] at hrm; exact (hrm.later hb).own) HK.out)
  have HL : ∀ w', Below w1.heap.size w1 w' → Hid (Calls Tryd.prog 15 #[.slice (some ⟨g, 0, none⟩) n (n + 1), .slice a n c] w' fun e w'' => e = .returned (.bool true) ∧ Below w'.heap.size w' w'') := fun w' hb => by
    rw [HN.out]; exact hid (left_is (by rw [HN.out] at hrm; exact hrm.later hb) (HR.out.later (Below.on hb1 hb)) HK.out.ok (by have := HK.out.len; omega))
  have HOV : ∀ w', Below w1.heap.size w1 w' → Hid (Calls Tryd.prog 16 #[.slice (some ⟨g, 0, none⟩) n (n + 1)] w' fun e w'' => e = .returned (.tuple #[]) ∧ RowV w'' (some ⟨g, 0, none⟩) (overL n) ∧ Onl (fun k => k = g) w' w'' ∧ w''.heap.size = w'.heap.size) := fun w' hb =>
    hid (over_is (hrm.later hb) (by omega) (by omega))
  clear hrm hg
  have hq : (s.toList == s.toList) = true := by simp
  go_wp2_with (first
    | (go_at_call 13; refine (HPV _ (by (repeat (first | with_reducible exact Below.refl _ _ | with_reducible assumption | with_reducible refine Below.drew ?_ | with_reducible refine Below.al ?_ _ | with_reducible refine Below.setCell ?_ (by first | exact Nat.le_refl _ | (simp; omega) | (simp; done)) _ | with_reducible refine Below.on ?_ (by assumption))))).out.mono ?_; rintro e w2 ⟨rfl, hb⟩)
    | (go_at_call 7; refine (HPE _ (by (repeat (first | with_reducible exact Below.refl _ _ | with_reducible assumption | with_reducible refine Below.drew ?_ | with_reducible refine Below.al ?_ _ | with_reducible refine Below.setCell ?_ (by first | exact Nat.le_refl _ | (simp; omega) | (simp; done)) _ | with_reducible refine Below.on ?_ (by assumption))))).out.mono ?_; rintro e w2 ⟨rfl, hb⟩)
    | (go_at_call 12; refine (HRV _ (by (repeat (first | with_reducible exact Below.refl _ _ | with_reducible assumption | with_reducible refine Below.drew ?_ | with_reducible refine Below.al ?_ _ | with_reducible refine Below.setCell ?_ (by first | exact Nat.le_refl _ | (simp; omega) | (simp; done)) _ | with_reducible refine Below.on ?_ (by assumption))))).out.mono ?_; rintro e w2 ⟨rfl, hb⟩)
    | (go_at_call 14; refine (HRE _ (by (repeat (first | with_reducible exact Below.refl _ _ | with_reducible assumption | with_reducible refine Below.drew ?_ | with_reducible refine Below.al ?_ _ | with_reducible refine Below.setCell ?_ (by first | exact Nat.le_refl _ | (simp; omega) | (simp; done)) _ | with_reducible refine Below.on ?_ (by assumption))))).out.mono ?_; rintro e w2 ⟨rfl, hb⟩)
    | (go_at_call 15; refine (HL _ (by (repeat (first | with_reducible exact Below.refl _ _ | with_reducible assumption | with_reducible refine Below.drew ?_ | with_reducible refine Below.al ?_ _ | with_reducible refine Below.setCell ?_ (by first | exact Nat.le_refl _ | (simp; omega) | (simp; done)) _ | with_reducible refine Below.on ?_ (by assumption))))).out.mono ?_; rintro e w2 ⟨rfl, hb⟩))
  refine (HOV _ (by (repeat (first | with_reducible exact Below.refl _ _ | with_reducible assumption | with_reducible refine Below.drew ?_ | with_reducible refine Below.al ?_ _ | with_reducible refine Below.setCell ?_ (by first | exact Nat.le_refl _ | (simp; omega) | (simp; done)) _ | with_reducible refine Below.on ?_ (by assumption))))).out.mono ?_
  rintro e w6 ⟨rfl, hrow, honl, _⟩
  have HB6 : Hid (Below w.heap.size w w6) := hid (onl_below (by (repeat (first | with_reducible exact Below.refl _ _ | with_reducible assumption | with_reducible refine Below.drew ?_ | with_reducible refine Below.al ?_ _ | with_reducible refine Below.setCell ?_ (by first | exact Nat.le_refl _ | (simp; omega) | (simp; done)) _ | with_reducible refine Below.on ?_ (by assumption)))) honl HG.out)
  obtain ⟨m2, hm2⟩ : ∃ m2, m2 = vE (okT (overL n)) := ⟨_, rfl⟩
  obtain ⟨s2, hs2⟩ : ∃ s2, s2 = encS (overL n) := ⟨_, rfl⟩
  have hk2 : Tp (overL n) := overL_tp (by omega)
  have hln : (overL n).length = n := overL_len n
  have HQV : ∀ w', Below w6.heap.size w6 w' → Hid (Calls Tryd.prog 13 #[.slice (some ⟨g, 0, none⟩) n (n + 1)] w' fun e w'' => e = .returned (.int .i64 m2) ∧ Below w'.heap.size w' w'') := fun w' hb => by
    have := valid_is (c := n + 1) (hrow.later hb) hk2
    rw [hln, ← hm2] at this; exact hid this
  have HQE : ∀ w', Below w6.heap.size w6 w' → Hid (Calls Tryd.prog 7 #[.slice (some ⟨g, 0, none⟩) n (n + 1)] w' fun e w'' => e = .returned (.tuple #[.string s2, .int .i64 m2]) ∧ Below w'.heap.size w' w'') := fun w' hb => by
    have := encode_is (c := n + 1) (hrow.later hb) hk2
    rw [hln, ← hm2, ← hs2] at this; exact hid this
  have HQRV : ∀ w', Below w6.heap.size w6 w' → Hid (Calls Tryd.prog 12 #[.slice (some ⟨g, 0, none⟩) n (n + 1)] w' fun e w'' => e = .returned (.int .i64 m2) ∧ Below w'.heap.size w' w'') := fun w' hb => by
    have := refvalid_is (c := n + 1) (hrow.later hb) hk2.ok hk2.le
    rw [hln, ← hm2] at this; exact hid this
  have HQRE : ∀ w', Below w6.heap.size w6 w' → Hid (Calls Tryd.prog 14 #[.slice (some ⟨g, 0, none⟩) n (n + 1)] w' fun e w'' => e = .returned (.tuple #[.string s2, .int .i64 m2]) ∧ Below w'.heap.size w' w'') := fun w' hb => by
    have := refencode_is (c := n + 1) (hrow.later hb) hk2.ok hk2.ss hk2.el hk2.le
    rw [hln, ← hm2, ← hs2] at this; exact hid this
  clear hrow honl hm2 hs2 hk2 hln hq
  clear HPV HPE HRV HRE HL HOV
  have hq2 : (s2.toList == s2.toList) = true := by simp
  go_wp2_with (first
    | (go_at_call 7; refine (HQE _ (by (repeat (first | with_reducible exact Below.refl _ _ | with_reducible assumption | with_reducible refine Below.drew ?_ | with_reducible refine Below.al ?_ _ | with_reducible refine Below.setCell ?_ (by first | exact Nat.le_refl _ | (simp; omega) | (simp; done)) _ | with_reducible refine Below.on ?_ (by assumption))))).out.mono ?_; rintro e w7 ⟨rfl, hb7⟩)
    | (go_at_call 14; refine (HQRE _ (by (repeat (first | with_reducible exact Below.refl _ _ | with_reducible assumption | with_reducible refine Below.drew ?_ | with_reducible refine Below.al ?_ _ | with_reducible refine Below.setCell ?_ (by first | exact Nat.le_refl _ | (simp; omega) | (simp; done)) _ | with_reducible refine Below.on ?_ (by assumption))))).out.mono ?_; rintro e w8 ⟨rfl, hb8⟩)
    | (go_at_call 13; refine (HQV _ (by (repeat (first | with_reducible exact Below.refl _ _ | with_reducible assumption | with_reducible refine Below.drew ?_ | with_reducible refine Below.al ?_ _ | with_reducible refine Below.setCell ?_ (by first | exact Nat.le_refl _ | (simp; omega) | (simp; done)) _ | with_reducible refine Below.on ?_ (by assumption))))).out.mono ?_; rintro e w9 ⟨rfl, hb9⟩)
    | (go_at_call 12; refine (HQRV _ (by (repeat (first | with_reducible exact Below.refl _ _ | with_reducible assumption | with_reducible refine Below.drew ?_ | with_reducible refine Below.al ?_ _ | with_reducible refine Below.setCell ?_ (by first | exact Nat.le_refl _ | (simp; omega) | (simp; done)) _ | with_reducible refine Below.on ?_ (by assumption))))).out.mono ?_; rintro e w10 ⟨rfl, hb10⟩))
  go_ret
  exact ⟨rfl, Below.on (Below.on (Below.on (Below.on HB6.out hb7) hb8) hb9) hb10⟩
end Go.Proofs.YtfafkohghgliaaaDoor.Tu
