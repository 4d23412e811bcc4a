import Derived.Test.YtfafkohghgliaabDoorTuPS
import Derived.Test.YtfafkohghgliaabDoorTuRoom
import Derived.Test.YtfafkohghgliaabDoorTuOvr
import Derived.Test.YtfafkohghgliaabDoorTuBx
/- The law: TupleSpans. -/
namespace Go.Proofs.YtfafkohghgliaabDoor.Tu
open Go.RowKit Go.Sort Go.Proofs.YtfafkohghgliaabDoor
set_option linter.unusedVariables false
set_option linter.unusedSectionVars false
variable [DecidableEq Vl]

set_option maxHeartbeats 4000000 in
theorem law_spans {a : Option Addr} {c : Nat} {t : List Vl} {w : World} (h : RowV w a t) (k : Tp t) (hn1 : t.length ≤ 1048576) :
    Calls Tryd.prog 5 #[.slice a t.length c] w fun e w' => e = .returned (.bool true) ∧ Below w.heap.size w w' := by
  have HOWN := hid (own_is (c := c) h (by omega))
  have HK := hid k
  have HR := hid h
  obtain ⟨n, hn⟩ : ∃ n, n = t.length := ⟨_, rfl⟩
  have HN := hid hn
  rw [← hn] at HOWN hn1 ⊢
  obtain ⟨m, hm⟩ : ∃ m, m = vE (okT t) := ⟨_, rfl⟩
  obtain ⟨s, hs⟩ : ∃ s, s = encS t := ⟨_, rfl⟩
  obtain ⟨z, hz⟩ : ∃ z, z = endS t := ⟨_, rfl⟩
  have HE := hid (show m = vE (okT t) ∧ s = encS t ∧ z = endS t from ⟨hm, hs, hz⟩)
  have HRS : ∀ w', Below w.heap.size w w' → Hid (Calls Tryd.prog 18 #[.slice a n c] w' fun e w'' => e = .returned (.tuple #[spv s z, .int .i64 m]) ∧ Below w'.heap.size w' w'') := fun w' hb => by
    rw [hm, hs, hz, hn]; exact hid (refspan_is (HR.out.later hb) HK.out.ok HK.out.ss HK.out.el HK.out.le)
  clear hn hm hs hz h k
  go_enter Tryd.func5, Tryd.ntmps5
  go_wp2_with fail
  refine HOWN.out.mono ?_
  rintro e w1 ⟨g, rfl, hrm, _, hg, hb1⟩
  have HG := hid (show w.heap.size ≤ g ∧ g < w1.heap.size from ⟨hg, hrm.lt⟩)
  have HPS := hid (show Calls Tryd.prog 13 #[.slice (some ⟨g, 0, none⟩) n (n + 1)] w1 fun e w'' => e = .returned (.tuple #[spv s z, .int .i64 m]) ∧ Below w1.heap.size w1 w'' from by
    rw [HE.out.1, HE.out.2.1, HE.out.2.2, HN.out]; exact span_is (by rw [HN.out] at hrm; exact hrm.own) HK.out)
  have HL : ∀ w', Below w1.heap.size w1 w' → Hid (Calls Tryd.prog 19 #[.slice (some ⟨g, 0, none⟩) n (n + 1), .slice a n c] w' fun e w'' => e = .returned (.bool true) ∧ Below w'.heap.size w' w'') := fun w' hb => by
    rw [HN.out]; exact hid (left_is (by rw [HN.out] at hrm; exact hrm.later hb) (HR.out.later (Below.on hb1 hb)) HK.out.ok (by have := HK.out.len; omega))
  have HOV : ∀ w', Below w1.heap.size w1 w' → Hid (Calls Tryd.prog 20 #[.slice (some ⟨g, 0, none⟩) n (n + 1)] w' fun e w'' => e = .returned (.tuple #[]) ∧ RowV w'' (some ⟨g, 0, none⟩) (overL n) ∧ Onl (fun k => k = g) w' w'' ∧ w''.heap.size = w'.heap.size) := fun w' hb =>
    hid (over_is (hrm.later hb) (by omega) (by omega))
  have hW1 := hb1
  clear hrm hg hb1
  have hq : (s.toList == s.toList) = true := by simp
  have hq2 : (z.toList == z.toList) = true := by simp
  go_wp2_with fail
  refine HPS.out.mono ?_
  rintro e w2 ⟨rfl, hb2⟩
  have HB2 := hid hb2
  go_wp2_with fail
  refine (HRS _ (Below.al (Below.on hW1 hb2) _)).out.mono ?_
  rintro e w3 ⟨rfl, hb3⟩
  have HBA := hid ((Bx.new w2 s z 39).later hb3)
  have hba := HBA.out.later (Below.al (Below.refl _ _) (.cells #[.string s, .string z] 39))
  have k0 := hba.c0; have k1 := hba.c1
  clear hba
  have HB3 := hid (Below.on (Below.al HB2.out _) hb3)
  have HZ := hid (show w2.heap.size < w3.heap.size from HBA.out.lt)
  clear hb2 hb3
  go_wp2_with fail
  refine (HL _ (Below.al HB3.out _)).out.mono ?_
  rintro e w4 ⟨rfl, hb4⟩
  have HXA := hid ((HBA.out.later (Below.al (Below.refl _ _) _)).later hb4)
  have HXB := hid ((Bx.new w3 s z 39).later hb4)
  have HB4 := hid (Below.on (Below.al HB3.out _) hb4)
  have hW4 := hid (Below.on hW1 HB4.out)
  clear hb4 k0 k1
  go_wp2_with fail
  refine (HOV _ HB4.out).out.mono ?_
  rintro e w5 ⟨rfl, hrow, honl, hsz5⟩
  have hne2 : ¬ w2.heap.size = g := by have := HG.out.2; have := HB2.out.size; omega
  have hne3 : ¬ w3.heap.size = g := by have := HG.out.2; have := HB3.out.size; omega
  have HYA := hid (HXA.out.onl honl hne2)
  have HYB := hid (HXB.out.onl honl hne3)
  have hW5 := hid (onl_below hW4.out honl HG.out.1)
  have hk2 : Tp (overL n) := overL_tp (by omega)
  have hln : (overL n).length = n := overL_len n
  obtain ⟨m2, hm2⟩ : ∃ m2, m2 = vE (okT (overL n)) := ⟨_, rfl⟩
  obtain ⟨s2, hs2⟩ : ∃ s2, s2 = encS (overL n) := ⟨_, rfl⟩
  obtain ⟨z2, hz2⟩ : ∃ z2, z2 = endS (overL n) := ⟨_, rfl⟩
  have HQ : ∀ w', RowV w' (some ⟨g, 0, none⟩) (overL n) → Hid (Calls Tryd.prog 13 #[.slice (some ⟨g, 0, none⟩) n (n + 1)] w' fun e w'' => e = .returned (.tuple #[spv s2 z2, .int .i64 m2]) ∧ Below w'.heap.size w' w'') := fun w' hr => by
    have := span_is (c := n + 1) hr hk2
    rw [hln, ← hm2, ← hs2, ← hz2] at this; exact hid this
  have HQR : ∀ w', RowV w' (some ⟨g, 0, none⟩) (overL n) → Hid (Calls Tryd.prog 18 #[.slice (some ⟨g, 0, none⟩) n (n + 1)] w' fun e w'' => e = .returned (.tuple #[spv s2 z2, .int .i64 m2]) ∧ Below w'.heap.size w' w'') := fun w' hr => by
    have := refspan_is (c := n + 1) hr hk2.ok hk2.ss hk2.el hk2.le
    rw [hln, ← hm2, ← hs2, ← hz2] at this; exact hid this
  have HRW := hid hrow
  clear hrow honl hsz5 hm2 hs2 hz2 hk2 hln hq hq2 HPS HRS HL HOV HBA HXA HXB hW4 HB4
  have hq : (s2.toList == s2.toList) = true := by simp
  have hq2 : (z2.toList == z2.toList) = true := by simp
  go_wp2_with fail
  refine (HQ _ HRW.out).out.mono ?_
  rintro e w6 ⟨rfl, hb6⟩
  have HA6 := hid (HYA.out.later hb6)
  have HB6 := hid (HYB.out.later hb6)
  have hW6 := hid (Below.on hW5.out hb6)
  have HR6 := hid (HRW.out.later hb6)
  have k0 := HA6.out.c0; have k1 := HA6.out.c1; have l0 := HA6.out.lo 0; have l1 := HA6.out.lo 1
  clear hb6 HYA HYB hW5 HRW
  go_wp2_with fail
  have HA7 := hid (HA6.out.put s2 z2)
  have HB7 := hid (HB6.out.other (q := w2.heap.size) (by have := HZ.out; omega) s2 z2)
  have HO7 : Hid (Onl (fun k => k = w2.heap.size) w6 ((w6.setCell ⟨w2.heap.size, 0, none⟩ (.string s2)).setCell ⟨w2.heap.size, 1, none⟩ (.string z2))) := hid (((Onl.refl (fun k => k = w2.heap.size) w6).set (p := w2.heap.size) rfl _ _).set (p := w2.heap.size) rfl _ _)
  have HR7 := hid (HR6.out.onl HO7.out (by omega))
  have hW7 := hid (onl_below hW6.out HO7.out (by have := HB2.out.size; have := hW1.size; omega))
  obtain ⟨w7, hw7⟩ : ∃ w7, w7 = (w6.setCell ⟨w2.heap.size, 0, none⟩ (.string s2)).setCell ⟨w2.heap.size, 1, none⟩ (.string z2) := ⟨_, rfl⟩
  rw [← hw7] at HA7 HB7 HR7 hW7 ⊢
  clear hw7 HO7 HA6 HB6 hW6 HR6 k0 k1 l0 l1
  refine (HQR _ HR7.out).out.mono ?_
  rintro e w8 ⟨rfl, hb8⟩
  have HA8 := hid (HA7.out.later hb8)
  have HB8 := hid (HB7.out.later hb8)
  have hW8 := hid (Below.on hW7.out hb8)
  have k0 := HA8.out.c0; have k1 := HA8.out.c1; have j0 := HB8.out.c0; have j1 := HB8.out.c1; have l0 := HB8.out.lo 0; have l1 := HB8.out.lo 1
  have hd : w2.heap.size ≠ w3.heap.size := by have := HZ.out; omega
  clear hb8 HA7 HB7 HR7 hW7
  go_wp2_with fail
  go_ret
  refine ⟨rfl, ?_⟩
  have hle : w.heap.size ≤ w3.heap.size := by have := HB3.out.size; have := hW1.size; omega
  exact Below.setCell (Below.setCell hW8.out hle _) hle _
end Go.Proofs.YtfafkohghgliaabDoor.Tu
