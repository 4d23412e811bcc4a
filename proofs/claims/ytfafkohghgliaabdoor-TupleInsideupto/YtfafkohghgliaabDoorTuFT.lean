import Derived.Test.YtfafkohghgliaabDoorTuCut
import Derived.Test.YtfafkohghgliaabDoorTuVal
import Derived.Test.YtfafkohghgliaabDoorTuFe
import Derived.Test.YtfafkohghgliaabDoorTuRefE
import Derived.Test.YtfafkohghgliaabDoorGtBld
/- The program reads a text. -/
namespace Go.Proofs.YtfafkohghgliaabDoor.Tu
open Go.RowKit Go.Sort Go.Proofs.YtfafkohghgliaabDoor
open Go.Proofs.YtfafkohghgliaabDoor.Rt (Bld)
set_option linter.unusedVariables false
set_option linter.unusedSectionVars false
variable [DecidableEq Vl]
set_option linter.unusedSimpArgs false

theorem nth_one : ∀ w, (Instr.index 9 (.string ⟨#[0, 255]⟩) (.int .i64 1)).run Tryd.prog w = .ok (.int .u8 255) w := fun w => index_at (t := [0, 255]) (k := 1) (c := 255) (by intro x hx; simp at hx; omega) rfl w
theorem nth_nil : ∀ w, (Instr.index 9 (.string ⟨#[0, 255]⟩) (.int .i64 0)).run Tryd.prog w = .ok (.int .u8 0) w := fun w => index_at (t := [0, 255]) (k := 0) (c := 0) (by intro x hx; simp at hx; omega) rfl w
theorem ft_end {r s p t : List Nat} (hU : unesc r = (unesc (p ++ 0 :: t)).map fun p => (s ++ p.1, p.2)) (h0 : 0 ∉ p) (hh : t.head? ≠ some 255) : takeV (48 :: r) = some (vText (s ++ p), t) := by
  rw [takeV_text, hU, unesc_end hh h0]
  rfl
theorem ft_none {r s q : List Nat} (hU : unesc r = (unesc q).map fun p => (s ++ p.1, p.2)) (h0 : 0 ∉ q) : takeV (48 :: r) = none := by
  rw [takeV_text, hU, unesc_none h0]
  rfl
theorem ft_more {r s p t : List Nat} (hU : unesc r = (unesc (p ++ 0 :: 255 :: t)).map fun p => (s ++ p.1, p.2)) (h0 : 0 ∉ p) : unesc r = (unesc t).map fun q => (s ++ p ++ [0] ++ q.1, q.2) := by
  rw [hU, unesc_more h0]
  generalize unesc t = o
  cases o <;> simp
set_option maxHeartbeats 2000000 in
theorem ftext_is {r : List Nat} (h8 : B8 r) (hl : r.length ≤ 67108864) (w : World) : Calls Tryd.prog 47 #[.string (ofNats (48 :: r))] w (Fe (48 :: r) w) := by
  have hsz : (ofNats (48 :: r)).size = r.length + 1 := by rw [ofNats_size]; rfl
  have h88 : B8 (48 :: r) := by intro x hx; rcases List.mem_cons.1 hx with rfl | hx
                                · decide
                                · exact h8 x hx
  have hsub : (ofNats (48 :: r)).extract 1 (r.length + 1) = ofNats r := by
    rw [ofNats_extract h88, List.take_of_length_le (by simp)]; rfl
  obtain ⟨n, hn⟩ : ∃ n, n = r.length := ⟨_, rfl⟩
  have HN := hid hn
  have H8 := hid h8
  rw [← hn] at hl hsz hsub
  obtain ⟨b, hb⟩ : ∃ b, b = ofNats (48 :: r) := ⟨_, rfl⟩
  rw [← hb] at hsz hsub ⊢
  obtain ⟨s0, hs0⟩ : ∃ s0, s0 = ofNats r := ⟨_, rfl⟩
  rw [← hs0] at hsub
  have HS0 := hid hs0
  clear hb h8 h88 hn hs0
  obtain ⟨W, hW⟩ : ∃ W, W = w.alloc (.cells #[.int .i64 0, .bool false, .int .i64 0, .string ⟨#[]⟩] 32) := ⟨_, rfl⟩
  have HBW : Hid (Below w.heap.size w W) := by show Below _ _ _; rw [hW]; exact Below.al (Below.refl _ _) _
  have hWs : W.heap.size = w.heap.size + 1 := by rw [hW]; simp
  have q0 : W.cell? ⟨w.heap.size, 0, none⟩ = some (.int .i64 0) := by rw [hW]; simp [go_sem]
  have q1 : W.cell? ⟨w.heap.size, 1, none⟩ = some (.bool false) := by rw [hW]; simp [go_sem]
  have q2 : W.cell? ⟨w.heap.size, 2, none⟩ = some (.int .i64 0) := by rw [hW]; simp [go_sem]
  have q3 : W.cell? ⟨w.heap.size, 3, none⟩ = some (.string ⟨#[]⟩) := by rw [hW]; simp [go_sem]
  have HQ := hid (show _ ∧ _ ∧ _ ∧ _ from ⟨q0, q1, q2, q3⟩)
  have HF : Hid (∀ o, W.frozen? ⟨w.heap.size, o, none⟩ = false) := by intro o; rw [hW]; simp [go_sem]
  have HWs := hid hWs
  go_enter Tryd.func47, Tryd.ntmps47
  go_wp2_with fail
  rw [← hW]
  clear hW q0 q1 q2 q3 hWs
  go_loopg [5, 6, 7, 8] n (fun g s5 s6 s7 s8 wr => ∃ (q s : List Nat) (z : ByteArray), s5 = .string z ∧ g = q.length ∧ z = ofNats q ∧ Hid (B8 q) ∧ Hid (s.length + q.length ≤ n) ∧ Hid (unesc r = (unesc q).map fun p => (s ++ p.1, p.2)) ∧ Hid (Bld W wr (w.heap.size + 1) s))
  case atStart => exact ⟨r, [], s0, rfl, HN.out, HS0.out, H8, by show _ ≤ _; simp [← HN.out], by show _ = _; generalize unesc r = o; cases o <;> rfl, HWs.out ▸ Rt.Bld.new W⟩
  case round =>
    obtain ⟨q, s, z, rfl, rfl, hz, HQ8, HSL, HU, HB⟩ := hrel
    by_cases hm : 0 ∈ q
    · obtain ⟨p, t, rfl, h0⟩ := cut0 hm
      have hlen : (p ++ 0 :: t).length ≤ 67108864 := by have := HSL.out; omega
      have HC := fun w => hid (cut_at HQ8.out (by omega) h0 w)
      rw [← hz] at HC
      have p8 : B8 p := fun x hx => HQ8.out x (List.mem_append_left _ hx)
      have t8 : B8 t := fun x hx => HQ8.out x (List.mem_append_right _ (List.mem_cons_of_mem _ hx))
      have hlp : s.length + p.length ≤ 140737488355328 := by have := HSL.out; rw [List.length_append] at this; omega
      have HP := hid h0
      obtain ⟨sp, hsp⟩ : ∃ sp, sp = ofNats p := ⟨_, rfl⟩
      obtain ⟨st, hst⟩ : ∃ st, st = ofNats t := ⟨_, rfl⟩
      have htz : st.size = t.length := by rw [hst, ofNats_size]
      have HSP := hid (show _ ∧ _ from ⟨hsp, hst⟩)
      have HW1 : ∀ w' : World, Bld W w' (w.heap.size + 1) s → Hid (Calls Tryd.prog 53 #[.pointer (some ⟨w.heap.size + 1, 0, none⟩), .string sp] w' fun e w'' => e = .returned (.tuple #[.int .i64 p.length, .nilIface]) ∧ Bld W w'' (w.heap.size + 1) (s ++ p) ∧ Rt.Oth w' w'' (w.heap.size + 1)) := fun w' hB => by rw [hsp]; exact hid (Rt.adds_is hB hlp)
      rw [← hsp, ← hst] at HC
      clear hsp hst hm h0 hz
      by_cases hh : t.head? = some 255
      · obtain ⟨t', rfl⟩ : ∃ t', t = 255 :: t' := by cases t with
          | nil => simp at hh
          | cons c t' => exact ⟨t', by simpa using hh⟩
        have HU2 : Hid (unesc r = (unesc t').map fun q => (s ++ p ++ [0] ++ q.1, q.2)) := ft_more HU.out HP.out
        have hix : ∀ w, (Instr.index 9 (.string st) (.int .i64 0)).run Tryd.prog w = .ok (.int .u8 255) w := fun w => by rw [HSP.out.2]; exact index_at (k := 0) (c := 255) t8 rfl w
        have hqe : (st.toList == (⟨#[]⟩ : ByteArray).toList) = false := by rw [HSP.out.2]; exact (beq_nats t8 B8.nil).trans (by simp)
        have hqi : st.toList.isEmpty = false := by rw [HSP.out.2, toL]; rfl
        have hse : st.extract 1 (t'.length + 1) = ofNats t' := by rw [HSP.out.2, ofNats_extract t8, List.take_of_length_le (by simp)]; rfl
        obtain ⟨sr, hsr⟩ : ∃ sr, sr = ofNats t' := ⟨_, rfl⟩
        rw [← hsr] at hse
        have HSR := hid hsr
        have HT8 : Hid (B8 t') := fun x hx => t8 x (List.mem_cons_of_mem _ hx)
        have HSL2 : Hid ((s ++ p ++ [0]).length + t'.length ≤ n) := by show _ ≤ _; have := HSL.out; simp only [List.length_append, List.length_cons, List.length_nil] at this ⊢; omega
        have htl : t'.length < (p ++ 0 :: 255 :: t').length := by rw [List.length_append]; simp; omega
        have hcl : (s ++ p).length + 1 ≤ 140737488355328 := by have := HSL2.out; rw [List.length_append, List.length_singleton] at this; omega
        have htz' : st.size = t'.length + 1 := by rw [htz]; rfl
        have HA : ∀ w' : World, Bld W w' (w.heap.size + 1) (s ++ p) → Hid (Calls Tryd.prog 71 #[.pointer (some ⟨w.heap.size + 1, 0, none⟩), .int .u8 0] w' fun e w'' => e = .returned .nilIface ∧ Bld W w'' (w.heap.size + 1) (s ++ p ++ [0])) := fun w' hB => hid (Rt.add_is (c := 0) hB (by decide) hcl)
        clear hsr t8 p8 hh htz
        go_wp2_with (first | (go_at_call 70; refine (HC _).out.mono ?_; rintro e w2 ⟨rfl, hb2⟩; have HB2 := hid hb2; have HBD := hid (HB.out.on hb2); clear hb2) | (go_at_call 53; refine (HW1 _ HBD.out).out.mono ?_; rintro e w3 ⟨rfl, hd3, hoth⟩; clear hoth; have HD3 := hid hd3; clear hd3))
        go_region
        go_wp2_with (go_at_call 71; refine (HA _ (HD3.out.on (by (repeat (first | exact Below.refl _ _ | assumption | refine Below.drew ?_ | refine Below.al ?_ _ | refine Below.setCell ?_ (by first | exact Nat.le_refl _ | (simp; omega) | (simp; done)) _ | refine Below.on ?_ (by assumption)))))).out.mono ?_; rintro e w4 ⟨rfl, hd4⟩; have HD4 := hid hd4; clear hd4)
        go_roundg (t'.length)
        case measure => exact htl
        case rel => exact ⟨t', s ++ p ++ [0], sr, rfl, rfl, HSR.out, HT8, HSL2, HU2, HD4⟩
      · have HV : Hid (takeV (48 :: r) = some (vText (s ++ p), t)) := ft_end HU.out HP.out hh
        have htn : t.length ≤ n := by have := HSL.out; rw [List.length_append] at this; simp at this; omega
        have HTN := hid htn
        cases t with
        | nil =>
          have hqe : (st.toList == (⟨#[]⟩ : ByteArray).toList) = true := by rw [HSP.out.2]; exact (beq_nats t8 B8.nil).trans (by simp)
          have hqi : st.toList.isEmpty = true := by rw [HSP.out.2, toL]; rfl
          replace htz : st.size = 0 := htz
          clear t8 p8 hh
          go_wp2_with (first | (go_at_call 70; refine (HC _).out.mono ?_; rintro e w2 ⟨rfl, hb2⟩; have HB2 := hid hb2; have HBD := hid (HB.out.on hb2); clear hb2) | (go_at_call 53; refine (HW1 _ HBD.out).out.mono ?_; rintro e w3 ⟨rfl, hd3, hoth⟩; clear hoth; have HD3 := hid hd3; clear hd3))
          go_region
          go_wp2_with (first | (go_at_call 54; refine (Rt.text_is (HD3.out.on (by (repeat (first | exact Below.refl _ _ | assumption | refine Below.drew ?_ | refine Below.al ?_ _ | refine Below.setCell ?_ (by first | exact Nat.le_refl _ | (simp; omega) | (simp; done)) _ | refine Below.on ?_ (by assumption)))))).mono ?_; rintro e w4 ⟨rfl, hb4⟩; have HB4 := hid hb4; clear hb4) | (go_at_call 61; refine (txt_is _ _).mono ?_; rintro e w5 ⟨rfl, hb5⟩; have HB5 := hid (Below.on HB4.out hb5); clear hb5; have r0 := cell_later HB5.out HQ.out.1; have r1 := cell_later HB5.out HQ.out.2.1; have r2 := cell_later HB5.out HQ.out.2.2.1; have r3 := cell_later HB5.out HQ.out.2.2.2; have HLL : Hid (Loose w5 w.heap.size) := hid (Loose.later HF.out HB5.out (by have := HWs.out; omega)); have f0 := HLL.out 0; have f1 := HLL.out 1; have f2 := HLL.out 2; have f3 := HLL.out 3))
          refine bodyPost_ret (v := .tuple #[vlv 3 false 0 (ofNats (s ++ p)), .int .i64 ((n : Int) + 1)]) (by simp [results, Tryd.results47, go_sem, r0, r1, r2, r3]) rfl (Fe.some (r := []) (v := vText (s ++ p)) HV.out ?_ ?_)
          · rw [show (((48 :: r).length - ([]).length : Nat) : Int) = (n : Int) + 1 by rw [List.length_cons, ← HN.out]; have := HTN.out; simp only [List.length_nil, List.length_cons] at this ⊢; omega]
            rfl
          · have hbb := Below.on HBW.out HB5.out
            (repeat (first | exact Below.refl _ _ | assumption | refine Below.drew ?_ | refine Below.al ?_ _ | refine Below.setCell ?_ (by first | exact Nat.le_refl _ | (simp; omega) | (simp; done)) _ | refine Below.on ?_ (by assumption)))
        | cons c t' =>
          have hix : ∀ w, (Instr.index 9 (.string st) (.int .i64 0)).run Tryd.prog w = .ok (.int .u8 (c : Int)) w := fun w => by rw [HSP.out.2]; exact index_at (k := 0) (c := c) t8 rfl w
          have hqe : (st.toList == (⟨#[]⟩ : ByteArray).toList) = false := by rw [HSP.out.2]; exact (beq_nats t8 B8.nil).trans (by simp)
          have hqi : st.toList.isEmpty = false := by rw [HSP.out.2, toL]; rfl
          have hc : ((c : Int) == 255) = false := by simp; intro h; exact hh (by simp; omega)
          have hc2 : ((c : Int) != 255) = true := by simp; intro h; exact hh (by simp; omega)
          have hc3 : ((c : Int) != (((⟨#[0, 255]⟩ : ByteArray)[1]'(by decide)).toNat : Int)) = true := hc2
          replace htz : st.size = t'.length + 1 := htz
          replace htn : t'.length + 1 ≤ n := htn
          clear t8 p8 hh
          go_wp2_with (first | (go_at_call 70; refine (HC _).out.mono ?_; rintro e w2 ⟨rfl, hb2⟩; have HB2 := hid hb2; have HBD := hid (HB.out.on hb2); clear hb2) | (go_at_call 53; refine (HW1 _ HBD.out).out.mono ?_; rintro e w3 ⟨rfl, hd3, hoth⟩; clear hoth; have HD3 := hid hd3; clear hd3))
          go_region
          go_wp2_with (first | (go_at_call 54; refine (Rt.text_is (HD3.out.on (by (repeat (first | exact Below.refl _ _ | assumption | refine Below.drew ?_ | refine Below.al ?_ _ | refine Below.setCell ?_ (by first | exact Nat.le_refl _ | (simp; omega) | (simp; done)) _ | refine Below.on ?_ (by assumption)))))).mono ?_; rintro e w4 ⟨rfl, hb4⟩; have HB4 := hid hb4; clear hb4) | (go_at_call 61; refine (txt_is _ _).mono ?_; rintro e w5 ⟨rfl, hb5⟩; have HB5 := hid (Below.on HB4.out hb5); clear hb5; have r0 := cell_later HB5.out HQ.out.1; have r1 := cell_later HB5.out HQ.out.2.1; have r2 := cell_later HB5.out HQ.out.2.2.1; have r3 := cell_later HB5.out HQ.out.2.2.2; have HLL : Hid (Loose w5 w.heap.size) := hid (Loose.later HF.out HB5.out (by have := HWs.out; omega)); have f0 := HLL.out 0; have f1 := HLL.out 1; have f2 := HLL.out 2; have f3 := HLL.out 3))
          refine bodyPost_ret (v := .tuple #[vlv 3 false 0 (ofNats (s ++ p)), .int .i64 ((n : Int) + 1 - ((t'.length : Int) + 1))]) (by simp [results, Tryd.results47, go_sem, r0, r1, r2, r3]) rfl (Fe.some (r := c :: t') (v := vText (s ++ p)) HV.out ?_ ?_)
          · rw [show (((48 :: r).length - (c :: t').length : Nat) : Int) = (n : Int) + 1 - ((t'.length : Int) + 1) by rw [List.length_cons, ← HN.out]; have := HTN.out; simp only [List.length_nil, List.length_cons] at this ⊢; omega]
            rfl
          · have hbb := Below.on HBW.out HB5.out
            (repeat (first | exact Below.refl _ _ | assumption | refine Below.drew ?_ | refine Below.al ?_ _ | refine Below.setCell ?_ (by first | exact Nat.le_refl _ | (simp; omega) | (simp; done)) _ | refine Below.on ?_ (by assumption)))
    · have HV : Hid (takeV (48 :: r) = none) := ft_none HU.out hm
      have HC := fun w => hid (cut_no HQ8.out (by have := HSL.out; omega) hm w)
      have HZ := hid hz
      rw [← hz] at HC
      clear hm hz
      go_wp2_with (go_at_call 70; refine (HC _).out.mono ?_; rintro e w2 ⟨rfl, hb2⟩; have HB2 := hid (Below.on HB.out.bl hb2); clear hb2; have r0 := cell_later HB2.out HQ.out.1; have r1 := cell_later HB2.out HQ.out.2.1; have r2 := cell_later HB2.out HQ.out.2.2.1; have r3 := cell_later HB2.out HQ.out.2.2.2; have HLL : Hid (Loose w2 w.heap.size) := hid (Loose.later HF.out HB2.out (by have := HWs.out; omega)); have f0 := HLL.out 0; have f1 := HLL.out 1; have f2 := HLL.out 2; have f3 := HLL.out 3)
      refine bodyPost_ret (v := .tuple #[vlv 0 false 0 ⟨#[]⟩, .int .i64 0]) (by simp [results, Tryd.results47, go_sem, r0, r1, r2, r3]) rfl (Fe.none HV.out rfl ?_)
      have hbb := Below.on HBW.out HB2.out
      (repeat (first | exact Below.refl _ _ | assumption | refine Below.drew ?_ | refine Below.al ?_ _ | refine Below.setCell ?_ (by first | exact Nat.le_refl _ | (simp; omega) | (simp; done)) _ | refine Below.on ?_ (by assumption)))
end Go.Proofs.YtfafkohghgliaabDoor.Tu
