import Derived.Test.YtmbmagfdeadibaaDXDoes
import Derived.Test.YtmbmagfdeadibaaDCloneLaw
import Derived.Deep.CutBlock
namespace Go.Proofs.Ytmbmagfdeadibaa
open Go.RowKit Go.Sort
set_option linter.unusedVariables false
variable {R : World → (Nat → Prop) → Nat → Dk → Prop}

def abP (P Q : Nat) : Bool → Nat := fun b => match b with
  | true => P
  | false => Q
/-- alike on both sides -/
def Eqs (d : Bool → Nat → Dk) : Prop := ∀ i, d true i = d false i
theorem Eqs.up {d : Bool → Nat → Dk} (h : Eqs d) (o : Nat) (e : Dk) : Eqs (up2 (up2 d true o e) false o e) := by
  intro i
  by_cases hi : i = o
  · subst hi
    rw [up2_same, up2_other _ _ (.inl (by decide)), up2_same]
  · rw [up2_other _ _ (.inr hi), up2_other _ _ (.inr hi), up2_other _ _ (.inr hi), up2_other _ _ (.inr hi)]
    exact h i
theorem St.start (I : Face R) {wb wr wz : World} (hb : Below wb.heap.size wb wr) (hz : wz = (wr.alloc (.cells #[.pointer none, .pointer none, .pointer none] 46)).alloc (.cells #[.pointer none, .pointer none, .pointer none] 48)) (F : Bool → Nat → Nat → Prop) (p : Bool → Nat → Nat) (d : Bool → Nat → Dk) :
    St R (fun _ => 0) wb wz (abP wr.heap.size (wr.heap.size + 1)) F p d := by
  have hsz := hb.size
  refine ⟨fun b i hi => absurd hi (Nat.not_lt_zero i), fun b i b' i' hi => absurd hi (Nat.not_lt_zero i), fun b i hi => absurd hi (Nat.not_lt_zero i), fun b i hi => absurd hi (Nat.not_lt_zero i), fun b => ?_, fun b b' hn => ?_, fun b i hi => ?_, fun b i hi => absurd hi (Nat.not_lt_zero i), fun b o => ?_, ?_⟩
  · cases b <;> simp only [abP] <;> omega
  · cases b <;> cases b' <;> simp only [abP] <;> first | omega | exact absurd rfl hn
  · obtain rfl | rfl | rfl : i = 0 ∨ i = 1 ∨ i = 2 := by omega
    all_goals
      refine ⟨none, ?_⟩
      rw [hz]
      cases b <;> simp only [abP] <;> simp [go_sem]
  · rw [hz]
    cases b <;> simp only [abP] <;> simp [go_sem]
  · rw [hz]
    exact Below.al (Below.al hb _) _

set_option maxHeartbeats 8000000 in
set_option maxRecDepth 8000 in
theorem exact_law (I : Face R) {w : World} {a : Option Addr} {k1 : Nat} {xs : List Stp} (hx : RowS w a xs) (hxl : xs.length ≤ 9223372036854775807) :
    Calls Try.prog 7 #[.slice a xs.length k1] w fun e w' => e = .returned (.bool true) ∧ Below w.heap.size w w' := by
  have HI := hid I
  have HX := hid hx
  clear I hx
  go_enter Try.func7, Try.ntmps7
  go_wp2_with fail
  refine (HI.out.new 2 w ⟨by omega, by omega⟩).mono ?_
  rintro e w1 ⟨h, F0, rfl, hR, hF, hb1⟩
  have H1 : Hid (R w1 F0 h (Dk.new 2) ∧ (∀ k, F0 k → w.heap.size ≤ k) ∧ Below w.heap.size w w1) := ⟨hR, hF, hb1⟩
  clear hR hF hb1
  go_wp2_with fail
  refine (HI.out.append H1.out.1 1 (t := [97, 98]) ⟨by omega, by omega⟩ (fun x hx => by simp at hx; omega)).mono ?_
  rintro e w2 ⟨rfl, hm⟩
  rw [show (Dk.new 2).appE 1 [97, 98] = 0 by decide]
  obtain ⟨F2, hR2, hF2, hb2⟩ : One R w w2 h ((Dk.new 2).app 1 [97, 98]) := One.move H1.out.2.1 H1.out.2.2 hm
  have H2 : Hid (R w2 F2 h ((Dk.new 2).app 1 [97, 98]) ∧ (∀ k, F2 k → w.heap.size ≤ k) ∧ Below w.heap.size w w2) := ⟨hR2, hF2, hb2⟩
  clear hm hR2 hF2 hb2 H1
  go_wp2_with fail
  refine (HI.out.append H2.out.1 0 (t := [99]) ⟨by omega, by omega⟩ (fun x hx => by simp at hx; omega)).mono ?_
  rintro e w3 ⟨rfl, hm⟩
  rw [show ((Dk.new 2).app 1 [97, 98]).appE 0 [99] = 60 by decide]
  obtain ⟨F3, hR3, hF3, hb3⟩ : One R w w3 h (((Dk.new 2).app 1 [97, 98]).app 0 [99]) := One.move H2.out.2.1 H2.out.2.2 hm
  have H3 : Hid (R w3 F3 h (((Dk.new 2).app 1 [97, 98]).app 0 [99]) ∧ (∀ k, F3 k → w.heap.size ≤ k) ∧ Below w.heap.size w w3) := ⟨hR3, hF3, hb3⟩
  clear hm hR3 hF3 hb3 H2
  go_wp2_with fail
  refine (HI.out.bytes H3.out.1 1 ⟨by omega, by omega⟩).mono ?_
  rintro e w4 ⟨rfl, hb4⟩
  rw [show ofNats ((((Dk.new 2).app 1 [97, 98]).app 0 [99]).bytes 1) = ⟨#[97, 98]⟩ by rfl]
  have HB4 := hid (Below.on H3.out.2.2 hb4)
  clear hb4 H3
  go_wp2_with fail
  obtain ⟨wz, hwz⟩ : ∃ wz, wz = (w4.alloc (.cells #[.pointer none, .pointer none, .pointer none] 46)).alloc (.cells #[.pointer none, .pointer none, .pointer none] 48) := ⟨_, rfl⟩
  have hst := St.start HI.out HB4.out hwz (fun _ _ _ => False) (fun _ _ => 0) (fun _ _ => Dk.new 64)
  rw [← hwz]
  obtain ⟨P, hP⟩ : ∃ P, P = w4.heap.size := ⟨_, rfl⟩
  obtain ⟨Q, hQ⟩ : ∃ Q, Q = P + 1 := ⟨_, rfl⟩
  rw [← hP, ← hQ] at hst ⊢
  have HS0 := hid hst
  clear hst hwz hP hQ
  go_loopg [6] 3 (fun g s6 wr => ∃ k : Nat, k ≤ 3 ∧ g = 3 - k ∧ s6 = .int .i64 k ∧ ∃ F p d, Hid (St R (fun _ => k) w wr (abP P Q) F p d ∧ Eqs d))
  case atStart => exact ⟨0, by omega, by omega, rfl, _, _, _, ⟨HS0.out, fun i => rfl⟩⟩
  case round =>
    obtain ⟨k, hk, rfl, rfl, F, p, d, HK⟩ := hrel
    clear HS0
    obtain rfl | rfl | rfl | rfl : k = 0 ∨ k = 1 ∨ k = 2 ∨ k = 3 := by omega
    · go_wp2_with fail
      refine (HI.out.new 64 wr ⟨by omega, by omega⟩).mono ?_
      rintro e w5 ⟨p5, F5, rfl, hR5, hF5, hb5⟩
      obtain ⟨v5, hv5⟩ := (HK.out.1.later HI.out hb5).any true 0 (by omega)
      have hc5 : w5.cell? ⟨P, 0, none⟩ = some (.pointer v5) := hv5
      have hf5 : w5.frozen? ⟨P, 0, none⟩ = false := (HK.out.1.later HI.out hb5).loose true 0
      have hS5 : St R (fun b => if b then 0 + 1 else 0) w (w5.setCell ⟨P, 0, none⟩ (ptr p5)) (abP P Q) (up2 F true 0 F5) (up2 p true 0 p5) (up2 d true 0 (Dk.new 64)) :=
        HK.out.1.put HI.out (b := true) (i := 0) (by omega) (fun b' j hj => by
          cases b'
          · exact .inr ⟨hj, .inl (by decide)⟩
          · have hj' : j < 0 + 1 := hj
            by_cases e : j = 0
            · exact .inl ⟨rfl, e⟩
            · exact .inr ⟨by omega, .inr e⟩) hb5 hR5 hF5
      have HS5 := hid hS5
      clear hR5 hF5 hb5 hv5 hS5
      go_wp2_with fail
      obtain ⟨w6, hw6⟩ : ∃ w6, w6 = w5.setCell ⟨P, 0, none⟩ (ptr p5) := ⟨_, rfl⟩
      rw [← hw6] at HS5 ⊢
      clear hw6 hc5 hf5
      refine (rd_new 64 w6).mono ?_
      rintro e w7 ⟨q7, G7, rfl, hR7, hG7, hb7⟩
      obtain ⟨v7, hv7⟩ := (HS5.out.later HI.out hb7).any false 0 (by omega)
      have hc7 : w7.cell? ⟨Q, 0, none⟩ = some (.pointer v7) := hv7
      have hf7 : w7.frozen? ⟨Q, 0, none⟩ = false := (HS5.out.later HI.out hb7).loose false 0
      have hS7 : St R (fun _ => 0 + 1) w (w7.setCell ⟨Q, 0, none⟩ (ptr q7)) (abP P Q) (up2 (up2 F true 0 F5) false 0 G7) (up2 (up2 p true 0 p5) false 0 q7) (up2 (up2 d true 0 (Dk.new 64)) false 0 (Dk.new 64)) :=
        HS5.out.put HI.out (b := false) (i := 0) (by omega) (fun b' j hj => by
          have hj' : j < 0 + 1 := hj
          cases b'
          · by_cases e : j = 0
            · exact .inl ⟨rfl, e⟩
            · exact .inr ⟨by show j < 0; omega, .inr e⟩
          · exact .inr ⟨hj', .inl (by decide)⟩) hb7 hR7 hG7
      have hcP : (w7.setCell ⟨Q, 0, none⟩ (ptr q7)).cell? ⟨P, 0, none⟩ = some (ptr p5) := by
        have := hS7.cell true 0 (by omega)
        rw [up2_other _ _ (.inl (by decide)), up2_same] at this
        exact this
      have HS7 : Hid (St R (fun _ => 0 + 1) w (w7.setCell ⟨Q, 0, none⟩ (ptr q7)) (abP P Q) (up2 (up2 F true 0 F5) false 0 G7) (up2 (up2 p true 0 p5) false 0 q7) (up2 (up2 d true 0 (Dk.new 64)) false 0 (Dk.new 64)) ∧ Eqs (up2 (up2 d true 0 (Dk.new 64)) false 0 (Dk.new 64))) := ⟨hS7, HK.out.2.up _ _⟩
      clear hR7 hG7 hb7 hv7 hS7 HS5
      go_wp2_with fail
      go_roundg 2
      case measure => omega
      case rel => exact ⟨1, by omega, rfl, by go_num, _, _, _, HS7⟩
    · go_wp2_with fail
      refine (HI.out.new 64 wr ⟨by omega, by omega⟩).mono ?_
      rintro e w5 ⟨p5, F5, rfl, hR5, hF5, hb5⟩
      obtain ⟨v5, hv5⟩ := (HK.out.1.later HI.out hb5).any true 1 (by omega)
      have hc5 : w5.cell? ⟨P, 1, none⟩ = some (.pointer v5) := hv5
      have hf5 : w5.frozen? ⟨P, 1, none⟩ = false := (HK.out.1.later HI.out hb5).loose true 1
      have hS5 : St R (fun b => if b then 1 + 1 else 1) w (w5.setCell ⟨P, 1, none⟩ (ptr p5)) (abP P Q) (up2 F true 1 F5) (up2 p true 1 p5) (up2 d true 1 (Dk.new 64)) :=
        HK.out.1.put HI.out (b := true) (i := 1) (by omega) (fun b' j hj => by
          cases b'
          · exact .inr ⟨hj, .inl (by decide)⟩
          · have hj' : j < 1 + 1 := hj
            by_cases e : j = 1
            · exact .inl ⟨rfl, e⟩
            · exact .inr ⟨by omega, .inr e⟩) hb5 hR5 hF5
      have HS5 := hid hS5
      clear hR5 hF5 hb5 hv5 hS5
      go_wp2_with fail
      obtain ⟨w6, hw6⟩ : ∃ w6, w6 = w5.setCell ⟨P, 1, none⟩ (ptr p5) := ⟨_, rfl⟩
      rw [← hw6] at HS5 ⊢
      clear hw6 hc5 hf5
      refine (rd_new 64 w6).mono ?_
      rintro e w7 ⟨q7, G7, rfl, hR7, hG7, hb7⟩
      obtain ⟨v7, hv7⟩ := (HS5.out.later HI.out hb7).any false 1 (by omega)
      have hc7 : w7.cell? ⟨Q, 1, none⟩ = some (.pointer v7) := hv7
      have hf7 : w7.frozen? ⟨Q, 1, none⟩ = false := (HS5.out.later HI.out hb7).loose false 1
      have hS7 : St R (fun _ => 1 + 1) w (w7.setCell ⟨Q, 1, none⟩ (ptr q7)) (abP P Q) (up2 (up2 F true 1 F5) false 1 G7) (up2 (up2 p true 1 p5) false 1 q7) (up2 (up2 d true 1 (Dk.new 64)) false 1 (Dk.new 64)) :=
        HS5.out.put HI.out (b := false) (i := 1) (by omega) (fun b' j hj => by
          have hj' : j < 1 + 1 := hj
          cases b'
          · by_cases e : j = 1
            · exact .inl ⟨rfl, e⟩
            · exact .inr ⟨by show j < 1; omega, .inr e⟩
          · exact .inr ⟨hj', .inl (by decide)⟩) hb7 hR7 hG7
      have hcP : (w7.setCell ⟨Q, 1, none⟩ (ptr q7)).cell? ⟨P, 1, none⟩ = some (ptr p5) := by
        have := hS7.cell true 1 (by omega)
        rw [up2_other _ _ (.inl (by decide)), up2_same] at this
        exact this
      have HS7 : Hid (St R (fun _ => 1 + 1) w (w7.setCell ⟨Q, 1, none⟩ (ptr q7)) (abP P Q) (up2 (up2 F true 1 F5) false 1 G7) (up2 (up2 p true 1 p5) false 1 q7) (up2 (up2 d true 1 (Dk.new 64)) false 1 (Dk.new 64)) ∧ Eqs (up2 (up2 d true 1 (Dk.new 64)) false 1 (Dk.new 64))) := ⟨hS7, HK.out.2.up _ _⟩
      clear hR7 hG7 hb7 hv7 hS7 HS5
      go_wp2_with fail
      go_roundg 1
      case measure => omega
      case rel => exact ⟨2, by omega, rfl, by go_num, _, _, _, HS7⟩
    · go_wp2_with fail
      refine (HI.out.new 64 wr ⟨by omega, by omega⟩).mono ?_
      rintro e w5 ⟨p5, F5, rfl, hR5, hF5, hb5⟩
      obtain ⟨v5, hv5⟩ := (HK.out.1.later HI.out hb5).any true 2 (by omega)
      have hc5 : w5.cell? ⟨P, 2, none⟩ = some (.pointer v5) := hv5
      have hf5 : w5.frozen? ⟨P, 2, none⟩ = false := (HK.out.1.later HI.out hb5).loose true 2
      have hS5 : St R (fun b => if b then 2 + 1 else 2) w (w5.setCell ⟨P, 2, none⟩ (ptr p5)) (abP P Q) (up2 F true 2 F5) (up2 p true 2 p5) (up2 d true 2 (Dk.new 64)) :=
        HK.out.1.put HI.out (b := true) (i := 2) (by omega) (fun b' j hj => by
          cases b'
          · exact .inr ⟨hj, .inl (by decide)⟩
          · have hj' : j < 2 + 1 := hj
            by_cases e : j = 2
            · exact .inl ⟨rfl, e⟩
            · exact .inr ⟨by omega, .inr e⟩) hb5 hR5 hF5
      have HS5 := hid hS5
      clear hR5 hF5 hb5 hv5 hS5
      go_wp2_with fail
      obtain ⟨w6, hw6⟩ : ∃ w6, w6 = w5.setCell ⟨P, 2, none⟩ (ptr p5) := ⟨_, rfl⟩
      rw [← hw6] at HS5 ⊢
      clear hw6 hc5 hf5
      refine (rd_new 64 w6).mono ?_
      rintro e w7 ⟨q7, G7, rfl, hR7, hG7, hb7⟩
      obtain ⟨v7, hv7⟩ := (HS5.out.later HI.out hb7).any false 2 (by omega)
      have hc7 : w7.cell? ⟨Q, 2, none⟩ = some (.pointer v7) := hv7
      have hf7 : w7.frozen? ⟨Q, 2, none⟩ = false := (HS5.out.later HI.out hb7).loose false 2
      have hS7 : St R (fun _ => 2 + 1) w (w7.setCell ⟨Q, 2, none⟩ (ptr q7)) (abP P Q) (up2 (up2 F true 2 F5) false 2 G7) (up2 (up2 p true 2 p5) false 2 q7) (up2 (up2 d true 2 (Dk.new 64)) false 2 (Dk.new 64)) :=
        HS5.out.put HI.out (b := false) (i := 2) (by omega) (fun b' j hj => by
          have hj' : j < 2 + 1 := hj
          cases b'
          · by_cases e : j = 2
            · exact .inl ⟨rfl, e⟩
            · exact .inr ⟨by show j < 2; omega, .inr e⟩
          · exact .inr ⟨hj', .inl (by decide)⟩) hb7 hR7 hG7
      have hcP : (w7.setCell ⟨Q, 2, none⟩ (ptr q7)).cell? ⟨P, 2, none⟩ = some (ptr p5) := by
        have := hS7.cell true 2 (by omega)
        rw [up2_other _ _ (.inl (by decide)), up2_same] at this
        exact this
      have HS7 : Hid (St R (fun _ => 2 + 1) w (w7.setCell ⟨Q, 2, none⟩ (ptr q7)) (abP P Q) (up2 (up2 F true 2 F5) false 2 G7) (up2 (up2 p true 2 p5) false 2 q7) (up2 (up2 d true 2 (Dk.new 64)) false 2 (Dk.new 64)) ∧ Eqs (up2 (up2 d true 2 (Dk.new 64)) false 2 (Dk.new 64))) := ⟨hS7, HK.out.2.up _ _⟩
      clear hR7 hG7 hb7 hv7 hS7 HS5
      go_wp2_with fail
      go_roundg 0
      case measure => omega
      case rel => exact ⟨3, by omega, rfl, by go_num, _, _, _, HS7⟩
    · have HS : Hid (St R n3 w wr (abP P Q) F p d ∧ Eqs d) := HK
      clear HK
      go_wp2_with fail
      go_loopg [7] xs.length (fun g s7 wr => ∃ k : Nat, k ≤ xs.length ∧ g = xs.length - k ∧ s7 = .int .i64 k ∧ ∃ F p d, Hid (St R n3 w wr (abP P Q) F p d ∧ Eqs d))
      case atStart => exact ⟨0, by omega, by omega, rfl, _, _, _, HS⟩
      case round =>
        obtain ⟨k, hk, rfl, rfl, F, p, d, HK⟩ := hrel
        clear HS
        by_cases hlt : k < xs.length
        · obtain ⟨hok, b, off, rfl, d0, d1, d2, d3, d4, d5⟩ := (HX.out.below rfl HK.out.1.bl) k hlt
          have HOK := hid hok
          obtain ⟨x, hx⟩ : ∃ x, x = nthS xs k := ⟨_, rfl⟩
          rw [← hx] at HOK d0 d1 d2 d3 d4 d5
          clear hok hx
          obtain ⟨wc', hwc⟩ : ∃ wc', wc' = wr.alloc (.cells x.cells 29) := ⟨_, rfl⟩
          have hbc : Below wr.heap.size wr wc' := by rw [hwc]; exact Below.al (Below.refl _ _) _
          have hbx : BoxX wc' wr.heap.size x := by rw [hwc]; exact boxX wr x _
          have HW := hid hwc
          have HBX := hid hbx
          have HK1 : Hid (St R n3 w wc' (abP P Q) F p d ∧ Eqs d) := ⟨HK.out.1.later HI.out hbc, HK.out.2⟩
          have HNB : Hid (∀ b j, j < 3 → ¬ F b j wr.heap.size) := fun b j hj hk => by have := (HK.out.1.at' b j hj).lt HI.out wr.heap.size hk; omega
          have hPr : P < wr.heap.size := HK.out.1.lta true
          have hQr : Q < wr.heap.size := HK.out.1.lta false
          obtain ⟨ro, hro⟩ : ∃ ro, ro = wr.heap.size := ⟨_, rfl⟩
          clear hwc hbc hbx
          go_upto_if 57 with fail
          rw [← HW.out]
          clear d0 d1 d2 d3 d4 d5 HW hro HK
          go_cut [9] (fun s9 wx => ∃ o : Nat, o < 3 ∧ s9 = .int .i64 o ∧ wx = wc')
          case first =>
            obtain ⟨z, hz⟩ : ∃ z, z = x.o.tmod 3 := ⟨_, rfl⟩
            have z1 : z < 3 := by rw [hz]; exact Int.tmod_lt_of_pos _ (by omega)
            have z2 : -3 < z := by rw [hz]; exact Int.lt_tmod_of_pos _ (by omega)
            rw [← hz]
            clear hz
            by_cases hneg : z < 0
            · have hd : decide (z < 0) = true := decide_eq_true hneg
              go_wp2_with fail
              go_meet
              exact ⟨(z + 3).toNat, by omega, by congr 1; omega, rfl⟩
            · have hd : decide (z < 0) = false := decide_eq_false hneg
              go_wp2_with fail
              go_meet
              exact ⟨z.toNat, by omega, by congr 1; omega, rfl⟩
          case rest =>
            obtain ⟨o, ho, rfl, hw⟩ := hcut
            rw [hw]
            clear hw wc
            obtain rfl | rfl | rfl : o = 0 ∨ o = 1 ∨ o = 2 := by omega
            · have bk := HBX.out.c0
              go_upto_block 4 with fail
              go_cut [] (fun wx => ∃ F p d, Hid (St R n3 w wx (abP P Q) F p d ∧ Eqs d))
              case first =>
                by_cases g1 : x.k = 1
                · have q1 : (x.k == 1) = true := by rw [g1]; rfl
                  have b3 := HBX.out.c3
                  clear g1 bk
                  go_wp2_with fail
                  refine (HI.out.new x.n wc' HOK.out.n).mono ?_
                  rintro e w5 ⟨p5, F5, rfl, hR5, hF5, hb5⟩
                  obtain ⟨v5, hv5⟩ := (HK1.out.1.later HI.out hb5).any true 0 (by omega)
                  have hc5 : w5.cell? ⟨P, 0, none⟩ = some (.pointer v5) := hv5
                  have hf5 : w5.frozen? ⟨P, 0, none⟩ = false := (HK1.out.1.later HI.out hb5).loose true 0
                  have hS5 : St R n3 w (w5.setCell ⟨P, 0, none⟩ (ptr p5)) (abP P Q) (up2 F true 0 F5) (up2 p true 0 p5) (up2 d true 0 (Dk.new x.n)) :=
                    HK1.out.1.put HI.out (b := true) (i := 0) (by omega) (n3_put true 0) hb5 hR5 hF5
                  have hb6 : BoxX (w5.setCell ⟨P, 0, none⟩ (ptr p5)) wr.heap.size x := (HBX.out.later hb5).onl ((Onl.refl (fun k => k = P) w5).set (p := P) rfl _ _) (by omega)
                  have c3 := hb6.c3
                  have HS5 := hid hS5
                  clear hR5 hF5 hb5 hv5 hS5 hb6
                  go_wp2_with fail
                  obtain ⟨w6, hw6⟩ : ∃ w6, w6 = w5.setCell ⟨P, 0, none⟩ (ptr p5) := ⟨_, rfl⟩
                  rw [← hw6] at HS5 ⊢
                  clear hw6 hc5 hf5 c3
                  refine (rd_new x.n w6).mono ?_
                  rintro e w7 ⟨q7, G7, rfl, hR7, hG7, hb7⟩
                  obtain ⟨v7, hv7⟩ := (HS5.out.later HI.out hb7).any false 0 (by omega)
                  have hc7 : w7.cell? ⟨Q, 0, none⟩ = some (.pointer v7) := hv7
                  have hf7 : w7.frozen? ⟨Q, 0, none⟩ = false := (HS5.out.later HI.out hb7).loose false 0
                  have hS7 : St R n3 w (w7.setCell ⟨Q, 0, none⟩ (ptr q7)) (abP P Q) (up2 (up2 F true 0 F5) false 0 G7) (up2 (up2 p true 0 p5) false 0 q7) (up2 (up2 d true 0 (Dk.new x.n)) false 0 (Dk.new x.n)) :=
                    HS5.out.put HI.out (b := false) (i := 0) (by omega) (n3_put false 0) hb7 hR7 hG7
                  have HS7 := hid hS7
                  clear hR7 hG7 hb7 hv7 hS7 HS5
                  go_wp2_with fail
                  go_meet
                  exact ⟨_, _, _, ⟨HS7.out, HK1.out.2.up _ _⟩⟩
                · have q1 : (x.k == 1) = false := beq_eq_false_iff_ne.2 g1
                  clear g1 bk
                  by_cases g11 : x.k = 11
                  · have q11 : (x.k == 11) = true := by rw [g11]; rfl
                    clear g11
                    have c0 : wc'.cell? ⟨P, 0, none⟩ = some (ptr (p true 0)) := HK1.out.1.cell true 0 (by decide)
                    have hR : R wc' (F true 0) (p true 0) (d true 0) := HK1.out.1.at' true 0 (by decide)
                    have HR := hid hR
                    obtain ⟨pp, hpp⟩ : ∃ pp, pp = p true 0 := ⟨_, rfl⟩
                    rw [← hpp] at c0 HR
                    clear hR hpp
                    go_wp2_with fail
                    refine (HI.out.clone HR.out).mono ?_
                    rintro e w5 ⟨p5, F5, rfl, hR5, hF5, hb5⟩
                    obtain ⟨v5, hv5⟩ := (HK1.out.1.later HI.out hb5).any true 1 (by omega)
                    have hc5 : w5.cell? ⟨P, 1, none⟩ = some (.pointer v5) := hv5
                    have hf5 : w5.frozen? ⟨P, 1, none⟩ = false := (HK1.out.1.later HI.out hb5).loose true 1
                    have hS5 : St R n3 w (w5.setCell ⟨P, 1, none⟩ (ptr p5)) (abP P Q) (up2 F true 1 F5) (up2 p true 1 p5) (up2 d true 1 (d true 0)) :=
                      HK1.out.1.put HI.out (b := true) (i := 1) (by omega) (n3_put true 1) hb5 hR5 hF5
                    have hq0 : (w5.setCell ⟨P, 1, none⟩ (ptr p5)).cell? ⟨Q, 0, none⟩ = some (ptr (p false 0)) := by
                      have := hS5.cell false 0 (by decide)
                      rw [up2_other _ _ (.inl (by decide))] at this
                      exact this
                    have hRD : RD (w5.setCell ⟨P, 1, none⟩ (ptr p5)) (F false 0) (p false 0) (d true 0) := by
                      have := hS5.at' false 0 (by decide)
                      rw [up2_other _ _ (.inl (by decide)), up2_other _ _ (.inl (by decide)), up2_other _ _ (.inl (by decide)), ← HK1.out.2 0] at this
                      exact this
                    have HS5 := hid hS5
                    have HRD := hid hRD
                    obtain ⟨qq, hqq⟩ : ∃ qq, qq = p false 0 := ⟨_, rfl⟩
                    rw [← hqq] at hq0 HRD
                    clear hR5 hF5 hb5 hv5 hS5 hRD hqq c0
                    go_wp2_with fail
                    obtain ⟨w6, hw6⟩ : ∃ w6, w6 = w5.setCell ⟨P, 1, none⟩ (ptr p5) := ⟨_, rfl⟩
                    rw [← hw6] at HS5 HRD ⊢
                    clear hw6 hc5 hf5 hq0
                    refine (rd_clone HRD.out).mono ?_
                    rintro e w7 ⟨q7, G7, rfl, hR7, hG7, hb7⟩
                    obtain ⟨v7, hv7⟩ := (HS5.out.later HI.out hb7).any false 1 (by omega)
                    have hc7 : w7.cell? ⟨Q, 1, none⟩ = some (.pointer v7) := hv7
                    have hf7 : w7.frozen? ⟨Q, 1, none⟩ = false := (HS5.out.later HI.out hb7).loose false 1
                    have hS7 : St R n3 w (w7.setCell ⟨Q, 1, none⟩ (ptr q7)) (abP P Q) (up2 (up2 F true 1 F5) false 1 G7) (up2 (up2 p true 1 p5) false 1 q7) (up2 (up2 d true 1 (d true 0)) false 1 (d true 0)) :=
                      HS5.out.put HI.out (b := false) (i := 1) (by omega) (n3_put false 1) hb7 hR7 hG7
                    have HS7 := hid hS7
                    clear hR7 hG7 hb7 hv7 hS7 HS5
                    go_wp2_with fail
                    go_meet
                    exact ⟨_, _, _, ⟨HS7.out, HK1.out.2.up _ _⟩⟩
                  · have q11 : (x.k == 11) = false := beq_eq_false_iff_ne.2 g11
                    clear g11
                    have c0 : wc'.cell? ⟨P, 0, none⟩ = some (ptr (p true 0)) := HK1.out.1.cell true 0 (by decide)
                    have c1 : wc'.cell? ⟨Q, 0, none⟩ = some (ptr (p false 0)) := HK1.out.1.cell false 0 (by decide)
                    have b0 := HBX.out.c0; have b1 := HBX.out.c1; have b2 := HBX.out.c2; have b3 := HBX.out.c3; have b4 := HBX.out.c4; have b5 := HBX.out.c5
                    have HDO : Hid (Calls Try.prog 23 #[ptr (p true 0), ptr (p false 0), x.val] wc'.drew fun e' w' => e' = .returned (.bool true) ∧ Done R w (abP P Q) F p d 0 ((d true 0).act x) wc'.drew w') := does_any HI.out (HK1.out.1.later HI.out (Below.drew (Below.refl _ _))) (by omega) rfl (HK1.out.2 0).symm HOK.out
                    have HN : Hid (∀ k, (F true 0 k ∨ F false 0 k) → k ≠ wr.heap.size) := fun k hk e => by
                      rcases hk with h | h
                      · exact HNB.out true 0 (by omega) (e ▸ h)
                      · exact HNB.out false 0 (by omega) (e ▸ h)
                    obtain ⟨pp, hpp⟩ : ∃ pp, pp = p true 0 := ⟨_, rfl⟩
                    obtain ⟨qq, hqq⟩ : ∃ qq, qq = p false 0 := ⟨_, rfl⟩
                    rw [← hpp] at c0 HDO
                    rw [← hqq] at c1 HDO
                    have HPP := hid hpp
                    have HQQ := hid hqq
                    clear hpp hqq
                    go_wp2_with fail
                    go_region_held3 (fun w' => w'.cell? ⟨P, 0, none⟩ = some (ptr pp) ∧ w'.cell? ⟨Q, 0, none⟩ = some (ptr qq) ∧ w'.cell? ⟨wr.heap.size, 0, none⟩ = some (.int .i64 x.k) ∧ w'.cell? ⟨wr.heap.size, 1, none⟩ = some (.int .i64 x.o) ∧ w'.cell? ⟨wr.heap.size, 2, none⟩ = some (.int .i64 x.s) ∧ w'.cell? ⟨wr.heap.size, 3, none⟩ = some (.int .i64 x.n) ∧ w'.cell? ⟨wr.heap.size, 4, none⟩ = some (.int .i64 x.m) ∧ w'.cell? ⟨wr.heap.size, 5, none⟩ = some (.string (ofNats x.t)))
                      (first | exact ⟨c0, c1, b0, b1, b2, b3, b4, b5⟩ | exact HB5.out)
                      (first | (go_at_call 23; refine HDO.out.mono ?_; rintro e w5 ⟨rfl, ⟨F5, hS5⟩, ho5⟩; have hx5 : BoxX w5 wr.heap.size x := ((HBX.out.later (Below.drew (Below.refl _ _))).onl ho5 (fun hk => HN.out _ hk rfl)); have HB5 : Hid (w5.cell? ⟨P, 0, none⟩ = some (ptr pp) ∧ w5.cell? ⟨Q, 0, none⟩ = some (ptr qq) ∧ w5.cell? ⟨wr.heap.size, 0, none⟩ = some (.int .i64 x.k) ∧ w5.cell? ⟨wr.heap.size, 1, none⟩ = some (.int .i64 x.o) ∧ w5.cell? ⟨wr.heap.size, 2, none⟩ = some (.int .i64 x.s) ∧ w5.cell? ⟨wr.heap.size, 3, none⟩ = some (.int .i64 x.n) ∧ w5.cell? ⟨wr.heap.size, 4, none⟩ = some (.int .i64 x.m) ∧ w5.cell? ⟨wr.heap.size, 5, none⟩ = some (.string (ofNats x.t))) := (by refine ⟨?_, ?_, hx5.c0, hx5.c1, hx5.c2, hx5.c3, hx5.c4, hx5.c5⟩; (rw [HPP.out]; exact hS5.cell true 0 (by decide)); (rw [HQQ.out]; exact hS5.cell false 0 (by decide))); have HS5 := hid hS5; clear hx5 hS5 ho5))
                    all_goals (try go_wp2_with fail)
                    all_goals go_meet
                    all_goals exact ⟨_, _, _, ⟨HS5.out, HK1.out.2.up _ _⟩⟩
              case rest =>
                obtain ⟨F9, p9, d9, HS9⟩ := hcut
                have e0 : wc.cell? ⟨P, 0, none⟩ = some (ptr (p9 true 0)) := HS9.out.1.cell true 0 (by decide)
                have e1 : wc.cell? ⟨P, 1, none⟩ = some (ptr (p9 true 1)) := HS9.out.1.cell true 1 (by decide)
                clear HK1 HBX HNB HOK bk
                go_wp2_with fail
                go_roundg (xs.length - (k + 1))
                case measure => omega
                case rel => exact ⟨k + 1, by omega, rfl, by go_num, _, _, _, HS9⟩
            · have bk := HBX.out.c0
              go_upto_block 4 with fail
              go_cut [] (fun wx => ∃ F p d, Hid (St R n3 w wx (abP P Q) F p d ∧ Eqs d))
              case first =>
                by_cases g1 : x.k = 1
                · have q1 : (x.k == 1) = true := by rw [g1]; rfl
                  have b3 := HBX.out.c3
                  clear g1 bk
                  go_wp2_with fail
                  refine (HI.out.new x.n wc' HOK.out.n).mono ?_
                  rintro e w5 ⟨p5, F5, rfl, hR5, hF5, hb5⟩
                  obtain ⟨v5, hv5⟩ := (HK1.out.1.later HI.out hb5).any true 1 (by omega)
                  have hc5 : w5.cell? ⟨P, 1, none⟩ = some (.pointer v5) := hv5
                  have hf5 : w5.frozen? ⟨P, 1, none⟩ = false := (HK1.out.1.later HI.out hb5).loose true 1
                  have hS5 : St R n3 w (w5.setCell ⟨P, 1, none⟩ (ptr p5)) (abP P Q) (up2 F true 1 F5) (up2 p true 1 p5) (up2 d true 1 (Dk.new x.n)) :=
                    HK1.out.1.put HI.out (b := true) (i := 1) (by omega) (n3_put true 1) hb5 hR5 hF5
                  have hb6 : BoxX (w5.setCell ⟨P, 1, none⟩ (ptr p5)) wr.heap.size x := (HBX.out.later hb5).onl ((Onl.refl (fun k => k = P) w5).set (p := P) rfl _ _) (by omega)
                  have c3 := hb6.c3
                  have HS5 := hid hS5
                  clear hR5 hF5 hb5 hv5 hS5 hb6
                  go_wp2_with fail
                  obtain ⟨w6, hw6⟩ : ∃ w6, w6 = w5.setCell ⟨P, 1, none⟩ (ptr p5) := ⟨_, rfl⟩
                  rw [← hw6] at HS5 ⊢
                  clear hw6 hc5 hf5 c3
                  refine (rd_new x.n w6).mono ?_
                  rintro e w7 ⟨q7, G7, rfl, hR7, hG7, hb7⟩
                  obtain ⟨v7, hv7⟩ := (HS5.out.later HI.out hb7).any false 1 (by omega)
                  have hc7 : w7.cell? ⟨Q, 1, none⟩ = some (.pointer v7) := hv7
                  have hf7 : w7.frozen? ⟨Q, 1, none⟩ = false := (HS5.out.later HI.out hb7).loose false 1
                  have hS7 : St R n3 w (w7.setCell ⟨Q, 1, none⟩ (ptr q7)) (abP P Q) (up2 (up2 F true 1 F5) false 1 G7) (up2 (up2 p true 1 p5) false 1 q7) (up2 (up2 d true 1 (Dk.new x.n)) false 1 (Dk.new x.n)) :=
                    HS5.out.put HI.out (b := false) (i := 1) (by omega) (n3_put false 1) hb7 hR7 hG7
                  have HS7 := hid hS7
                  clear hR7 hG7 hb7 hv7 hS7 HS5
                  go_wp2_with fail
                  go_meet
                  exact ⟨_, _, _, ⟨HS7.out, HK1.out.2.up _ _⟩⟩
                · have q1 : (x.k == 1) = false := beq_eq_false_iff_ne.2 g1
                  clear g1 bk
                  by_cases g11 : x.k = 11
                  · have q11 : (x.k == 11) = true := by rw [g11]; rfl
                    clear g11
                    have c0 : wc'.cell? ⟨P, 1, none⟩ = some (ptr (p true 1)) := HK1.out.1.cell true 1 (by decide)
                    have hR : R wc' (F true 1) (p true 1) (d true 1) := HK1.out.1.at' true 1 (by decide)
                    have HR := hid hR
                    obtain ⟨pp, hpp⟩ : ∃ pp, pp = p true 1 := ⟨_, rfl⟩
                    rw [← hpp] at c0 HR
                    clear hR hpp
                    go_wp2_with fail
                    refine (HI.out.clone HR.out).mono ?_
                    rintro e w5 ⟨p5, F5, rfl, hR5, hF5, hb5⟩
                    obtain ⟨v5, hv5⟩ := (HK1.out.1.later HI.out hb5).any true 2 (by omega)
                    have hc5 : w5.cell? ⟨P, 2, none⟩ = some (.pointer v5) := hv5
                    have hf5 : w5.frozen? ⟨P, 2, none⟩ = false := (HK1.out.1.later HI.out hb5).loose true 2
                    have hS5 : St R n3 w (w5.setCell ⟨P, 2, none⟩ (ptr p5)) (abP P Q) (up2 F true 2 F5) (up2 p true 2 p5) (up2 d true 2 (d true 1)) :=
                      HK1.out.1.put HI.out (b := true) (i := 2) (by omega) (n3_put true 2) hb5 hR5 hF5
                    have hq0 : (w5.setCell ⟨P, 2, none⟩ (ptr p5)).cell? ⟨Q, 1, none⟩ = some (ptr (p false 1)) := by
                      have := hS5.cell false 1 (by decide)
                      rw [up2_other _ _ (.inl (by decide))] at this
                      exact this
                    have hRD : RD (w5.setCell ⟨P, 2, none⟩ (ptr p5)) (F false 1) (p false 1) (d true 1) := by
                      have := hS5.at' false 1 (by decide)
                      rw [up2_other _ _ (.inl (by decide)), up2_other _ _ (.inl (by decide)), up2_other _ _ (.inl (by decide)), ← HK1.out.2 1] at this
                      exact this
                    have HS5 := hid hS5
                    have HRD := hid hRD
                    obtain ⟨qq, hqq⟩ : ∃ qq, qq = p false 1 := ⟨_, rfl⟩
                    rw [← hqq] at hq0 HRD
                    clear hR5 hF5 hb5 hv5 hS5 hRD hqq c0
                    go_wp2_with fail
                    obtain ⟨w6, hw6⟩ : ∃ w6, w6 = w5.setCell ⟨P, 2, none⟩ (ptr p5) := ⟨_, rfl⟩
                    rw [← hw6] at HS5 HRD ⊢
                    clear hw6 hc5 hf5 hq0
                    refine (rd_clone HRD.out).mono ?_
                    rintro e w7 ⟨q7, G7, rfl, hR7, hG7, hb7⟩
                    obtain ⟨v7, hv7⟩ := (HS5.out.later HI.out hb7).any false 2 (by omega)
                    have hc7 : w7.cell? ⟨Q, 2, none⟩ = some (.pointer v7) := hv7
                    have hf7 : w7.frozen? ⟨Q, 2, none⟩ = false := (HS5.out.later HI.out hb7).loose false 2
                    have hS7 : St R n3 w (w7.setCell ⟨Q, 2, none⟩ (ptr q7)) (abP P Q) (up2 (up2 F true 2 F5) false 2 G7) (up2 (up2 p true 2 p5) false 2 q7) (up2 (up2 d true 2 (d true 1)) false 2 (d true 1)) :=
                      HS5.out.put HI.out (b := false) (i := 2) (by omega) (n3_put false 2) hb7 hR7 hG7
                    have HS7 := hid hS7
                    clear hR7 hG7 hb7 hv7 hS7 HS5
                    go_wp2_with fail
                    go_meet
                    exact ⟨_, _, _, ⟨HS7.out, HK1.out.2.up _ _⟩⟩
                  · have q11 : (x.k == 11) = false := beq_eq_false_iff_ne.2 g11
                    clear g11
                    have c0 : wc'.cell? ⟨P, 1, none⟩ = some (ptr (p true 1)) := HK1.out.1.cell true 1 (by decide)
                    have c1 : wc'.cell? ⟨Q, 1, none⟩ = some (ptr (p false 1)) := HK1.out.1.cell false 1 (by decide)
                    have b0 := HBX.out.c0; have b1 := HBX.out.c1; have b2 := HBX.out.c2; have b3 := HBX.out.c3; have b4 := HBX.out.c4; have b5 := HBX.out.c5
                    have HDO : Hid (Calls Try.prog 23 #[ptr (p true 1), ptr (p false 1), x.val] wc'.drew fun e' w' => e' = .returned (.bool true) ∧ Done R w (abP P Q) F p d 1 ((d true 1).act x) wc'.drew w') := does_any HI.out (HK1.out.1.later HI.out (Below.drew (Below.refl _ _))) (by omega) rfl (HK1.out.2 1).symm HOK.out
                    have HN : Hid (∀ k, (F true 1 k ∨ F false 1 k) → k ≠ wr.heap.size) := fun k hk e => by
                      rcases hk with h | h
                      · exact HNB.out true 1 (by omega) (e ▸ h)
                      · exact HNB.out false 1 (by omega) (e ▸ h)
                    obtain ⟨pp, hpp⟩ : ∃ pp, pp = p true 1 := ⟨_, rfl⟩
                    obtain ⟨qq, hqq⟩ : ∃ qq, qq = p false 1 := ⟨_, rfl⟩
                    rw [← hpp] at c0 HDO
                    rw [← hqq] at c1 HDO
                    have HPP := hid hpp
                    have HQQ := hid hqq
                    clear hpp hqq
                    go_wp2_with fail
                    go_region_held3 (fun w' => w'.cell? ⟨P, 1, none⟩ = some (ptr pp) ∧ w'.cell? ⟨Q, 1, none⟩ = some (ptr qq) ∧ w'.cell? ⟨wr.heap.size, 0, none⟩ = some (.int .i64 x.k) ∧ w'.cell? ⟨wr.heap.size, 1, none⟩ = some (.int .i64 x.o) ∧ w'.cell? ⟨wr.heap.size, 2, none⟩ = some (.int .i64 x.s) ∧ w'.cell? ⟨wr.heap.size, 3, none⟩ = some (.int .i64 x.n) ∧ w'.cell? ⟨wr.heap.size, 4, none⟩ = some (.int .i64 x.m) ∧ w'.cell? ⟨wr.heap.size, 5, none⟩ = some (.string (ofNats x.t)))
                      (first | exact ⟨c0, c1, b0, b1, b2, b3, b4, b5⟩ | exact HB5.out)
                      (first | (go_at_call 23; refine HDO.out.mono ?_; rintro e w5 ⟨rfl, ⟨F5, hS5⟩, ho5⟩; have hx5 : BoxX w5 wr.heap.size x := ((HBX.out.later (Below.drew (Below.refl _ _))).onl ho5 (fun hk => HN.out _ hk rfl)); have HB5 : Hid (w5.cell? ⟨P, 1, none⟩ = some (ptr pp) ∧ w5.cell? ⟨Q, 1, none⟩ = some (ptr qq) ∧ w5.cell? ⟨wr.heap.size, 0, none⟩ = some (.int .i64 x.k) ∧ w5.cell? ⟨wr.heap.size, 1, none⟩ = some (.int .i64 x.o) ∧ w5.cell? ⟨wr.heap.size, 2, none⟩ = some (.int .i64 x.s) ∧ w5.cell? ⟨wr.heap.size, 3, none⟩ = some (.int .i64 x.n) ∧ w5.cell? ⟨wr.heap.size, 4, none⟩ = some (.int .i64 x.m) ∧ w5.cell? ⟨wr.heap.size, 5, none⟩ = some (.string (ofNats x.t))) := (by refine ⟨?_, ?_, hx5.c0, hx5.c1, hx5.c2, hx5.c3, hx5.c4, hx5.c5⟩; (rw [HPP.out]; exact hS5.cell true 1 (by decide)); (rw [HQQ.out]; exact hS5.cell false 1 (by decide))); have HS5 := hid hS5; clear hx5 hS5 ho5))
                    all_goals (try go_wp2_with fail)
                    all_goals go_meet
                    all_goals exact ⟨_, _, _, ⟨HS5.out, HK1.out.2.up _ _⟩⟩
              case rest =>
                obtain ⟨F9, p9, d9, HS9⟩ := hcut
                have e0 : wc.cell? ⟨P, 1, none⟩ = some (ptr (p9 true 1)) := HS9.out.1.cell true 1 (by decide)
                have e1 : wc.cell? ⟨P, 2, none⟩ = some (ptr (p9 true 2)) := HS9.out.1.cell true 2 (by decide)
                clear HK1 HBX HNB HOK bk
                go_wp2_with fail
                go_roundg (xs.length - (k + 1))
                case measure => omega
                case rel => exact ⟨k + 1, by omega, rfl, by go_num, _, _, _, HS9⟩
            · have bk := HBX.out.c0
              go_upto_block 4 with fail
              go_cut [] (fun wx => ∃ F p d, Hid (St R n3 w wx (abP P Q) F p d ∧ Eqs d))
              case first =>
                by_cases g1 : x.k = 1
                · have q1 : (x.k == 1) = true := by rw [g1]; rfl
                  have b3 := HBX.out.c3
                  clear g1 bk
                  go_wp2_with fail
                  refine (HI.out.new x.n wc' HOK.out.n).mono ?_
                  rintro e w5 ⟨p5, F5, rfl, hR5, hF5, hb5⟩
                  obtain ⟨v5, hv5⟩ := (HK1.out.1.later HI.out hb5).any true 2 (by omega)
                  have hc5 : w5.cell? ⟨P, 2, none⟩ = some (.pointer v5) := hv5
                  have hf5 : w5.frozen? ⟨P, 2, none⟩ = false := (HK1.out.1.later HI.out hb5).loose true 2
                  have hS5 : St R n3 w (w5.setCell ⟨P, 2, none⟩ (ptr p5)) (abP P Q) (up2 F true 2 F5) (up2 p true 2 p5) (up2 d true 2 (Dk.new x.n)) :=
                    HK1.out.1.put HI.out (b := true) (i := 2) (by omega) (n3_put true 2) hb5 hR5 hF5
                  have hb6 : BoxX (w5.setCell ⟨P, 2, none⟩ (ptr p5)) wr.heap.size x := (HBX.out.later hb5).onl ((Onl.refl (fun k => k = P) w5).set (p := P) rfl _ _) (by omega)
                  have c3 := hb6.c3
                  have HS5 := hid hS5
                  clear hR5 hF5 hb5 hv5 hS5 hb6
                  go_wp2_with fail
                  obtain ⟨w6, hw6⟩ : ∃ w6, w6 = w5.setCell ⟨P, 2, none⟩ (ptr p5) := ⟨_, rfl⟩
                  rw [← hw6] at HS5 ⊢
                  clear hw6 hc5 hf5 c3
                  refine (rd_new x.n w6).mono ?_
                  rintro e w7 ⟨q7, G7, rfl, hR7, hG7, hb7⟩
                  obtain ⟨v7, hv7⟩ := (HS5.out.later HI.out hb7).any false 2 (by omega)
                  have hc7 : w7.cell? ⟨Q, 2, none⟩ = some (.pointer v7) := hv7
                  have hf7 : w7.frozen? ⟨Q, 2, none⟩ = false := (HS5.out.later HI.out hb7).loose false 2
                  have hS7 : St R n3 w (w7.setCell ⟨Q, 2, none⟩ (ptr q7)) (abP P Q) (up2 (up2 F true 2 F5) false 2 G7) (up2 (up2 p true 2 p5) false 2 q7) (up2 (up2 d true 2 (Dk.new x.n)) false 2 (Dk.new x.n)) :=
                    HS5.out.put HI.out (b := false) (i := 2) (by omega) (n3_put false 2) hb7 hR7 hG7
                  have HS7 := hid hS7
                  clear hR7 hG7 hb7 hv7 hS7 HS5
                  go_wp2_with fail
                  go_meet
                  exact ⟨_, _, _, ⟨HS7.out, HK1.out.2.up _ _⟩⟩
                · have q1 : (x.k == 1) = false := beq_eq_false_iff_ne.2 g1
                  clear g1 bk
                  by_cases g11 : x.k = 11
                  · have q11 : (x.k == 11) = true := by rw [g11]; rfl
                    clear g11
                    have c0 : wc'.cell? ⟨P, 2, none⟩ = some (ptr (p true 2)) := HK1.out.1.cell true 2 (by decide)
                    have hR : R wc' (F true 2) (p true 2) (d true 2) := HK1.out.1.at' true 2 (by decide)
                    have HR := hid hR
                    obtain ⟨pp, hpp⟩ : ∃ pp, pp = p true 2 := ⟨_, rfl⟩
                    rw [← hpp] at c0 HR
                    clear hR hpp
                    go_wp2_with fail
                    refine (HI.out.clone HR.out).mono ?_
                    rintro e w5 ⟨p5, F5, rfl, hR5, hF5, hb5⟩
                    obtain ⟨v5, hv5⟩ := (HK1.out.1.later HI.out hb5).any true 0 (by omega)
                    have hc5 : w5.cell? ⟨P, 0, none⟩ = some (.pointer v5) := hv5
                    have hf5 : w5.frozen? ⟨P, 0, none⟩ = false := (HK1.out.1.later HI.out hb5).loose true 0
                    have hS5 : St R n3 w (w5.setCell ⟨P, 0, none⟩ (ptr p5)) (abP P Q) (up2 F true 0 F5) (up2 p true 0 p5) (up2 d true 0 (d true 2)) :=
                      HK1.out.1.put HI.out (b := true) (i := 0) (by omega) (n3_put true 0) hb5 hR5 hF5
                    have hq0 : (w5.setCell ⟨P, 0, none⟩ (ptr p5)).cell? ⟨Q, 2, none⟩ = some (ptr (p false 2)) := by
                      have := hS5.cell false 2 (by decide)
                      rw [up2_other _ _ (.inl (by decide))] at this
                      exact this
                    have hRD : RD (w5.setCell ⟨P, 0, none⟩ (ptr p5)) (F false 2) (p false 2) (d true 2) := by
                      have := hS5.at' false 2 (by decide)
                      rw [up2_other _ _ (.inl (by decide)), up2_other _ _ (.inl (by decide)), up2_other _ _ (.inl (by decide)), ← HK1.out.2 2] at this
                      exact this
                    have HS5 := hid hS5
                    have HRD := hid hRD
                    obtain ⟨qq, hqq⟩ : ∃ qq, qq = p false 2 := ⟨_, rfl⟩
                    rw [← hqq] at hq0 HRD
                    clear hR5 hF5 hb5 hv5 hS5 hRD hqq c0
                    go_wp2_with fail
                    obtain ⟨w6, hw6⟩ : ∃ w6, w6 = w5.setCell ⟨P, 0, none⟩ (ptr p5) := ⟨_, rfl⟩
                    rw [← hw6] at HS5 HRD ⊢
                    clear hw6 hc5 hf5 hq0
                    refine (rd_clone HRD.out).mono ?_
                    rintro e w7 ⟨q7, G7, rfl, hR7, hG7, hb7⟩
                    obtain ⟨v7, hv7⟩ := (HS5.out.later HI.out hb7).any false 0 (by omega)
                    have hc7 : w7.cell? ⟨Q, 0, none⟩ = some (.pointer v7) := hv7
                    have hf7 : w7.frozen? ⟨Q, 0, none⟩ = false := (HS5.out.later HI.out hb7).loose false 0
                    have hS7 : St R n3 w (w7.setCell ⟨Q, 0, none⟩ (ptr q7)) (abP P Q) (up2 (up2 F true 0 F5) false 0 G7) (up2 (up2 p true 0 p5) false 0 q7) (up2 (up2 d true 0 (d true 2)) false 0 (d true 2)) :=
                      HS5.out.put HI.out (b := false) (i := 0) (by omega) (n3_put false 0) hb7 hR7 hG7
                    have HS7 := hid hS7
                    clear hR7 hG7 hb7 hv7 hS7 HS5
                    go_wp2_with fail
                    go_meet
                    exact ⟨_, _, _, ⟨HS7.out, HK1.out.2.up _ _⟩⟩
                  · have q11 : (x.k == 11) = false := beq_eq_false_iff_ne.2 g11
                    clear g11
                    have c0 : wc'.cell? ⟨P, 2, none⟩ = some (ptr (p true 2)) := HK1.out.1.cell true 2 (by decide)
                    have c1 : wc'.cell? ⟨Q, 2, none⟩ = some (ptr (p false 2)) := HK1.out.1.cell false 2 (by decide)
                    have b0 := HBX.out.c0; have b1 := HBX.out.c1; have b2 := HBX.out.c2; have b3 := HBX.out.c3; have b4 := HBX.out.c4; have b5 := HBX.out.c5
                    have HDO : Hid (Calls Try.prog 23 #[ptr (p true 2), ptr (p false 2), x.val] wc'.drew fun e' w' => e' = .returned (.bool true) ∧ Done R w (abP P Q) F p d 2 ((d true 2).act x) wc'.drew w') := does_any HI.out (HK1.out.1.later HI.out (Below.drew (Below.refl _ _))) (by omega) rfl (HK1.out.2 2).symm HOK.out
                    have HN : Hid (∀ k, (F true 2 k ∨ F false 2 k) → k ≠ wr.heap.size) := fun k hk e => by
                      rcases hk with h | h
                      · exact HNB.out true 2 (by omega) (e ▸ h)
                      · exact HNB.out false 2 (by omega) (e ▸ h)
                    obtain ⟨pp, hpp⟩ : ∃ pp, pp = p true 2 := ⟨_, rfl⟩
                    obtain ⟨qq, hqq⟩ : ∃ qq, qq = p false 2 := ⟨_, rfl⟩
                    rw [← hpp] at c0 HDO
                    rw [← hqq] at c1 HDO
                    have HPP := hid hpp
                    have HQQ := hid hqq
                    clear hpp hqq
                    go_wp2_with fail
                    go_region_held3 (fun w' => w'.cell? ⟨P, 2, none⟩ = some (ptr pp) ∧ w'.cell? ⟨Q, 2, none⟩ = some (ptr qq) ∧ w'.cell? ⟨wr.heap.size, 0, none⟩ = some (.int .i64 x.k) ∧ w'.cell? ⟨wr.heap.size, 1, none⟩ = some (.int .i64 x.o) ∧ w'.cell? ⟨wr.heap.size, 2, none⟩ = some (.int .i64 x.s) ∧ w'.cell? ⟨wr.heap.size, 3, none⟩ = some (.int .i64 x.n) ∧ w'.cell? ⟨wr.heap.size, 4, none⟩ = some (.int .i64 x.m) ∧ w'.cell? ⟨wr.heap.size, 5, none⟩ = some (.string (ofNats x.t)))
                      (first | exact ⟨c0, c1, b0, b1, b2, b3, b4, b5⟩ | exact HB5.out)
                      (first | (go_at_call 23; refine HDO.out.mono ?_; rintro e w5 ⟨rfl, ⟨F5, hS5⟩, ho5⟩; have hx5 : BoxX w5 wr.heap.size x := ((HBX.out.later (Below.drew (Below.refl _ _))).onl ho5 (fun hk => HN.out _ hk rfl)); have HB5 : Hid (w5.cell? ⟨P, 2, none⟩ = some (ptr pp) ∧ w5.cell? ⟨Q, 2, none⟩ = some (ptr qq) ∧ w5.cell? ⟨wr.heap.size, 0, none⟩ = some (.int .i64 x.k) ∧ w5.cell? ⟨wr.heap.size, 1, none⟩ = some (.int .i64 x.o) ∧ w5.cell? ⟨wr.heap.size, 2, none⟩ = some (.int .i64 x.s) ∧ w5.cell? ⟨wr.heap.size, 3, none⟩ = some (.int .i64 x.n) ∧ w5.cell? ⟨wr.heap.size, 4, none⟩ = some (.int .i64 x.m) ∧ w5.cell? ⟨wr.heap.size, 5, none⟩ = some (.string (ofNats x.t))) := (by refine ⟨?_, ?_, hx5.c0, hx5.c1, hx5.c2, hx5.c3, hx5.c4, hx5.c5⟩; (rw [HPP.out]; exact hS5.cell true 2 (by decide)); (rw [HQQ.out]; exact hS5.cell false 2 (by decide))); have HS5 := hid hS5; clear hx5 hS5 ho5))
                    all_goals (try go_wp2_with fail)
                    all_goals go_meet
                    all_goals exact ⟨_, _, _, ⟨HS5.out, HK1.out.2.up _ _⟩⟩
              case rest =>
                obtain ⟨F9, p9, d9, HS9⟩ := hcut
                have e0 : wc.cell? ⟨P, 2, none⟩ = some (ptr (p9 true 2)) := HS9.out.1.cell true 2 (by decide)
                have e1 : wc.cell? ⟨P, 0, none⟩ = some (ptr (p9 true 0)) := HS9.out.1.cell true 0 (by decide)
                clear HK1 HBX HNB HOK bk
                go_wp2_with fail
                go_roundg (xs.length - (k + 1))
                case measure => omega
                case rel => exact ⟨k + 1, by omega, rfl, by go_num, _, _, _, HS9⟩
        · obtain rfl : k = xs.length := by omega
          go_wp2_with fail
          go_ret
          exact ⟨rfl, HK.out.1.bl⟩

end Go.Proofs.Ytmbmagfdeadibaa
