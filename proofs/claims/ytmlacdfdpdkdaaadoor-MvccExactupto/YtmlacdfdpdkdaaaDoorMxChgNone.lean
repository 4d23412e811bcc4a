import Derived.Test.YtmlacdfdpdkdaaaDoorMxChgNew
import Derived.Test.YtmlacdfdpdkdaaaDoorRvLoad
import Derived.Test.YtmlacdfdpdkdaaaDoorVAt
import Derived.Test.YtmlacdfdpdkdaaaDoorRvAbove
import Derived.Deep.RegionHeld3
import Derived.Deep.RegionWith
/- The law's changes: rel. -/
namespace Go.Proofs.YtmlacdfdpdkdaaaDoor.Bg
open Go.RowKit Go.Sort Go.Proofs.YtmlacdfdpdkdaaaDoor Go.Proofs.YtmlacdfdpdkdaaaDoor.Vs
set_option linter.unusedVariables false

set_option maxRecDepth 8000 in
set_option maxHeartbeats 4000000 in
theorem chg_rel {W w : World} {b m n j : Nat} {x : Sv} (hP : PowTab W) (h : Sx W w b x m) (hx : Eqs x n) (s : Sc) (hn : n + s.ws.length + s.vs.length ≤ 1048576) (hw : RowW W s.wa s.ws) (hv : RowV W s.va s.vs) (ht : s.t.a ≤ 18446744073709551615) (hvs : ∀ e ∈ s.vs, e.2.s.a ≤ 18446744073709551615) (hj : j < 2) (hb : bits BinOp.and IntKind.i64 s.o 1 = (j : Int)) (hk : s.k = 10) :
    Calls Tryd.prog 9 #[pt b, .agg s.cells] w fun e w' => e = .returned (.bool true) ∧ Hid (Ch W w' b m (n + s.ws.length + s.vs.length)) := by
  obtain ⟨wb, hwb⟩ : ∃ wb, wb = w.alloc (.cells s.cells 58) := ⟨_, rfl⟩
  have hbb : Below w.heap.size w wb := by rw [hwb]; exact Below.al (Below.refl _ _) _
  obtain ⟨q, hq⟩ : ∃ q, q = w.heap.size := ⟨_, rfl⟩
  have HX := hid hx
  obtain ⟨c, s0, z0, h, hcq⟩ : ∃ c s0 z0, St W wb c b { x with s := s0, z := z0 } m ∧ c q = 22 := by
    obtain ⟨c0, s0, z0, h0⟩ := h
    obtain ⟨c, h1, _, h2⟩ := h0.later hbb (fun _ => 22)
    refine ⟨c, s0, z0, h1, h2 q (by omega) ?_⟩
    have hbx : wb.heap[w.heap.size]? = some (.cells s.cells 58 (0, 0)) := by rw [hwb]; exact World.alloc_heap_new _ _
    rw [hq]
    exact not_ixB hbx (fun h => by rcases h with h | h | h <;> exact absurd h (by decide))
  have HS := hid h
  have HCQ := hid hcq
  obtain ⟨x0, x1, x2, x3, x4, x5, x6, x7, x8⟩ := Bx.of s hwb
  rw [← hq] at x0 x1 x2 x3 x4 x5 x6 x7 x8
  have y0 := h.cp j hj
  have y1 := h.cq j hj
  have hcj := hx.c j hj
  have hst := h.st j hj
  have hrs := h.rs j hj
  have hgd := hst.good
  simp only [hx.m, hx.k] at hst hrs hgd y0 y1
  have hx' : Eqs { x with s := s0, z := z0 } n := ⟨hx.m, hx.k, hx.c, hx.ok⟩
  obtain ⟨i, hi⟩ : ∃ i, i = 1 - j := ⟨_, rfl⟩
  have hi2 : i < 2 := by omega
  have v0 := h.cp i hi2
  have v1 := h.cq i hi2
  have fz : ∀ o, wb.frozen? ⟨b, o, none⟩ = false := h.obj.loose
  have hbl : b < wb.heap.size := h.lt
  simp only at v0 v1
  have kw : IntKind.i64.wrap (1 - (j : Int)) = (i : Int) := by rw [IntKind.wrap_i64]; omega
  obtain ⟨L, hL⟩ : ∃ L, L = dumpM (x.M j) := ⟨_, rfl⟩
  have hll : L.length ≤ 1048576 := by rw [hL, dump_len]; omega
  have hLE : ldE L = 0 := by rw [hL]; exact ld_ok (dump_sorted hgd) (hx.ok j hj)
  have hLM : loadM L = x.M j := by rw [hL]; exact load_dump hgd
  have W1 : Hid (∀ w1, Below wb.heap.size wb w1 → Calls Tryd.prog 25 #[pt (x.p j)] w1 fun e w' => e = .returned (sv (x.kp j)) ∧ Below w1.heap.size w1 w') := fun w1 hb1 => wmark_is (hst.later hb1)
  have W2 : Hid (∀ w1, Below wb.heap.size wb w1 → Calls Tryd.prog 26 #[pt (x.r j)] w1 fun e w' => e = .returned (sv (x.kp j)) ∧ Below w1.heap.size w1 w') := fun w1 hb1 => rmark_is (hrs.later hb1)
  have D1 : Hid (∀ w1, Below wb.heap.size wb w1 → Calls Tryd.prog 29 #[pt (x.p j)] w1 fun e w' => ∃ a k, e = .returned (.slice a L.length k) ∧ Hid (Below w1.heap.size w1 w') ∧ Hid (∀ w2, Below w'.heap.size w' w2 → Calls Tryd.prog 39 #[.slice a L.length k, sv (x.kp j)] w2 fun e w3 => ∃ p', e = .returned (.tuple #[pt p', .int .i64 0]) ∧ Hid (Below w2.heap.size w2 w3) ∧ Hid (∃ F', Sto F' w3 p' (x.M j) (x.kp j) ∧ ∀ k, F' k → w2.heap.size ≤ k))) := fun w1 hb1 => by
    refine (dump_is (hst.later hb1) (by omega)).mono ?_
    rintro e w' ⟨v, rfl, ho, hb⟩
    rw [← hL] at ho
    obtain ⟨a, k, rfl⟩ := owns_slice ho
    refine ⟨a, k, rfl, hb, fun w2 hb2 => ?_⟩
    refine (stoload_is (x.kp j) ((OwnV.row ho).later hb2) (by omega)).mono ?_
    rintro e w3 ⟨h3, hb3⟩
    rcases h3 with ⟨_, p', F', rfl, hs, hF⟩ | ⟨hne, _⟩
    · rw [hLM] at hs
      exact ⟨p', rfl, hb3, F', hs, hF⟩
    · exact absurd hLE hne
  have D2 : Hid (∀ w1, Below wb.heap.size wb w1 → Calls Tryd.prog 31 #[pt (x.r j)] w1 fun e w' => ∃ a k, e = .returned (.slice a L.length k) ∧ Hid (Below w1.heap.size w1 w') ∧ Hid (∀ w2, Below w'.heap.size w' w2 → Calls Tryd.prog 40 #[.slice a L.length k, sv (x.kp j)] w2 fun e w3 => ∃ r', e = .returned (.tuple #[pt r', .int .i64 0]) ∧ Hid (Below w2.heap.size w2 w3) ∧ Hid (∃ v', Rs w3 w2.heap.size r' v' (dumpM (x.M j)) (x.kp j) ∧ w2.heap.size ≤ r'))) := fun w1 hb1 => by
    refine (rdump_is (hrs.later hb1) (by rw [dump_len]; omega)).mono ?_
    rintro e w' ⟨v, rfl, ho, hb⟩
    rw [← hL] at ho
    obtain ⟨a, k, rfl⟩ := owns_slice ho
    refine ⟨a, k, rfl, hb, fun w2 hb2 => ?_⟩
    refine (rload_is ((OwnV.row ho).later hb2) (by omega) (x.kp j) (fun e he => ?_)).mono ?_
    · have h9 := ld_all hLE e he
      unfold Vs.okV at h9
      simp only [Bool.and_eq_true, decide_eq_true_eq] at h9
      omega
    rintro e w3 ⟨hb3, h3⟩
    rcases h3 with ⟨_, r', v', rfl, hr, hs⟩ | ⟨hne, _⟩
    · rw [hL] at hs
      exact ⟨r', rfl, hb3, v', hs, hr⟩
    · exact absurd hLE hne
  have HFIN : Hid (∀ w3 w4 w7 w8 p' r', Below wb.heap.size wb w3 → Below w3.heap.size w3 w4 → Below w4.heap.size w4 w7 → Below w7.heap.size w7 w8 → (∃ F', Sto F' w4 p' (x.M j) (x.kp j) ∧ ∀ k, F' k → w3.heap.size ≤ k) → (∃ v', Rs w8 w7.heap.size r' v' (dumpM (x.M j)) (x.kp j) ∧ w7.heap.size ≤ r') → ∀ w9, Below w8.heap.size w8 w9 → ∀ wa, Below (w9.setCell ⟨b, i, none⟩ (pt p')).heap.size (w9.setCell ⟨b, i, none⟩ (pt p')) wa → Ch W (wa.setCell ⟨b, 2 + i, none⟩ (pt r')) b m (n + s.ws.length + s.vs.length)) := by
    intro w3 w4 w7 w8 p' r' hb3 hb34 hb47 hb78 ⟨F', hs, hF⟩ ⟨v', hr, hrl⟩ w9 hb9 wa hba
    have hb48 := Below.on hb47 hb78
    have hball := Below.on (Below.on (Below.on hb3 hb34) hb48) hb9
    have hs9 := (hs.later hb48).later hb9
    have hr9 := hr.later hb9
    obtain ⟨c1, h1, ho1, hn1⟩ := h.later hball (fun k => if k < w4.heap.size then i else 2 + i)
    have h2 := h1.pset hi2 hs9 (fun k hk => ⟨by rw [hn1 k (Nat.le_trans hb3.size (hF k hk)) (Sto.not_ix hs9 hk), if_pos (hs.lt hk)], Nat.le_trans h.bl.size (Nat.le_trans hb3.size (hF k hk))⟩)
    obtain ⟨c3, h3, ho3, hn3⟩ := h2.later hba (fun _ => 22)
    have hW7 : W.heap.size ≤ w7.heap.size := Nat.le_trans h.bl.size (Nat.le_trans hb3.size (Nat.le_trans hb34.size hb47.size))
    have hnb : ∀ k, RsB r' v' k → w7.heap.size ≤ k := fun k hk => by
      rcases hk with rfl | hk
      · exact hrl
      · exact (World.ownsRow.lt hr.row k hk).1
    have hbb : b < w7.heap.size := Nat.lt_of_lt_of_le h.lt (Nat.le_trans hb3.size (Nat.le_trans hb34.size hb47.size))
    have hra : Rs wa W.heap.size r' v' (dumpM (x.M j)) (x.kp j) := by
      have h8 : Rs w9 W.heap.size r' v' (dumpM (x.M j)) (x.kp j) := ⟨hr9.blk, OwnV.base hr9.row hW7, hr9.ne⟩
      exact (h8.onl (F := fun k => k = b) (Onl.set (F := fun k => k = b) (Onl.refl _ _) rfl _ _) (fun k hk e => by have := hnb k hk; omega)).later hba
    have hs9z : (w9.setCell ⟨b, i, none⟩ (pt p')).heap.size = w9.heap.size := by simp [World.setCell]
    have h4 := h3.rset hi2 hra (fun k hk => by
      have hk9 : k < w9.heap.size := hr9.its_lt hk
      have hk7 := hnb k hk
      rw [ho3 k (by rw [hs9z]; exact hk9), hn1 k (Nat.le_trans hb3.size (Nat.le_trans hb34.size (Nat.le_trans hb47.size hk7))) (Rs.not_ix hr9 hk), if_neg (by have := hb47.size; omega)]) (Nat.le_trans hW7 hrl)
    exact ⟨_, h4.sx, hx'.put (by omega) (by omega) (hx.ok j hj)⟩
  generalize x.p j = pj at y0 D1 W1
  generalize x.r j = rj at y1 D2 W2
  generalize x.p i = pi at v0
  generalize x.r i = ri at v1
  generalize x.kp j = km at D1 D2 W1 W2 HFIN
  clear hx' hL hLE hLM
  have HWB := hid hwb
  have HQ := hid hq
  have HPT := hid hP
  have HW := hid hw
  have HV := hid hv
  have HT := hid ht
  have HVS := hid hvs
  have HNN := hid hn
  clear h hx hbb hq hwb hst hrs hgd hcq hP hw hv ht hvs
  rw [hk] at x0
  go_enter Tryd.func9, Tryd.ntmps9
  go_upto_region 1 with fail
  rw [← HWB.out, ← HQ.out]
  have hJ : (j : Int) < 2 := by omega
  go_wp2_with fail
  clear x0 x1 x2 x3 x4 x5 x6 x7 x8 hk hi
  go_region_held3 (fun w' => w'.cell? ⟨b, j, none⟩ = some (pt pj) ∧ Below wb.heap.size wb w')
    ((refine (fun (hO : Below wb.heap.size wb _) => ⟨cell_later hO y0, hO⟩) ?_; (repeat (first | with_reducible exact Below.refl _ _ | with_reducible assumption | with_reducible refine Below.drew ?_ | with_reducible refine Below.al ?_ _ | with_reducible refine Below.setCell ?_ (by first | exact Nat.le_refl _ | (simp; omega) | (simp; done)) _ | with_reducible refine Below.on ?_ (by assumption)))))
    (first | (go_at_call 29; refine (D1.out _ (by (repeat (first | with_reducible exact Below.refl _ _ | with_reducible assumption | with_reducible refine Below.drew ?_ | with_reducible refine Below.al ?_ _ | with_reducible refine Below.setCell ?_ (by first | exact Nat.le_refl _ | (simp; omega) | (simp; done)) _ | with_reducible refine Below.on ?_ (by assumption))))).mono ?_; rintro e w2 ⟨a, k, rfl, hb2, HK⟩; have hB2 : Below wb.heap.size wb w2 := Below.on (by (repeat (first | with_reducible exact Below.refl _ _ | with_reducible assumption | with_reducible refine Below.drew ?_ | with_reducible refine Below.al ?_ _ | with_reducible refine Below.setCell ?_ (by first | exact Nat.le_refl _ | (simp; omega) | (simp; done)) _ | with_reducible refine Below.on ?_ (by assumption)))) hb2.out) | (go_at_call 25; refine (W1.out _ (by (repeat (first | with_reducible exact Below.refl _ _ | with_reducible assumption | with_reducible refine Below.drew ?_ | with_reducible refine Below.al ?_ _ | with_reducible refine Below.setCell ?_ (by first | exact Nat.le_refl _ | (simp; omega) | (simp; done)) _ | with_reducible refine Below.on ?_ (by assumption))))).mono ?_; rintro e w3 ⟨rfl, hb3⟩; have hB3 : Below wb.heap.size wb w3 := Below.on (by (repeat (first | with_reducible exact Below.refl _ _ | with_reducible assumption | with_reducible refine Below.drew ?_ | with_reducible refine Below.al ?_ _ | with_reducible refine Below.setCell ?_ (by first | exact Nat.le_refl _ | (simp; omega) | (simp; done)) _ | with_reducible refine Below.on ?_ (by assumption)))) hb3) | (go_at_call 39; refine (HK.out _ (by (repeat (first | with_reducible exact Below.refl _ _ | with_reducible assumption | with_reducible refine Below.drew ?_ | with_reducible refine Below.al ?_ _ | with_reducible refine Below.setCell ?_ (by first | exact Nat.le_refl _ | (simp; omega) | (simp; done)) _ | with_reducible refine Below.on ?_ (by assumption))))).mono ?_; rintro e w4 ⟨p', rfl, hb4, HP⟩; have hb4' := hb4.out; have hB4 : Below wb.heap.size wb w4 := Below.on (by (repeat (first | with_reducible exact Below.refl _ _ | with_reducible assumption | with_reducible refine Below.drew ?_ | with_reducible refine Below.al ?_ _ | with_reducible refine Below.setCell ?_ (by first | exact Nat.le_refl _ | (simp; omega) | (simp; done)) _ | with_reducible refine Below.on ?_ (by assumption)))) hb4'))
  have y1' := cell_later hB4 y1
  have HBB : Hid (Below wb.heap.size wb w3 ∧ Below w3.heap.size w3 w4) := ⟨hB3, hb4'⟩
  clear y0 y1 hb2 hB2 hb3 hB3 hb4 hb4' HK
  go_wp2_with fail
  go_region_held3 (fun w' => w'.cell? ⟨b, 2 + j, none⟩ = some (pt rj) ∧ Below w4.heap.size w4 w')
    ((refine (fun (hO : Below w4.heap.size w4 _) => ⟨cell_later hO y1', hO⟩) ?_; (repeat (first | with_reducible exact Below.refl _ _ | with_reducible assumption | with_reducible refine Below.drew ?_ | with_reducible refine Below.al ?_ _ | with_reducible refine Below.setCell ?_ (by first | exact Nat.le_refl _ | (simp; omega) | (simp; done)) _ | with_reducible refine Below.on ?_ (by assumption)))))
    (first | (go_at_call 31; refine (D2.out _ (Below.on hB4 (by (repeat (first | with_reducible exact Below.refl _ _ | with_reducible assumption | with_reducible refine Below.drew ?_ | with_reducible refine Below.al ?_ _ | with_reducible refine Below.setCell ?_ (by first | exact Nat.le_refl _ | (simp; omega) | (simp; done)) _ | with_reducible refine Below.on ?_ (by assumption)))))).mono ?_; rintro e w6 ⟨a6, k6, rfl, hb6, HK6⟩; have hB6 : Below w4.heap.size w4 w6 := Below.on (by (repeat (first | with_reducible exact Below.refl _ _ | with_reducible assumption | with_reducible refine Below.drew ?_ | with_reducible refine Below.al ?_ _ | with_reducible refine Below.setCell ?_ (by first | exact Nat.le_refl _ | (simp; omega) | (simp; done)) _ | with_reducible refine Below.on ?_ (by assumption)))) hb6.out) | (go_at_call 26; refine (W2.out _ (Below.on hB4 (by (repeat (first | with_reducible exact Below.refl _ _ | with_reducible assumption | with_reducible refine Below.drew ?_ | with_reducible refine Below.al ?_ _ | with_reducible refine Below.setCell ?_ (by first | exact Nat.le_refl _ | (simp; omega) | (simp; done)) _ | with_reducible refine Below.on ?_ (by assumption)))))).mono ?_; rintro e w7 ⟨rfl, hb7⟩; have hB7 : Below w4.heap.size w4 w7 := Below.on (by (repeat (first | with_reducible exact Below.refl _ _ | with_reducible assumption | with_reducible refine Below.drew ?_ | with_reducible refine Below.al ?_ _ | with_reducible refine Below.setCell ?_ (by first | exact Nat.le_refl _ | (simp; omega) | (simp; done)) _ | with_reducible refine Below.on ?_ (by assumption)))) hb7) | (go_at_call 40; refine (HK6.out _ (by (repeat (first | with_reducible exact Below.refl _ _ | with_reducible assumption | with_reducible refine Below.drew ?_ | with_reducible refine Below.al ?_ _ | with_reducible refine Below.setCell ?_ (by first | exact Nat.le_refl _ | (simp; omega) | (simp; done)) _ | with_reducible refine Below.on ?_ (by assumption))))).mono ?_; rintro e w8 ⟨r', rfl, hb8, HR⟩; have hb8' := hb8.out; have hB8 : Below w4.heap.size w4 w8 := Below.on (by (repeat (first | with_reducible exact Below.refl _ _ | with_reducible assumption | with_reducible refine Below.drew ?_ | with_reducible refine Below.al ?_ _ | with_reducible refine Below.setCell ?_ (by first | exact Nat.le_refl _ | (simp; omega) | (simp; done)) _ | with_reducible refine Below.on ?_ (by assumption)))) hb8'))
  have HB7 := hid hB7
  have HB8 := hid hb8'
  have HB48 : Hid (Below wb.heap.size wb w8) := Below.on hB4 hB8
  have HFI := hid (HFIN.out w3 w4 w7 w8 p' r' HBB.out.1 HBB.out.2 hB7 hb8' HP.out HR.out)
  have u0 := cell_later HB48.out v0
  have u1 := cell_later HB48.out v1
  have fy : ∀ o, w8.frozen? ⟨b, o, none⟩ = false := fun o => (HB48.out.frozen (p := ⟨b, o, none⟩) hbl).trans (fz o)
  clear y1' hB4 hb6 hB6 hb7 hB7 hb8 hb8' hB8 HK6 v0 v1 fz
  go_wp2_with fail
  go_ret
  exact ⟨rfl, HFI.out _ (Below.refl _ _) _ (Below.refl _ _)⟩
end Go.Proofs.YtmlacdfdpdkdaaaDoor.Bg
/- The law's changes: none. -/
namespace Go.Proofs.YtmlacdfdpdkdaaaDoor.Bg
open Go.RowKit Go.Sort Go.Proofs.YtmlacdfdpdkdaaaDoor Go.Proofs.YtmlacdfdpdkdaaaDoor.Vs
set_option linter.unusedVariables false

set_option maxRecDepth 8000 in
set_option maxHeartbeats 4000000 in
theorem chg_none {W w : World} {b m n j : Nat} {x : Sv} (hP : PowTab W) (h : Sx W w b x m) (hx : Eqs x n) (s : Sc) (hn : n + s.ws.length + s.vs.length ≤ 1048576) (hw : RowW W s.wa s.ws) (hv : RowV W s.va s.vs) (ht : s.t.a ≤ 18446744073709551615) (hvs : ∀ e ∈ s.vs, e.2.s.a ≤ 18446744073709551615) (hj : j < 2) (hb : bits BinOp.and IntKind.i64 s.o 1 = (j : Int)) (h1 : s.k ≠ 1) (h2 : s.k ≠ 2) (h5 : s.k ≠ 5) (h9 : s.k ≠ 9) (h10 : s.k ≠ 10) :
    Calls Tryd.prog 9 #[pt b, .agg s.cells] w fun e w' => e = .returned (.bool true) ∧ Hid (Ch W w' b m (n + s.ws.length + s.vs.length)) := by
  obtain ⟨wb, hwb⟩ : ∃ wb, wb = w.alloc (.cells s.cells 58) := ⟨_, rfl⟩
  have hbb : Below w.heap.size w wb := by rw [hwb]; exact Below.al (Below.refl _ _) _
  obtain ⟨q, hq⟩ : ∃ q, q = w.heap.size := ⟨_, rfl⟩
  have HX := hid hx
  obtain ⟨c, s0, z0, h, hcq⟩ : ∃ c s0 z0, St W wb c b { x with s := s0, z := z0 } m ∧ c q = 22 := by
    obtain ⟨c0, s0, z0, h0⟩ := h
    obtain ⟨c, h1, _, h2⟩ := h0.later hbb (fun _ => 22)
    refine ⟨c, s0, z0, h1, h2 q (by omega) ?_⟩
    have hbx : wb.heap[w.heap.size]? = some (.cells s.cells 58 (0, 0)) := by rw [hwb]; exact World.alloc_heap_new _ _
    rw [hq]
    exact not_ixB hbx (fun h => by rcases h with h | h | h <;> exact absurd h (by decide))
  have HS := hid h
  have HCQ := hid hcq
  obtain ⟨x0, x1, x2, x3, x4, x5, x6, x7, x8⟩ := Bx.of s hwb
  rw [← hq] at x0 x1 x2 x3 x4 x5 x6 x7 x8
  have y0 := h.cp j hj
  have y1 := h.cq j hj
  have hcj := hx.c j hj
  have hst := h.st j hj
  have hrs := h.rs j hj
  have hgd := hst.good
  simp only [hx.m, hx.k] at hst hrs hgd y0 y1
  have HWB := hid hwb
  have HQ := hid hq
  have HPT := hid hP
  have HW := hid hw
  have HV := hid hv
  have HT := hid ht
  have HVS := hid hvs
  have HNN := hid hn
  clear h hx hbb hq hwb hst hrs hgd hcq hP hw hv ht hvs
  go_enter Tryd.func9, Tryd.ntmps9
  go_upto_region 1 with fail
  rw [← HWB.out, ← HQ.out]
  have hJ : (j : Int) < 2 := by omega
  go_wp2_with fail
  go_ret
  exact ⟨rfl, x, ⟨c, s0, z0, HS.out⟩, HX.out.mono (by omega)⟩
end Go.Proofs.YtmlacdfdpdkdaaaDoor.Bg
