import Derived.Test.YtggmhodogfngdaaDoorGtDrp
/- The document's reply to a scan. -/
namespace Go.Proofs.YtggmhodogfngdaaDoor.Gt
open Go.Proofs.YtggmhodogfngdaaDoor Go.Proofs.YtggmhodogfngdaaDoor.Rt Go.RowKit Go.Sort
set_option linter.unusedVariables false

theorem keepS {wb z : World} {p1 p2 p3 : Addr} {v1 v2 v3 : Value} (q1 : wb.cell? p1 = some v1) (q2 : wb.cell? p2 = some v2) (q3 : wb.cell? p3 = some v3) (hb : Below wb.heap.size wb z) :
    z.cell? p1 = some v1 ∧ z.cell? p2 = some v2 ∧ z.cell? p3 = some v3 ∧ Below wb.heap.size wb z :=
  ⟨cell_on hb q1, cell_on hb q2, cell_on hb q3, hb⟩
theorem app_nats3 (a b c : List Nat) : ofNats a ++ ofNats b ++ ofNats c = ofNats (a ++ (b ++ c)) := by
  rw [ofNats_append, ofNats_append]; simp

set_option maxHeartbeats 4000000 in
set_option maxRecDepth 100000 in
theorem drep_scan {a : An} (hk : a.Ok) (h0 : a.st = 0) (h1 : a.op.kd = 3) (w : World) (hr : PrRow w a.pa a.pr) :
    Calls Tryd.prog 7 #[.agg a.cells] w fun r w' => r = .returned (.string (ofNats (prL a.pr))) ∧ Below w.heap.size w w' := by
  obtain ⟨cl, tc, ts, ⟨kd, ro, asof, back, tok, key, hi, val, lim⟩, st, aw, al, an, xs, pa, pc, tk⟩ := a
  simp only at h0 h1 hr
  subst h0 h1
  obtain ⟨_, _, _, _, _, _, _, kpr, kpn, _, _⟩ := hk
  simp only at kpr kpn hr
  simp only [An.cells]
  obtain ⟨wb, hwb⟩ : ∃ wb, wb = w.alloc (.cells #[.int .u32 (cl : Int), .int .u32 (tc : Int), .int .u32 (ts : Int), .int .i64 3, .bool ro, .bool asof, .bool back, .string (ofNats tok), .string (ofNats key), .string (ofNats hi), .string (ofNats val), .int .i64 lim, .int .i64 0, .int .u64 (aw : Int), .int .u32 (al : Int), .int .u32 (an : Int), .slice pa xs.length pc, .string (ofNats tk)] 34) := ⟨_, rfl⟩
  have hB : Below w.heap.size w wb := by rw [hwb]; (repeat (first | with_reducible exact Below.refl _ _ | with_reducible assumption | with_reducible refine Below.drew ?_ | with_reducible refine Below.al ?_ _ | with_reducible refine Below.setCell ?_ (by first | exact Nat.le_refl _ | (simp; omega) | (simp; done)) _ | with_reducible refine Below.on ?_ (by assumption)))
  have q5 : wb.cell? ⟨w.heap.size, 16, none⟩ = some (.slice pa xs.length pc) := by rw [hwb]; simp [go_sem]
  have q3 : wb.cell? ⟨w.heap.size, 3, none⟩ = some (.int .i64 3) := by rw [hwb]; simp [go_sem]
  have q12 : wb.cell? ⟨w.heap.size, 12, none⟩ = some (.int .i64 0) := by rw [hwb]; simp [go_sem]
  have HB := hid hB
  have HRow := hid (hr.later hB)
  have HX := hid kpr
  have hw1 : IntKind.u64.wrap (xs.length : Int) = xs.length := by rw [IntKind.wrap_u64]; omega
  have C1 := hid (fun W => refdecimal_any xs.length (by omega) W)
  rw [dec_nats] at C1
  have z0 : (ofNats (decN xs.length)).size ≤ 20 := by rw [ofNats_size]; exact decN_le (by omega)
  have HR : Hid ((⟨#[112, 97, 105, 114, 115, 32]⟩ : ByteArray) ++ ofNats (decN xs.length) = ofNats (prHd ++ decN xs.length)) := hid (by
    rw [show (⟨#[112, 97, 105, 114, 115, 32]⟩ : ByteArray) = ofNats prHd from rfl, ofNats_append])
  have HL0 : Hid ((prHd ++ decN xs.length).length ≤ 30) := hid (by
    have := decN_le (u := xs.length) (by omega)
    simp [prHd]; omega)
  obtain ⟨ph, hph⟩ : ∃ ph : ByteArray, ph = ⟨#[112, 97, 105, 114, 115, 32]⟩ := ⟨_, rfl⟩
  have zd : ph.size = 6 := by rw [hph]; rfl
  rw [← hph] at HR
  have hph' : (⟨#[112, 97, 105, 114, 115, 32]⟩ : ByteArray) = ph := hph.symm
  clear hph hr hB kpr
  generalize ofNats (decN xs.length) = s0 at *
  have n0 : ¬ 9223372036854775807 < 6 + s0.size := by omega
  go_enter Tryd.func7, Tryd.ntmps7
  go_upto_region 1 with fail
  rw [← hwb]
  clear hwb
  go_wp2_with fail
  refine (C1.out _).mono ?_
  rintro e w1 ⟨rfl, hb⟩
  have HB1 := hid hb
  clear hb
  go_wp2_with fail
  rw [HR.out]
  go_loopg [3, 4] xs.length (fun g s3 s4 wr => ∃ k : Nat, k ≤ xs.length ∧ g = xs.length - k ∧ s4 = .int .i64 k ∧ s3 = .string (ofNats (prHd ++ decN xs.length ++ pairsL (xs.take k))) ∧ Hid (Below wb.heap.size wb wr))
  case atStart => exact ⟨0, by omega, by omega, rfl, by simp [pairsL], HB1⟩
  case round =>
    obtain ⟨k, hk, rfl, rfl, rfl, HK⟩ := hrel
    clear HB1
    have r5 : wr.cell? ⟨w.heap.size, 16, none⟩ = some (.slice pa xs.length pc) := cell_on HK.out q5
    by_cases hlt : k < xs.length
    · obtain ⟨⟨tk', tv⟩, htx⟩ : ∃ x, x = xs[k] := ⟨_, rfl⟩
      obtain ⟨b, o, rfl, c1, c2⟩ := (HRow.out.later HK.out) k hlt
      rw [← htx] at c1 c2
      simp only [] at c1 c2
      have h8 := HX.out.1 (tk', tv) (by rw [htx]; exact List.getElem_mem hlt)
      have hz := szP_mem (xs := xs) (x := (tk', tv)) (by rw [htx]; exact List.getElem_mem hlt)
      have hz' := HX.out.2
      simp only [] at h8 hz
      have D1 := hid (fun W => rw_is h8.1 (by omega) W)
      have D2 := hid (fun W => rw_is h8.2 (by omega) W)
      have HTK : Hid (ofNats (prHd ++ decN xs.length ++ pairsL (xs.take k)) ++ ofNats (32 :: wordL tk') ++ ofNats (32 :: wordL tv) = ofNats (prHd ++ decN xs.length ++ pairsL (xs.take (k + 1)))) := hid (by
        rw [List.take_succ_eq_append_getElem hlt, ← htx, pairs_snoc, app_nats3]
        simp)
      have z1 : (ofNats (32 :: wordL tk')).size ≤ 3 * tk'.length + 2 := by rw [ofNats_size]; have := (wordL_len tk').2; simp; omega
      have z2 : (ofNats (32 :: wordL tv)).size ≤ 3 * tv.length + 2 := by rw [ofNats_size]; have := (wordL_len tv).2; simp; omega
      have z3 : (ofNats (prHd ++ decN xs.length ++ pairsL (xs.take k))).size ≤ 30 + 3 * 1099511627776 := by
        rw [ofNats_size, List.length_append]
        have h1 := HL0.out
        have h2 := pairs_len (xs.take k)
        have h3 := szP_take xs k
        omega
      generalize ofNats (prHd ++ decN xs.length ++ pairsL (xs.take k)) = acc at *
      generalize ofNats (32 :: wordL tk') = s1 at *
      generalize ofNats (32 :: wordL tv) = s2 at *
      generalize ofNats tk' = t1 at *
      generalize ofNats tv = t2 at *
      have n1 : ¬ 9223372036854775807 < acc.size + s1.size := by omega
      have n2 : ¬ 9223372036854775807 < acc.size + s1.size + s2.size := by omega
      have hkI : (0 : Int) ≤ (k : Int) := by omega
      have hkJ : (k : Int) < (xs.length : Int) := by omega
      clear h8 htx
      go_wp2_with fail
      go_region_held3 (fun z => z.cell? ⟨w.heap.size, 16, none⟩ = some (.slice (some ⟨b, o, none⟩) xs.length pc) ∧ z.cell? ⟨b, o + k * 2, none⟩ = some (.string t1) ∧ z.cell? ⟨b, o + k * 2 + 1, none⟩ = some (.string t2) ∧ Below wr.heap.size wr z)
        ((refine keepS r5 c1 c2 ?_; ((repeat (first | with_reducible exact Below.refl _ _ | with_reducible assumption | with_reducible refine Below.drew ?_ | with_reducible refine Below.al ?_ _ | with_reducible refine Below.setCell ?_ (by first | exact Nat.le_refl _ | (simp; omega) | (simp; done)) _ | with_reducible refine Below.on ?_ (by assumption))))))
        (first
          | (go_at_call 21; with_reducible refine (D1.out _).mono ?_; rintro e w1 ⟨rfl, hb1⟩)
          | (go_at_call 21; with_reducible refine (D2.out _).mono ?_; rintro e w2 ⟨rfl, hb2⟩))
      all_goals rw [HTK.out]
      all_goals go_wp2_with fail
      all_goals go_roundg (xs.length - (k + 1))
      all_goals first | omega | exact ⟨k + 1, by omega, rfl, by go_num, rfl, hid (Below.on HK.out (by (repeat (first | with_reducible exact Below.refl _ _ | with_reducible assumption | with_reducible refine Below.drew ?_ | with_reducible refine Below.al ?_ _ | with_reducible refine Below.setCell ?_ (by first | exact Nat.le_refl _ | (simp; omega) | (simp; done)) _ | with_reducible refine Below.on ?_ (by assumption)))))⟩
    · obtain rfl : k = xs.length := by omega
      have HE : Hid (ofNats (prHd ++ decN xs.length ++ pairsL (xs.take xs.length)) = ofNats (prL xs)) := hid (by rw [List.take_length]; rfl)
      go_wp2_with fail
      rw [HE.out]
      go_ret
      exact ⟨rfl, Below.on HB.out HK.out⟩

/-- the document's reply -/
theorem drep_is {a : An} (hk : a.Ok) (w : World) (ht : PowTab w) (hr : PrRow w a.pa a.pr) :
    Calls Tryd.prog 7 #[.agg a.cells] w fun r w' => r = .returned (.string (ofNats (repL a))) ∧ Below w.heap.size w w' := by
  unfold repL
  by_cases h0 : a.st = 0
  · rw [if_neg (by simp [h0])]
    by_cases h1 : a.op.kd = 1
    · rw [if_pos h1]; exact drep_begin hk h0 h1 w hr
    rw [if_neg h1]
    by_cases h2 : a.op.kd = 2
    · rw [if_pos h2]; exact drep_get hk h0 h2 w hr
    rw [if_neg h2]
    by_cases h3 : a.op.kd = 3
    · rw [if_pos h3]; exact drep_scan hk h0 h3 w hr
    rw [if_neg h3]
    by_cases h6 : a.op.kd = 6
    · rw [if_pos h6]; exact drep_commit hk h0 h6 w hr
    rw [if_neg h6]
    exact drep_ok h0 h1 h2 h3 h6 w
  · rw [if_pos (by simp [h0])]; exact drep_err hk h0 w ht

theorem vis_lit {l : List Nat} (h : l.all (fun b => decide (32 ≤ b ∧ b ≤ 126)) = true) : Vis l := fun b hb => by
  have := List.all_eq_true.1 h b hb
  simpa using this
/-- one line of bytes that can be seen -/
theorem rep_vis {a : An} (hk : a.Ok) : Vis (repL a) ∧ repL a ≠ [] := by
  have v32 : (32 : Nat) ≤ 32 ∧ 32 ≤ 126 := by omega
  unfold repL
  split
  · exact ⟨(vis_lit (by decide)).app (vis_name _), by simp [errHd]⟩
  split
  · exact ⟨(vis_lit (by decide)).app ((vis_dec _).app (Vis.cons v32 ((vis_dec _).app (Vis.cons v32 (vis_stamp _ _ _))))), by simp [begL, begHd]⟩
  split
  · have h := hk.pr.1
    generalize a.pr = pr at h
    cases pr with
    | nil => exact ⟨vis_lit (by decide), by decide⟩
    | cons x xs => exact ⟨(vis_lit (by decide)).app (Vis.cons v32 (vis_word (h x (by simp)).2)), by simp [valL, valHd]⟩
  split
  · exact ⟨((vis_lit (by decide)).app (vis_dec _)).app (vis_pairs hk.pr.1), by simp [prL, prHd]⟩
  split
  · exact ⟨(vis_lit (by decide)).app ((vis_stamp _ _ _).app (Vis.cons v32 (vis_word hk.t8))), by simp [comL, comHd]⟩
  · exact ⟨vis_lit (by decide), by decide⟩
end Go.Proofs.YtggmhodogfngdaaDoor.Gt
