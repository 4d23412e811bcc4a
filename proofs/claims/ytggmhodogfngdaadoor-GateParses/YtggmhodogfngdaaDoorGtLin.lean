import Derived.Test.YtggmhodogfngdaaDoorGtPar
/- lineOf: the program's line of an operation (written by mk_gtlin.py). -/
namespace Go.Proofs.YtggmhodogfngdaaDoor.Gt
open Go.Proofs.YtggmhodogfngdaaDoor Go.Proofs.YtggmhodogfngdaaDoor.Rt Go.RowKit Go.Sort
set_option linter.unusedVariables false
set_option linter.unusedSimpArgs false

def spB : ByteArray := ⟨#[32]⟩
theorem keep9 {wb z : World} {h : Nat} {v0 v1 v2 v3 v4 v5 v6 v7 v8 : Value} (q0 : wb.cell? ⟨h, 0, none⟩ = some v0) (q1 : wb.cell? ⟨h, 1, none⟩ = some v1) (q2 : wb.cell? ⟨h, 2, none⟩ = some v2) (q3 : wb.cell? ⟨h, 3, none⟩ = some v3) (q4 : wb.cell? ⟨h, 4, none⟩ = some v4) (q5 : wb.cell? ⟨h, 5, none⟩ = some v5) (q6 : wb.cell? ⟨h, 6, none⟩ = some v6) (q7 : wb.cell? ⟨h, 7, none⟩ = some v7) (q8 : wb.cell? ⟨h, 8, none⟩ = some v8) (hb : Below wb.heap.size wb z) :
    z.cell? ⟨h, 0, none⟩ = some v0 ∧ z.cell? ⟨h, 1, none⟩ = some v1 ∧ z.cell? ⟨h, 2, none⟩ = some v2 ∧ z.cell? ⟨h, 3, none⟩ = some v3 ∧ z.cell? ⟨h, 4, none⟩ = some v4 ∧ z.cell? ⟨h, 5, none⟩ = some v5 ∧ z.cell? ⟨h, 6, none⟩ = some v6 ∧ z.cell? ⟨h, 7, none⟩ = some v7 ∧ z.cell? ⟨h, 8, none⟩ = some v8 ∧ Below wb.heap.size wb z :=
  ⟨cell_upon hb q0, cell_upon hb q1, cell_upon hb q2, cell_upon hb q3, cell_upon hb q4, cell_upon hb q5, cell_upon hb q6, cell_upon hb q7, cell_upon hb q8, hb⟩
set_option maxHeartbeats 1000000 in
theorem mode_is (o : Og) (w : World) : Calls Tryd.prog 37 #[.agg o.cells.toArray] w fun e w' => e = .returned (.string (ofNats (modeL o))) ∧ Below w.heap.size w w' := by
  obtain ⟨kd, ro, asof, back, tok, key, hi, val, lim⟩ := o
  simp only [Og.cells]
  cases asof
  · cases ro
    · go_enter Tryd.func37, Tryd.ntmps37
      go_wp2_with fail
      go_ret
      exact ⟨rfl, Below.al (Below.refl _ _) _⟩
    · go_enter Tryd.func37, Tryd.ntmps37
      go_wp2_with fail
      go_ret
      exact ⟨rfl, Below.al (Below.refl _ _) _⟩
  · go_enter Tryd.func37, Tryd.ntmps37
    go_wp2_with fail
    go_ret
    exact ⟨rfl, Below.al (Below.refl _ _) _⟩
set_option maxHeartbeats 1000000 in
theorem scan_is (o : Og) (w : World) : Calls Tryd.prog 38 #[.agg o.cells.toArray] w fun e w' => e = .returned (.string (ofNats (scanL o))) ∧ Below w.heap.size w w' := by
  obtain ⟨kd, ro, asof, back, tok, key, hi, val, lim⟩ := o
  simp only [Og.cells]
  cases back
  · go_enter Tryd.func38, Tryd.ntmps38
    go_wp2_with fail
    go_ret
    exact ⟨rfl, Below.al (Below.refl _ _) _⟩
  · go_enter Tryd.func38, Tryd.ntmps38
    go_wp2_with fail
    go_ret
    exact ⟨rfl, Below.al (Below.refl _ _) _⟩


set_option maxHeartbeats 2000000 in
set_option maxRecDepth 100000 in
theorem line_begin {o : Og} {N : Nat} (hk : o.Ok N) (hN : N ≤ 1048576) (h1 : o.kd = 1) (w : World) (ht : PowTab w) :
    Calls Tryd.prog 22 #[.agg o.cells.toArray] w fun r w' => r = .returned (.string (ofNats (plin o))) ∧ Below w.heap.size w w' := by
  obtain ⟨kd, ro, asof, back, tok, key, hi, val, lim⟩ := o
  simp only at h1
  subst h1
  obtain ⟨k1, k2, k3, k4, kl, m0, m1, _, _⟩ := hk
  simp only at k1 k2 k3 k4 kl m0 m1
  have C1 := hid (fun W => word_is k1 (by omega) W)
  have z1 : (ofNats (wordL tok)).size ≤ 3 * tok.length + 1 := by rw [ofNats_size]; exact (wordL_len tok).2
  obtain ⟨hd, hhd⟩ : ∃ hd : ByteArray, hd = ⟨#[98, 101, 103, 105, 110, 32]⟩ := ⟨_, rfl⟩
  have zzhd : hd.size = 6 := by rw [hhd]; rfl
  have hhhd : (⟨#[98, 101, 103, 105, 110, 32]⟩ : ByteArray) = hd := hhd.symm
  have zs : spB.size = 1 := rfl
  have hsp : (⟨#[32]⟩ : ByteArray) = spB := rfl
  have CM := hid (fun W => mode_is ⟨1, ro, asof, back, tok, key, hi, val, lim⟩ W)
  have zm : (ofNats (modeL ⟨1, ro, asof, back, tok, key, hi, val, lim⟩)).size ≤ 2 := by rw [ofNats_size]; unfold modeL; cases asof <;> cases ro <;> simp
  have HR : Hid (hd ++ ofNats (modeL ⟨1, ro, asof, back, tok, key, hi, val, lim⟩) ++ spB ++ ofNats (wordL tok) = ofNats (plin ⟨1, ro, asof, back, tok, key, hi, val, lim⟩)) := hid (by
    rw [hhd, show (⟨#[98, 101, 103, 105, 110, 32]⟩ : ByteArray) = ofNats [98, 101, 103, 105, 110, 32] from rfl, show spB = ofNats [32] from rfl]
    simp only [ofNats_append, plin]
    simp)
  clear hhd
  simp only [Og.cells] at CM ⊢
  generalize ofNats (plin ⟨1, ro, asof, back, tok, key, hi, val, lim⟩) = res at *
  generalize ofNats (modeL ⟨1, ro, asof, back, tok, key, hi, val, lim⟩) = s0 at *
  generalize ofNats (wordL tok) = s1 at *
  generalize ofNats tok = tokB at *
  generalize ofNats key = keyB at *
  generalize ofNats hi = hiB at *
  generalize ofNats val = valB at *
  have n0 : ¬ 9223372036854775807 < 6 + s0.size := by omega
  have n1 : ¬ 9223372036854775807 < 6 + s0.size + 1 := by omega
  have n2 : ¬ 9223372036854775807 < 6 + s0.size + 1 + s1.size := by omega
  obtain ⟨wb, hwb⟩ : ∃ wb, wb = w.alloc (.cells #[.int .i64 1, .bool ro, .bool asof, .bool back, .string tokB, .string keyB, .string hiB, .string valB, .int .i64 lim] 27) := ⟨_, rfl⟩
  have hB : Below w.heap.size w wb := by rw [hwb]; (repeat (first | with_reducible exact Below.refl _ _ | with_reducible assumption | with_reducible refine Below.drew ?_ | with_reducible refine Below.al ?_ _ | with_reducible refine Below.setCell ?_ (by first | exact Nat.le_refl _ | (simp; omega) | (simp; done)) _ | with_reducible refine Below.on ?_ (by assumption)))
  have q0 : wb.cell? ⟨w.heap.size, 0, none⟩ = some (.int .i64 1) := by rw [hwb]; simp [go_sem]
  have q1 : wb.cell? ⟨w.heap.size, 1, none⟩ = some (.bool ro) := by rw [hwb]; simp [go_sem]
  have q2 : wb.cell? ⟨w.heap.size, 2, none⟩ = some (.bool asof) := by rw [hwb]; simp [go_sem]
  have q3 : wb.cell? ⟨w.heap.size, 3, none⟩ = some (.bool back) := by rw [hwb]; simp [go_sem]
  have q4 : wb.cell? ⟨w.heap.size, 4, none⟩ = some (.string tokB) := by rw [hwb]; simp [go_sem]
  have q5 : wb.cell? ⟨w.heap.size, 5, none⟩ = some (.string keyB) := by rw [hwb]; simp [go_sem]
  have q6 : wb.cell? ⟨w.heap.size, 6, none⟩ = some (.string hiB) := by rw [hwb]; simp [go_sem]
  have q7 : wb.cell? ⟨w.heap.size, 7, none⟩ = some (.string valB) := by rw [hwb]; simp [go_sem]
  have q8 : wb.cell? ⟨w.heap.size, 8, none⟩ = some (.int .i64 lim) := by rw [hwb]; simp [go_sem]
  go_enter Tryd.func22, Tryd.ntmps22
  go_wp2_with fail
  rw [← hwb]
  have HB := hid hB
  clear hwb hB
  go_region_held3 (fun z => z.cell? ⟨w.heap.size, 0, none⟩ = some (.int .i64 1) ∧ z.cell? ⟨w.heap.size, 1, none⟩ = some (.bool ro) ∧ z.cell? ⟨w.heap.size, 2, none⟩ = some (.bool asof) ∧ z.cell? ⟨w.heap.size, 3, none⟩ = some (.bool back) ∧ z.cell? ⟨w.heap.size, 4, none⟩ = some (.string tokB) ∧ z.cell? ⟨w.heap.size, 5, none⟩ = some (.string keyB) ∧ z.cell? ⟨w.heap.size, 6, none⟩ = some (.string hiB) ∧ z.cell? ⟨w.heap.size, 7, none⟩ = some (.string valB) ∧ z.cell? ⟨w.heap.size, 8, none⟩ = some (.int .i64 lim) ∧ Below wb.heap.size wb z)
    ((refine keep9 q0 q1 q2 q3 q4 q5 q6 q7 q8 ?_; ((repeat (first | with_reducible exact Below.refl _ _ | with_reducible assumption | with_reducible refine Below.drew ?_ | with_reducible refine Below.al ?_ _ | with_reducible refine Below.setCell ?_ (by first | exact Nat.le_refl _ | (simp; omega) | (simp; done)) _ | with_reducible refine Below.on ?_ (by assumption))))))
    (first
      | (go_at_call 37; with_reducible refine (CM.out _).mono ?_; rintro e w1 ⟨rfl, hb1⟩)
      | (go_at_call 17; with_reducible refine (C1.out _).mono ?_; rintro e w2 ⟨rfl, hb2⟩))
  all_goals rw [HR.out]
  all_goals go_wp2_with fail
  all_goals go_ret
  all_goals refine ⟨rfl, Below.on HB.out ?_⟩
  all_goals (repeat (first | with_reducible exact Below.refl _ _ | with_reducible assumption | with_reducible refine Below.drew ?_ | with_reducible refine Below.al ?_ _ | with_reducible refine Below.setCell ?_ (by first | exact Nat.le_refl _ | (simp; omega) | (simp; done)) _ | with_reducible refine Below.on ?_ (by assumption)))


set_option maxHeartbeats 2000000 in
set_option maxRecDepth 100000 in
theorem line_get {o : Og} {N : Nat} (hk : o.Ok N) (hN : N ≤ 1048576) (h1 : o.kd = 2) (w : World) (ht : PowTab w) :
    Calls Tryd.prog 22 #[.agg o.cells.toArray] w fun r w' => r = .returned (.string (ofNats (plin o))) ∧ Below w.heap.size w w' := by
  obtain ⟨kd, ro, asof, back, tok, key, hi, val, lim⟩ := o
  simp only at h1
  subst h1
  obtain ⟨k1, k2, k3, k4, kl, m0, m1, _, _⟩ := hk
  simp only at k1 k2 k3 k4 kl m0 m1
  have C1 := hid (fun W => word_is k2 (by omega) W)
  have z1 : (ofNats (wordL key)).size ≤ 3 * key.length + 1 := by rw [ofNats_size]; exact (wordL_len key).2
  obtain ⟨hd, hhd⟩ : ∃ hd : ByteArray, hd = ⟨#[103, 101, 116, 32]⟩ := ⟨_, rfl⟩
  have zzhd : hd.size = 4 := by rw [hhd]; rfl
  have hhhd : (⟨#[103, 101, 116, 32]⟩ : ByteArray) = hd := hhd.symm
  have HR : Hid (hd ++ ofNats (wordL key) = ofNats (plin ⟨2, ro, asof, back, tok, key, hi, val, lim⟩)) := hid (by
    rw [hhd, show (⟨#[103, 101, 116, 32]⟩ : ByteArray) = ofNats [103, 101, 116, 32] from rfl, ofNats_append]
    simp [plin])
  clear hhd
  simp only [Og.cells]
  generalize ofNats (plin ⟨2, ro, asof, back, tok, key, hi, val, lim⟩) = res at *
  generalize ofNats (wordL key) = s1 at *
  generalize ofNats tok = tokB at *
  generalize ofNats key = keyB at *
  generalize ofNats hi = hiB at *
  generalize ofNats val = valB at *
  have n1 : ¬ 9223372036854775807 < 4 + s1.size := by omega
  go_enter Tryd.func22, Tryd.ntmps22
  go_wp2_with fail
  refine (C1.out _).mono ?_
  rintro e w1 ⟨rfl, hb⟩
  have HB := hid (Below.on (Below.al (Below.refl w.heap.size w) _) hb)
  clear hb
  go_wp2_with fail
  rw [HR.out]
  go_ret
  exact ⟨rfl, HB.out⟩


set_option maxHeartbeats 2000000 in
set_option maxRecDepth 100000 in
theorem line_del {o : Og} {N : Nat} (hk : o.Ok N) (hN : N ≤ 1048576) (h1 : o.kd = 5) (w : World) (ht : PowTab w) :
    Calls Tryd.prog 22 #[.agg o.cells.toArray] w fun r w' => r = .returned (.string (ofNats (plin o))) ∧ Below w.heap.size w w' := by
  obtain ⟨kd, ro, asof, back, tok, key, hi, val, lim⟩ := o
  simp only at h1
  subst h1
  obtain ⟨k1, k2, k3, k4, kl, m0, m1, _, _⟩ := hk
  simp only at k1 k2 k3 k4 kl m0 m1
  have C1 := hid (fun W => word_is k2 (by omega) W)
  have z1 : (ofNats (wordL key)).size ≤ 3 * key.length + 1 := by rw [ofNats_size]; exact (wordL_len key).2
  obtain ⟨hd, hhd⟩ : ∃ hd : ByteArray, hd = ⟨#[100, 101, 108, 32]⟩ := ⟨_, rfl⟩
  have zzhd : hd.size = 4 := by rw [hhd]; rfl
  have hhhd : (⟨#[100, 101, 108, 32]⟩ : ByteArray) = hd := hhd.symm
  have HR : Hid (hd ++ ofNats (wordL key) = ofNats (plin ⟨5, ro, asof, back, tok, key, hi, val, lim⟩)) := hid (by
    rw [hhd, show (⟨#[100, 101, 108, 32]⟩ : ByteArray) = ofNats [100, 101, 108, 32] from rfl, ofNats_append]
    simp [plin])
  clear hhd
  simp only [Og.cells]
  generalize ofNats (plin ⟨5, ro, asof, back, tok, key, hi, val, lim⟩) = res at *
  generalize ofNats (wordL key) = s1 at *
  generalize ofNats tok = tokB at *
  generalize ofNats key = keyB at *
  generalize ofNats hi = hiB at *
  generalize ofNats val = valB at *
  have n1 : ¬ 9223372036854775807 < 4 + s1.size := by omega
  go_enter Tryd.func22, Tryd.ntmps22
  go_wp2_with fail
  refine (C1.out _).mono ?_
  rintro e w1 ⟨rfl, hb⟩
  have HB := hid (Below.on (Below.al (Below.refl w.heap.size w) _) hb)
  clear hb
  go_wp2_with fail
  rw [HR.out]
  go_ret
  exact ⟨rfl, HB.out⟩


set_option maxHeartbeats 2000000 in
set_option maxRecDepth 100000 in
theorem line_put {o : Og} {N : Nat} (hk : o.Ok N) (hN : N ≤ 1048576) (h1 : o.kd = 4) (w : World) (ht : PowTab w) :
    Calls Tryd.prog 22 #[.agg o.cells.toArray] w fun r w' => r = .returned (.string (ofNats (plin o))) ∧ Below w.heap.size w w' := by
  obtain ⟨kd, ro, asof, back, tok, key, hi, val, lim⟩ := o
  simp only at h1
  subst h1
  obtain ⟨k1, k2, k3, k4, kl, m0, m1, _, _⟩ := hk
  simp only at k1 k2 k3 k4 kl m0 m1
  have C1 := hid (fun W => word_is k2 (by omega) W)
  have z1 : (ofNats (wordL key)).size ≤ 3 * key.length + 1 := by rw [ofNats_size]; exact (wordL_len key).2
  have C2 := hid (fun W => word_is k4 (by omega) W)
  have z2 : (ofNats (wordL val)).size ≤ 3 * val.length + 1 := by rw [ofNats_size]; exact (wordL_len val).2
  obtain ⟨hd, hhd⟩ : ∃ hd : ByteArray, hd = ⟨#[112, 117, 116, 32]⟩ := ⟨_, rfl⟩
  have zzhd : hd.size = 4 := by rw [hhd]; rfl
  have hhhd : (⟨#[112, 117, 116, 32]⟩ : ByteArray) = hd := hhd.symm
  have zs : spB.size = 1 := rfl
  have hsp : (⟨#[32]⟩ : ByteArray) = spB := rfl
  have HR : Hid (hd ++ ofNats (wordL key) ++ spB ++ ofNats (wordL val) = ofNats (plin ⟨4, ro, asof, back, tok, key, hi, val, lim⟩)) := hid (by
    rw [hhd, show (⟨#[112, 117, 116, 32]⟩ : ByteArray) = ofNats [112, 117, 116, 32] from rfl, show spB = ofNats [32] from rfl]
    simp only [ofNats_append, plin]
    simp)
  clear hhd
  simp only [Og.cells]
  generalize ofNats (plin ⟨4, ro, asof, back, tok, key, hi, val, lim⟩) = res at *
  generalize ofNats (wordL key) = s1 at *
  generalize ofNats (wordL val) = s2 at *
  generalize ofNats tok = tokB at *
  generalize ofNats key = keyB at *
  generalize ofNats hi = hiB at *
  generalize ofNats val = valB at *
  have n0 : ¬ 9223372036854775807 < 4 + s1.size := by omega
  have n1 : ¬ 9223372036854775807 < 4 + s1.size + 1 := by omega
  have n2 : ¬ 9223372036854775807 < 4 + s1.size + 1 + s2.size := by omega
  obtain ⟨wb, hwb⟩ : ∃ wb, wb = w.alloc (.cells #[.int .i64 4, .bool ro, .bool asof, .bool back, .string tokB, .string keyB, .string hiB, .string valB, .int .i64 lim] 27) := ⟨_, rfl⟩
  have hB : Below w.heap.size w wb := by rw [hwb]; (repeat (first | with_reducible exact Below.refl _ _ | with_reducible assumption | with_reducible refine Below.drew ?_ | with_reducible refine Below.al ?_ _ | with_reducible refine Below.setCell ?_ (by first | exact Nat.le_refl _ | (simp; omega) | (simp; done)) _ | with_reducible refine Below.on ?_ (by assumption)))
  have q0 : wb.cell? ⟨w.heap.size, 0, none⟩ = some (.int .i64 4) := by rw [hwb]; simp [go_sem]
  have q1 : wb.cell? ⟨w.heap.size, 1, none⟩ = some (.bool ro) := by rw [hwb]; simp [go_sem]
  have q2 : wb.cell? ⟨w.heap.size, 2, none⟩ = some (.bool asof) := by rw [hwb]; simp [go_sem]
  have q3 : wb.cell? ⟨w.heap.size, 3, none⟩ = some (.bool back) := by rw [hwb]; simp [go_sem]
  have q4 : wb.cell? ⟨w.heap.size, 4, none⟩ = some (.string tokB) := by rw [hwb]; simp [go_sem]
  have q5 : wb.cell? ⟨w.heap.size, 5, none⟩ = some (.string keyB) := by rw [hwb]; simp [go_sem]
  have q6 : wb.cell? ⟨w.heap.size, 6, none⟩ = some (.string hiB) := by rw [hwb]; simp [go_sem]
  have q7 : wb.cell? ⟨w.heap.size, 7, none⟩ = some (.string valB) := by rw [hwb]; simp [go_sem]
  have q8 : wb.cell? ⟨w.heap.size, 8, none⟩ = some (.int .i64 lim) := by rw [hwb]; simp [go_sem]
  go_enter Tryd.func22, Tryd.ntmps22
  go_wp2_with fail
  rw [← hwb]
  have HB := hid hB
  clear hwb hB
  go_region_held3 (fun z => z.cell? ⟨w.heap.size, 0, none⟩ = some (.int .i64 4) ∧ z.cell? ⟨w.heap.size, 1, none⟩ = some (.bool ro) ∧ z.cell? ⟨w.heap.size, 2, none⟩ = some (.bool asof) ∧ z.cell? ⟨w.heap.size, 3, none⟩ = some (.bool back) ∧ z.cell? ⟨w.heap.size, 4, none⟩ = some (.string tokB) ∧ z.cell? ⟨w.heap.size, 5, none⟩ = some (.string keyB) ∧ z.cell? ⟨w.heap.size, 6, none⟩ = some (.string hiB) ∧ z.cell? ⟨w.heap.size, 7, none⟩ = some (.string valB) ∧ z.cell? ⟨w.heap.size, 8, none⟩ = some (.int .i64 lim) ∧ Below wb.heap.size wb z)
    ((refine keep9 q0 q1 q2 q3 q4 q5 q6 q7 q8 ?_; ((repeat (first | with_reducible exact Below.refl _ _ | with_reducible assumption | with_reducible refine Below.drew ?_ | with_reducible refine Below.al ?_ _ | with_reducible refine Below.setCell ?_ (by first | exact Nat.le_refl _ | (simp; omega) | (simp; done)) _ | with_reducible refine Below.on ?_ (by assumption))))))
    (first
      | (go_at_call 17; with_reducible refine (C1.out _).mono ?_; rintro e w1 ⟨rfl, hb1⟩)
      | (go_at_call 17; with_reducible refine (C2.out _).mono ?_; rintro e w2 ⟨rfl, hb2⟩))
  all_goals rw [HR.out]
  all_goals go_wp2_with fail
  all_goals go_ret
  all_goals refine ⟨rfl, Below.on HB.out ?_⟩
  all_goals (repeat (first | with_reducible exact Below.refl _ _ | with_reducible assumption | with_reducible refine Below.drew ?_ | with_reducible refine Below.al ?_ _ | with_reducible refine Below.setCell ?_ (by first | exact Nat.le_refl _ | (simp; omega) | (simp; done)) _ | with_reducible refine Below.on ?_ (by assumption)))


set_option maxHeartbeats 2000000 in
set_option maxRecDepth 100000 in
theorem line_scan {o : Og} {N : Nat} (hk : o.Ok N) (hN : N ≤ 1048576) (h1 : o.kd = 3) (w : World) (ht : PowTab w) :
    Calls Tryd.prog 22 #[.agg o.cells.toArray] w fun r w' => r = .returned (.string (ofNats (plin o))) ∧ Below w.heap.size w w' := by
  obtain ⟨kd, ro, asof, back, tok, key, hi, val, lim⟩ := o
  simp only at h1
  subst h1
  obtain ⟨k1, k2, k3, k4, kl, m0, m1, _, _⟩ := hk
  simp only at k1 k2 k3 k4 kl m0 m1
  have C1 := hid (fun W => word_is k2 (by omega) W)
  have z1 : (ofNats (wordL key)).size ≤ 3 * key.length + 1 := by rw [ofNats_size]; exact (wordL_len key).2
  have C2 := hid (fun W => word_is k3 (by omega) W)
  have z2 : (ofNats (wordL hi)).size ≤ 3 * hi.length + 1 := by rw [ofNats_size]; exact (wordL_len hi).2
  have zs : spB.size = 1 := rfl
  have hsp : (⟨#[32]⟩ : ByteArray) = spB := rfl
  have CM := hid (fun W => scan_is ⟨3, ro, asof, back, tok, key, hi, val, lim⟩ W)
  have zm : (ofNats (scanL ⟨3, ro, asof, back, tok, key, hi, val, lim⟩)).size ≤ 5 := by rw [ofNats_size]; unfold scanL; cases back <;> simp
  have CI := hid (fun W (hW : Below w.heap.size w W) => itoa_all m0 m1 W (ht.later hW))
  have zi : (ofNats (decI lim)).size ≤ 21 := by rw [ofNats_size]; exact decI_le m0 m1
  have HR : Hid (ofNats (scanL ⟨3, ro, asof, back, tok, key, hi, val, lim⟩) ++ spB ++ ofNats (wordL key) ++ spB ++ ofNats (wordL hi) ++ spB ++ ofNats (decI lim) = ofNats (plin ⟨3, ro, asof, back, tok, key, hi, val, lim⟩)) := hid (by
    rw [show spB = ofNats [32] from rfl]
    simp only [ofNats_append, plin]
    simp)
  clear ht
  simp only [Og.cells] at CM ⊢
  generalize ofNats (plin ⟨3, ro, asof, back, tok, key, hi, val, lim⟩) = res at *
  generalize ofNats (scanL ⟨3, ro, asof, back, tok, key, hi, val, lim⟩) = s0 at *
  generalize ofNats (wordL key) = s1 at *
  generalize ofNats (wordL hi) = s2 at *
  generalize ofNats (decI lim) = s3 at *
  generalize ofNats tok = tokB at *
  generalize ofNats key = keyB at *
  generalize ofNats hi = hiB at *
  generalize ofNats val = valB at *
  have n0 : ¬ 9223372036854775807 < s0.size + 1 := by omega
  have n1 : ¬ 9223372036854775807 < s0.size + 1 + s1.size := by omega
  have n2 : ¬ 9223372036854775807 < s0.size + 1 + s1.size + 1 := by omega
  have n3 : ¬ 9223372036854775807 < s0.size + 1 + s1.size + 1 + s2.size := by omega
  have n4 : ¬ 9223372036854775807 < s0.size + 1 + s1.size + 1 + s2.size + 1 := by omega
  have n5 : ¬ 9223372036854775807 < s0.size + 1 + s1.size + 1 + s2.size + 1 + s3.size := by omega
  obtain ⟨wb, hwb⟩ : ∃ wb, wb = w.alloc (.cells #[.int .i64 3, .bool ro, .bool asof, .bool back, .string tokB, .string keyB, .string hiB, .string valB, .int .i64 lim] 27) := ⟨_, rfl⟩
  have hB : Below w.heap.size w wb := by rw [hwb]; (repeat (first | with_reducible exact Below.refl _ _ | with_reducible assumption | with_reducible refine Below.drew ?_ | with_reducible refine Below.al ?_ _ | with_reducible refine Below.setCell ?_ (by first | exact Nat.le_refl _ | (simp; omega) | (simp; done)) _ | with_reducible refine Below.on ?_ (by assumption)))
  have q0 : wb.cell? ⟨w.heap.size, 0, none⟩ = some (.int .i64 3) := by rw [hwb]; simp [go_sem]
  have q1 : wb.cell? ⟨w.heap.size, 1, none⟩ = some (.bool ro) := by rw [hwb]; simp [go_sem]
  have q2 : wb.cell? ⟨w.heap.size, 2, none⟩ = some (.bool asof) := by rw [hwb]; simp [go_sem]
  have q3 : wb.cell? ⟨w.heap.size, 3, none⟩ = some (.bool back) := by rw [hwb]; simp [go_sem]
  have q4 : wb.cell? ⟨w.heap.size, 4, none⟩ = some (.string tokB) := by rw [hwb]; simp [go_sem]
  have q5 : wb.cell? ⟨w.heap.size, 5, none⟩ = some (.string keyB) := by rw [hwb]; simp [go_sem]
  have q6 : wb.cell? ⟨w.heap.size, 6, none⟩ = some (.string hiB) := by rw [hwb]; simp [go_sem]
  have q7 : wb.cell? ⟨w.heap.size, 7, none⟩ = some (.string valB) := by rw [hwb]; simp [go_sem]
  have q8 : wb.cell? ⟨w.heap.size, 8, none⟩ = some (.int .i64 lim) := by rw [hwb]; simp [go_sem]
  have DI : Hid (∀ W, Below wb.heap.size wb W → Calls Tryd.prog 29 #[.int .i64 lim] W fun r w' => r = .returned (.string s3) ∧ Below W.heap.size W w') := hid (fun W hW => CI.out W (Below.on hB hW))
  clear CI
  go_enter Tryd.func22, Tryd.ntmps22
  go_wp2_with fail
  rw [← hwb]
  have HB := hid hB
  clear hwb hB
  go_region_held3 (fun z => z.cell? ⟨w.heap.size, 0, none⟩ = some (.int .i64 3) ∧ z.cell? ⟨w.heap.size, 1, none⟩ = some (.bool ro) ∧ z.cell? ⟨w.heap.size, 2, none⟩ = some (.bool asof) ∧ z.cell? ⟨w.heap.size, 3, none⟩ = some (.bool back) ∧ z.cell? ⟨w.heap.size, 4, none⟩ = some (.string tokB) ∧ z.cell? ⟨w.heap.size, 5, none⟩ = some (.string keyB) ∧ z.cell? ⟨w.heap.size, 6, none⟩ = some (.string hiB) ∧ z.cell? ⟨w.heap.size, 7, none⟩ = some (.string valB) ∧ z.cell? ⟨w.heap.size, 8, none⟩ = some (.int .i64 lim) ∧ Below wb.heap.size wb z)
    ((refine keep9 q0 q1 q2 q3 q4 q5 q6 q7 q8 ?_; ((repeat (first | with_reducible exact Below.refl _ _ | with_reducible assumption | with_reducible refine Below.drew ?_ | with_reducible refine Below.al ?_ _ | with_reducible refine Below.setCell ?_ (by first | exact Nat.le_refl _ | (simp; omega) | (simp; done)) _ | with_reducible refine Below.on ?_ (by assumption))))))
    (first
      | (go_at_call 38; with_reducible refine (CM.out _).mono ?_; rintro e w1 ⟨rfl, hb1⟩)
      | (go_at_call 17; with_reducible refine (C1.out _).mono ?_; rintro e w2 ⟨rfl, hb2⟩)
      | (go_at_call 17; with_reducible refine (C2.out _).mono ?_; rintro e w3 ⟨rfl, hb3⟩)
      | (go_at_call 29; with_reducible refine (DI.out _ ?_).mono ?_; ((repeat (first | with_reducible exact Below.refl _ _ | with_reducible assumption | with_reducible refine Below.drew ?_ | with_reducible refine Below.al ?_ _ | with_reducible refine Below.setCell ?_ (by first | exact Nat.le_refl _ | (simp; omega) | (simp; done)) _ | with_reducible refine Below.on ?_ (by assumption)))); rintro e w4 ⟨rfl, hb4⟩))
  all_goals rw [HR.out]
  all_goals go_wp2_with fail
  all_goals go_ret
  all_goals refine ⟨rfl, Below.on HB.out ?_⟩
  all_goals (repeat (first | with_reducible exact Below.refl _ _ | with_reducible assumption | with_reducible refine Below.drew ?_ | with_reducible refine Below.al ?_ _ | with_reducible refine Below.setCell ?_ (by first | exact Nat.le_refl _ | (simp; omega) | (simp; done)) _ | with_reducible refine Below.on ?_ (by assumption)))


set_option maxHeartbeats 2000000 in
set_option maxRecDepth 100000 in
theorem line_commit {o : Og} {N : Nat} (hk : o.Ok N) (hN : N ≤ 1048576) (h1 : o.kd = 6) (w : World) (ht : PowTab w) :
    Calls Tryd.prog 22 #[.agg o.cells.toArray] w fun r w' => r = .returned (.string (ofNats (plin o))) ∧ Below w.heap.size w w' := by
  obtain ⟨kd, ro, asof, back, tok, key, hi, val, lim⟩ := o
  simp only at h1
  subst h1
  obtain ⟨k1, k2, k3, k4, kl, m0, m1, _, _⟩ := hk
  simp only at k1 k2 k3 k4 kl m0 m1
  simp only [Og.cells]
  go_enter Tryd.func22, Tryd.ntmps22
  go_wp2_with fail
  go_ret
  exact ⟨rfl, Below.al (Below.refl _ _) _⟩


set_option maxHeartbeats 2000000 in
set_option maxRecDepth 100000 in
theorem line_abort {o : Og} {N : Nat} (hk : o.Ok N) (hN : N ≤ 1048576) (h1 : o.kd = 7) (w : World) (ht : PowTab w) :
    Calls Tryd.prog 22 #[.agg o.cells.toArray] w fun r w' => r = .returned (.string (ofNats (plin o))) ∧ Below w.heap.size w w' := by
  obtain ⟨kd, ro, asof, back, tok, key, hi, val, lim⟩ := o
  simp only at h1
  subst h1
  obtain ⟨k1, k2, k3, k4, kl, m0, m1, _, _⟩ := hk
  simp only at k1 k2 k3 k4 kl m0 m1
  simp only [Og.cells]
  go_enter Tryd.func22, Tryd.ntmps22
  go_wp2_with fail
  go_ret
  exact ⟨rfl, Below.al (Below.refl _ _) _⟩


set_option maxHeartbeats 2000000 in
set_option maxRecDepth 100000 in
theorem line_none {o : Og} (h1 : o.kd ≠ 1) (h2 : o.kd ≠ 2) (h3 : o.kd ≠ 3) (h4 : o.kd ≠ 4) (h5 : o.kd ≠ 5) (h6 : o.kd ≠ 6) (h7 : o.kd ≠ 7) (w : World) :
    Calls Tryd.prog 22 #[.agg o.cells.toArray] w fun r w' => r = .returned (.string (ofNats (plin o))) ∧ Below w.heap.size w w' := by
  have HE : Hid (plin o = []) := hid (by unfold plin; rw [if_neg h1, if_neg h2, if_neg h3, if_neg h4, if_neg h5, if_neg h6, if_neg h7])
  rw [HE.out]
  clear HE
  obtain ⟨kd, ro, asof, back, tok, key, hi, val, lim⟩ := o
  simp only [Og.cells] at h1 h2 h3 h4 h5 h6 h7 ⊢
  go_enter Tryd.func22, Tryd.ntmps22
  go_wp2_with fail
  go_ret
  exact ⟨rfl, Below.al (Below.refl _ _) _⟩
theorem line_is {o : Og} {N : Nat} (hk : o.Ok N) (hN : N ≤ 1048576) (w : World) (ht : PowTab w) :
    Calls Tryd.prog 22 #[.agg o.cells.toArray] w fun r w' => r = .returned (.string (ofNats (plin o))) ∧ Below w.heap.size w w' := by
  by_cases h1 : o.kd = 1
  · exact line_begin hk hN h1 w ht
  by_cases h2 : o.kd = 2
  · exact line_get hk hN h2 w ht
  by_cases h3 : o.kd = 3
  · exact line_scan hk hN h3 w ht
  by_cases h4 : o.kd = 4
  · exact line_put hk hN h4 w ht
  by_cases h5 : o.kd = 5
  · exact line_del hk hN h5 w ht
  by_cases h6 : o.kd = 6
  · exact line_commit hk hN h6 w ht
  by_cases h7 : o.kd = 7
  · exact line_abort hk hN h7 w ht
  exact line_none h1 h2 h3 h4 h5 h6 h7 w

end Go.Proofs.YtggmhodogfngdaaDoor.Gt
