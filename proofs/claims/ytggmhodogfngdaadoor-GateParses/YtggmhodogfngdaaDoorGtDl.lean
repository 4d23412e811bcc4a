import Derived.Test.YtggmhodogfngdaaDoorGtReqW
import Derived.Test.YtggmhodogfngdaaDoorGtWd
/- The document's line of an operation (written by mk_gtdl.py). -/
namespace Go.Proofs.YtggmhodogfngdaaDoor.Gt
open Go.Proofs.YtggmhodogfngdaaDoor Go.Proofs.YtggmhodogfngdaaDoor.Rt Go.RowKit Go.Sort
set_option linter.unusedVariables false
set_option linter.unusedSimpArgs false


set_option maxHeartbeats 2000000 in
set_option maxRecDepth 100000 in
theorem dbegin_at {back : Bool} {tok key hi val : List Nat} {lim : Int} (k1 : B8 tok) (kl : tok.length ≤ 1048576) (w : World) :
    Calls Tryd.prog 39 #[.agg #[.int .i64 1, .bool true, .bool true, .bool back, .string (ofNats tok), .string (ofNats key), .string (ofNats hi), .string (ofNats val), .int .i64 lim]] w fun r w' => r = .returned (.string (ofNats (dlin ⟨1, true, true, back, tok, key, hi, val, lim⟩))) ∧ Below w.heap.size w w' := by
  have C1 := hid (fun W => rw_is k1 (by omega) W)
  have z1 : (ofNats (32 :: wordL tok)).size ≤ 3 * tok.length + 2 := by rw [ofNats_size]; have := (wordL_len tok).2; simp; omega
  obtain ⟨hd, hhd⟩ : ∃ hd : ByteArray, hd = ⟨#[98, 101, 103, 105, 110, 32, 97, 116]⟩ := ⟨_, rfl⟩
  have zzhd : hd.size = 8 := by rw [hhd]; rfl
  have hhhd : (⟨#[98, 101, 103, 105, 110, 32, 97, 116]⟩ : ByteArray) = hd := hhd.symm
  have HR : Hid (hd ++ ofNats (32 :: wordL tok) = ofNats (dlin ⟨1, true, true, back, tok, key, hi, val, lim⟩)) := hid (by
    rw [hhd, show (⟨#[98, 101, 103, 105, 110, 32, 97, 116]⟩ : ByteArray) = ofNats [98, 101, 103, 105, 110, 32, 97, 116] from rfl, ofNats_append]
    simp [dlin])
  clear hhd
  generalize ofNats (dlin ⟨1, true, true, back, tok, key, hi, val, lim⟩) = res at *
  generalize ofNats (32 :: wordL tok) = s1 at *
  generalize ofNats tok = tokB at *
  generalize ofNats key = keyB at *
  generalize ofNats hi = hiB at *
  generalize ofNats val = valB at *
  have n1 : ¬ 9223372036854775807 < 8 + s1.size := by omega
  go_enter Tryd.func39, Tryd.ntmps39
  go_wp2_with fail
  refine (C1.out _).mono ?_
  rintro e w1 ⟨rfl, hb⟩
  have HB := hid (Below.on (Below.al (Below.refl w.heap.size w) _) hb)
  clear hb
  go_wp2_with fail
  rw [HR.out]
  go_ret
  exact ⟨rfl, HB.out⟩


set_option maxHeartbeats 2000000 in
set_option maxRecDepth 100000 in
theorem dbegin_ro {back : Bool} {tok key hi val : List Nat} {lim : Int} (k1 : B8 tok) (kl : tok.length ≤ 1048576) (w : World) :
    Calls Tryd.prog 39 #[.agg #[.int .i64 1, .bool true, .bool false, .bool back, .string (ofNats tok), .string (ofNats key), .string (ofNats hi), .string (ofNats val), .int .i64 lim]] w fun r w' => r = .returned (.string (ofNats (dlin ⟨1, true, false, back, tok, key, hi, val, lim⟩))) ∧ Below w.heap.size w w' := by
  have C1 := hid (fun W => rw_is k1 (by omega) W)
  have z1 : (ofNats (32 :: wordL tok)).size ≤ 3 * tok.length + 2 := by rw [ofNats_size]; have := (wordL_len tok).2; simp; omega
  obtain ⟨hd, hhd⟩ : ∃ hd : ByteArray, hd = ⟨#[98, 101, 103, 105, 110, 32, 114, 111]⟩ := ⟨_, rfl⟩
  have zzhd : hd.size = 8 := by rw [hhd]; rfl
  have hhhd : (⟨#[98, 101, 103, 105, 110, 32, 114, 111]⟩ : ByteArray) = hd := hhd.symm
  have HR : Hid (hd ++ ofNats (32 :: wordL tok) = ofNats (dlin ⟨1, true, false, back, tok, key, hi, val, lim⟩)) := hid (by
    rw [hhd, show (⟨#[98, 101, 103, 105, 110, 32, 114, 111]⟩ : ByteArray) = ofNats [98, 101, 103, 105, 110, 32, 114, 111] from rfl, ofNats_append]
    simp [dlin])
  clear hhd
  generalize ofNats (dlin ⟨1, true, false, back, tok, key, hi, val, lim⟩) = res at *
  generalize ofNats (32 :: wordL tok) = s1 at *
  generalize ofNats tok = tokB at *
  generalize ofNats key = keyB at *
  generalize ofNats hi = hiB at *
  generalize ofNats val = valB at *
  have n1 : ¬ 9223372036854775807 < 8 + s1.size := by omega
  go_enter Tryd.func39, Tryd.ntmps39
  go_wp2_with fail
  refine (C1.out _).mono ?_
  rintro e w1 ⟨rfl, hb⟩
  have HB := hid (Below.on (Below.al (Below.refl w.heap.size w) _) hb)
  clear hb
  go_wp2_with fail
  rw [HR.out]
  go_ret
  exact ⟨rfl, HB.out⟩


set_option maxHeartbeats 2000000 in
set_option maxRecDepth 100000 in
theorem dbegin_rw {back : Bool} {tok key hi val : List Nat} {lim : Int} (k1 : B8 tok) (kl : tok.length ≤ 1048576) (w : World) :
    Calls Tryd.prog 39 #[.agg #[.int .i64 1, .bool false, .bool false, .bool back, .string (ofNats tok), .string (ofNats key), .string (ofNats hi), .string (ofNats val), .int .i64 lim]] w fun r w' => r = .returned (.string (ofNats (dlin ⟨1, false, false, back, tok, key, hi, val, lim⟩))) ∧ Below w.heap.size w w' := by
  have C1 := hid (fun W => rw_is k1 (by omega) W)
  have z1 : (ofNats (32 :: wordL tok)).size ≤ 3 * tok.length + 2 := by rw [ofNats_size]; have := (wordL_len tok).2; simp; omega
  obtain ⟨hd, hhd⟩ : ∃ hd : ByteArray, hd = ⟨#[98, 101, 103, 105, 110, 32, 114, 119]⟩ := ⟨_, rfl⟩
  have zzhd : hd.size = 8 := by rw [hhd]; rfl
  have hhhd : (⟨#[98, 101, 103, 105, 110, 32, 114, 119]⟩ : ByteArray) = hd := hhd.symm
  have HR : Hid (hd ++ ofNats (32 :: wordL tok) = ofNats (dlin ⟨1, false, false, back, tok, key, hi, val, lim⟩)) := hid (by
    rw [hhd, show (⟨#[98, 101, 103, 105, 110, 32, 114, 119]⟩ : ByteArray) = ofNats [98, 101, 103, 105, 110, 32, 114, 119] from rfl, ofNats_append]
    simp [dlin])
  clear hhd
  generalize ofNats (dlin ⟨1, false, false, back, tok, key, hi, val, lim⟩) = res at *
  generalize ofNats (32 :: wordL tok) = s1 at *
  generalize ofNats tok = tokB at *
  generalize ofNats key = keyB at *
  generalize ofNats hi = hiB at *
  generalize ofNats val = valB at *
  have n1 : ¬ 9223372036854775807 < 8 + s1.size := by omega
  go_enter Tryd.func39, Tryd.ntmps39
  go_wp2_with fail
  refine (C1.out _).mono ?_
  rintro e w1 ⟨rfl, hb⟩
  have HB := hid (Below.on (Below.al (Below.refl w.heap.size w) _) hb)
  clear hb
  go_wp2_with fail
  rw [HR.out]
  go_ret
  exact ⟨rfl, HB.out⟩


set_option maxHeartbeats 2000000 in
theorem dbegin_no {back : Bool} {tok key hi val : List Nat} {lim : Int} (w : World) :
    Calls Tryd.prog 39 #[.agg #[.int .i64 1, .bool false, .bool true, .bool back, .string (ofNats tok), .string (ofNats key), .string (ofNats hi), .string (ofNats val), .int .i64 lim]] w fun r w' => r = .returned (.string (ofNats (dlin ⟨1, false, true, back, tok, key, hi, val, lim⟩))) ∧ Below w.heap.size w w' := by
  go_enter Tryd.func39, Tryd.ntmps39
  go_wp2_with fail
  go_ret
  exact ⟨rfl, Below.al (Below.refl _ _) _⟩
theorem dbegin_is {o : Og} {N : Nat} (hk : o.Ok N) (hN : N ≤ 1048576) (h1 : o.kd = 1) (w : World) :
    Calls Tryd.prog 39 #[.agg o.cells.toArray] w fun r w' => r = .returned (.string (ofNats (dlin o))) ∧ Below w.heap.size w w' := by
  obtain ⟨kd, ro, asof, back, tok, key, hi, val, lim⟩ := o
  simp only at h1
  subst h1
  have kl := hk.len
  simp only at kl
  have kt : tok.length ≤ 1048576 := by omega
  cases asof <;> cases ro
  · exact dbegin_rw hk.tok kt w
  · exact dbegin_ro hk.tok kt w
  · exact dbegin_no w
  · exact dbegin_at hk.tok kt w


set_option maxHeartbeats 2000000 in
set_option maxRecDepth 100000 in
theorem dline_begin {o : Og} {N : Nat} (hk : o.Ok N) (hN : N ≤ 1048576) (h1 : o.kd = 1) (w : World) (ht : PowTab w) :
    Calls Tryd.prog 23 #[.agg o.cells.toArray] w fun r w' => r = .returned (.string (ofNats (dlin o))) ∧ Below w.heap.size w w' := by
  have CB := hid (fun W => dbegin_is hk hN h1 W)
  obtain ⟨kd, ro, asof, back, tok, key, hi, val, lim⟩ := o
  simp only at h1
  subst h1
  obtain ⟨k1, k2, k3, k4, kl, m0, m1, _, _⟩ := hk
  simp only at k1 k2 k3 k4 kl m0 m1
  simp only [Og.cells] at CB ⊢
  generalize ofNats (dlin ⟨1, ro, asof, back, tok, key, hi, val, lim⟩) = res at *
  generalize ofNats tok = tokB at *
  generalize ofNats key = keyB at *
  generalize ofNats hi = hiB at *
  generalize ofNats val = valB at *
  go_enter Tryd.func23, Tryd.ntmps23
  go_wp2_with fail
  refine (CB.out _).mono ?_
  rintro e w1 ⟨rfl, hb⟩
  have HB := hid (Below.on (Below.al (Below.refl w.heap.size w) _) hb)
  clear hb
  go_wp2_with fail
  go_ret
  exact ⟨rfl, HB.out⟩


set_option maxHeartbeats 2000000 in
set_option maxRecDepth 100000 in
theorem dline_get {o : Og} {N : Nat} (hk : o.Ok N) (hN : N ≤ 1048576) (h1 : o.kd = 2) (w : World) (ht : PowTab w) :
    Calls Tryd.prog 23 #[.agg o.cells.toArray] w fun r w' => r = .returned (.string (ofNats (dlin o))) ∧ Below w.heap.size w w' := by
  obtain ⟨kd, ro, asof, back, tok, key, hi, val, lim⟩ := o
  simp only at h1
  subst h1
  obtain ⟨k1, k2, k3, k4, kl, m0, m1, _, _⟩ := hk
  simp only at k1 k2 k3 k4 kl m0 m1
  have C1 := hid (fun W => rw_is k2 (by omega) W)
  have z1 : (ofNats (32 :: wordL key)).size ≤ 3 * key.length + 2 := by rw [ofNats_size]; have := (wordL_len key).2; simp; omega
  obtain ⟨hd, hhd⟩ : ∃ hd : ByteArray, hd = ⟨#[103, 101, 116]⟩ := ⟨_, rfl⟩
  have zzhd : hd.size = 3 := by rw [hhd]; rfl
  have hhhd : (⟨#[103, 101, 116]⟩ : ByteArray) = hd := hhd.symm
  have HR : Hid (hd ++ ofNats (32 :: wordL key) = ofNats (dlin ⟨2, ro, asof, back, tok, key, hi, val, lim⟩)) := hid (by
    rw [hhd, show (⟨#[103, 101, 116]⟩ : ByteArray) = ofNats [103, 101, 116] from rfl, ofNats_append]
    simp [dlin])
  clear hhd
  simp only [Og.cells]
  generalize ofNats (dlin ⟨2, ro, asof, back, tok, key, hi, val, lim⟩) = res at *
  generalize ofNats (32 :: wordL key) = s1 at *
  generalize ofNats tok = tokB at *
  generalize ofNats key = keyB at *
  generalize ofNats hi = hiB at *
  generalize ofNats val = valB at *
  have n1 : ¬ 9223372036854775807 < 3 + s1.size := by omega
  go_enter Tryd.func23, Tryd.ntmps23
  go_wp2_with fail
  refine (C1.out _).mono ?_
  rintro e w1 ⟨rfl, hb⟩
  have HB := hid (Below.on (Below.al (Below.refl w.heap.size w) _) hb)
  clear hb
  go_wp2_with fail
  rw [HR.out]
  go_ret
  exact ⟨rfl, HB.out⟩


set_option maxHeartbeats 2000000 in
set_option maxRecDepth 100000 in
theorem dline_del {o : Og} {N : Nat} (hk : o.Ok N) (hN : N ≤ 1048576) (h1 : o.kd = 5) (w : World) (ht : PowTab w) :
    Calls Tryd.prog 23 #[.agg o.cells.toArray] w fun r w' => r = .returned (.string (ofNats (dlin o))) ∧ Below w.heap.size w w' := by
  obtain ⟨kd, ro, asof, back, tok, key, hi, val, lim⟩ := o
  simp only at h1
  subst h1
  obtain ⟨k1, k2, k3, k4, kl, m0, m1, _, _⟩ := hk
  simp only at k1 k2 k3 k4 kl m0 m1
  have C1 := hid (fun W => rw_is k2 (by omega) W)
  have z1 : (ofNats (32 :: wordL key)).size ≤ 3 * key.length + 2 := by rw [ofNats_size]; have := (wordL_len key).2; simp; omega
  obtain ⟨hd, hhd⟩ : ∃ hd : ByteArray, hd = ⟨#[100, 101, 108]⟩ := ⟨_, rfl⟩
  have zzhd : hd.size = 3 := by rw [hhd]; rfl
  have hhhd : (⟨#[100, 101, 108]⟩ : ByteArray) = hd := hhd.symm
  have HR : Hid (hd ++ ofNats (32 :: wordL key) = ofNats (dlin ⟨5, ro, asof, back, tok, key, hi, val, lim⟩)) := hid (by
    rw [hhd, show (⟨#[100, 101, 108]⟩ : ByteArray) = ofNats [100, 101, 108] from rfl, ofNats_append]
    simp [dlin])
  clear hhd
  simp only [Og.cells]
  generalize ofNats (dlin ⟨5, ro, asof, back, tok, key, hi, val, lim⟩) = res at *
  generalize ofNats (32 :: wordL key) = s1 at *
  generalize ofNats tok = tokB at *
  generalize ofNats key = keyB at *
  generalize ofNats hi = hiB at *
  generalize ofNats val = valB at *
  have n1 : ¬ 9223372036854775807 < 3 + s1.size := by omega
  go_enter Tryd.func23, Tryd.ntmps23
  go_wp2_with fail
  refine (C1.out _).mono ?_
  rintro e w1 ⟨rfl, hb⟩
  have HB := hid (Below.on (Below.al (Below.refl w.heap.size w) _) hb)
  clear hb
  go_wp2_with fail
  rw [HR.out]
  go_ret
  exact ⟨rfl, HB.out⟩


set_option maxHeartbeats 2000000 in
set_option maxRecDepth 100000 in
theorem dline_put {o : Og} {N : Nat} (hk : o.Ok N) (hN : N ≤ 1048576) (h1 : o.kd = 4) (w : World) (ht : PowTab w) :
    Calls Tryd.prog 23 #[.agg o.cells.toArray] w fun r w' => r = .returned (.string (ofNats (dlin o))) ∧ Below w.heap.size w w' := by
  obtain ⟨kd, ro, asof, back, tok, key, hi, val, lim⟩ := o
  simp only at h1
  subst h1
  obtain ⟨k1, k2, k3, k4, kl, m0, m1, _, _⟩ := hk
  simp only at k1 k2 k3 k4 kl m0 m1
  have C1 := hid (fun W => rw_is k2 (by omega) W)
  have z1 : (ofNats (32 :: wordL key)).size ≤ 3 * key.length + 2 := by rw [ofNats_size]; have := (wordL_len key).2; simp; omega
  have C2 := hid (fun W => rw_is k4 (by omega) W)
  have z2 : (ofNats (32 :: wordL val)).size ≤ 3 * val.length + 2 := by rw [ofNats_size]; have := (wordL_len val).2; simp; omega
  obtain ⟨hd, hhd⟩ : ∃ hd : ByteArray, hd = ⟨#[112, 117, 116]⟩ := ⟨_, rfl⟩
  have zzhd : hd.size = 3 := by rw [hhd]; rfl
  have hhhd : (⟨#[112, 117, 116]⟩ : ByteArray) = hd := hhd.symm
  have HR : Hid (hd ++ ofNats (32 :: wordL key) ++ ofNats (32 :: wordL val) = ofNats (dlin ⟨4, ro, asof, back, tok, key, hi, val, lim⟩)) := hid (by
    rw [hhd, show (⟨#[112, 117, 116]⟩ : ByteArray) = ofNats [112, 117, 116] from rfl]
    simp only [ofNats_append, dlin]
    simp)
  clear hhd
  simp only [Og.cells]
  generalize ofNats (dlin ⟨4, ro, asof, back, tok, key, hi, val, lim⟩) = res at *
  generalize ofNats (32 :: wordL key) = s1 at *
  generalize ofNats (32 :: wordL val) = s2 at *
  generalize ofNats tok = tokB at *
  generalize ofNats key = keyB at *
  generalize ofNats hi = hiB at *
  generalize ofNats val = valB at *
  have n0 : ¬ 9223372036854775807 < 3 + s1.size := by omega
  have n2 : ¬ 9223372036854775807 < 3 + s1.size + s2.size := by omega
  obtain ⟨wb, hwb⟩ : ∃ wb, wb = w.alloc (.cells #[.int .i64 4, .bool ro, .bool asof, .bool back, .string tokB, .string keyB, .string hiB, .string valB, .int .i64 lim] 27) := ⟨_, rfl⟩
  have hB : Below w.heap.size w wb := by rw [hwb]; (repeat (first | with_reducible exact Below.refl _ _ | with_reducible assumption | with_reducible refine Below.drew ?_ | with_reducible refine Below.al ?_ _ | with_reducible refine Below.setCell ?_ (by first | exact Nat.le_refl _ | (simp; omega) | (simp; done)) _ | with_reducible refine Below.on ?_ (by assumption)))
  have q0 : wb.cell? ⟨w.heap.size, 0, none⟩ = some (.int .i64 4) := by rw [hwb]; simp [go_sem]
  have q1 : wb.cell? ⟨w.heap.size, 1, none⟩ = some (.bool ro) := by rw [hwb]; simp [go_sem]
  have q2 : wb.cell? ⟨w.heap.size, 2, none⟩ = some (.bool asof) := by rw [hwb]; simp [go_sem]
  have q3 : wb.cell? ⟨w.heap.size, 3, none⟩ = some (.bool back) := by rw [hwb]; simp [go_sem]
  have q4 : wb.cell? ⟨w.heap.size, 4, none⟩ = some (.string tokB) := by rw [hwb]; simp [go_sem]
  have q5 : wb.cell? ⟨w.heap.size, 5, none⟩ = some (.string keyB) := by rw [hwb]; simp [go_sem]
  have q6 : wb.cell? ⟨w.heap.size, 6, none⟩ = some (.string hiB) := by rw [hwb]; simp [go_sem]
  have q7 : wb.cell? ⟨w.heap.size, 7, none⟩ = some (.string valB) := by rw [hwb]; simp [go_sem]
  have q8 : wb.cell? ⟨w.heap.size, 8, none⟩ = some (.int .i64 lim) := by rw [hwb]; simp [go_sem]
  go_enter Tryd.func23, Tryd.ntmps23
  go_wp2_with fail
  rw [← hwb]
  have HB := hid hB
  clear hwb hB
  go_region_held3 (fun z => z.cell? ⟨w.heap.size, 0, none⟩ = some (.int .i64 4) ∧ z.cell? ⟨w.heap.size, 1, none⟩ = some (.bool ro) ∧ z.cell? ⟨w.heap.size, 2, none⟩ = some (.bool asof) ∧ z.cell? ⟨w.heap.size, 3, none⟩ = some (.bool back) ∧ z.cell? ⟨w.heap.size, 4, none⟩ = some (.string tokB) ∧ z.cell? ⟨w.heap.size, 5, none⟩ = some (.string keyB) ∧ z.cell? ⟨w.heap.size, 6, none⟩ = some (.string hiB) ∧ z.cell? ⟨w.heap.size, 7, none⟩ = some (.string valB) ∧ z.cell? ⟨w.heap.size, 8, none⟩ = some (.int .i64 lim) ∧ Below wb.heap.size wb z)
    ((refine keep9 q0 q1 q2 q3 q4 q5 q6 q7 q8 ?_; ((repeat (first | with_reducible exact Below.refl _ _ | with_reducible assumption | with_reducible refine Below.drew ?_ | with_reducible refine Below.al ?_ _ | with_reducible refine Below.setCell ?_ (by first | exact Nat.le_refl _ | (simp; omega) | (simp; done)) _ | with_reducible refine Below.on ?_ (by assumption))))))
    (first
      | (go_at_call 21; with_reducible refine (C1.out _).mono ?_; rintro e w1 ⟨rfl, hb1⟩)
      | (go_at_call 21; with_reducible refine (C2.out _).mono ?_; rintro e w2 ⟨rfl, hb2⟩))
  all_goals rw [HR.out]
  all_goals go_wp2_with fail
  all_goals go_ret
  all_goals refine ⟨rfl, Below.on HB.out ?_⟩
  all_goals (repeat (first | with_reducible exact Below.refl _ _ | with_reducible assumption | with_reducible refine Below.drew ?_ | with_reducible refine Below.al ?_ _ | with_reducible refine Below.setCell ?_ (by first | exact Nat.le_refl _ | (simp; omega) | (simp; done)) _ | with_reducible refine Below.on ?_ (by assumption)))


set_option maxHeartbeats 2000000 in
set_option maxRecDepth 100000 in
theorem dline_scanneg {o : Og} {N : Nat} (hk : o.Ok N) (hN : N ≤ 1048576) (h1 : o.kd = 3) (hs : o.lim < 0) (w : World) (ht : PowTab w) :
    Calls Tryd.prog 23 #[.agg o.cells.toArray] w fun r w' => r = .returned (.string (ofNats (dlin o))) ∧ Below w.heap.size w w' := by
  obtain ⟨kd, ro, asof, back, tok, key, hi, val, lim⟩ := o
  simp only at h1
  subst h1
  obtain ⟨k1, k2, k3, k4, kl, m0, m1, _, _⟩ := hk
  simp only at k1 k2 k3 k4 kl m0 m1
  simp only at hs
  have C1 := hid (fun W => rw_is k2 (by omega) W)
  have z1 : (ofNats (32 :: wordL key)).size ≤ 3 * key.length + 2 := by rw [ofNats_size]; have := (wordL_len key).2; simp; omega
  have C2 := hid (fun W => rw_is k3 (by omega) W)
  have z2 : (ofNats (32 :: wordL hi)).size ≤ 3 * hi.length + 2 := by rw [ofNats_size]; have := (wordL_len hi).2; simp; omega
  obtain ⟨hd, hhd⟩ : ∃ hd : ByteArray, hd = ⟨#[115, 99, 97, 110]⟩ := ⟨_, rfl⟩
  have zzhd : hd.size = 4 := by rw [hhd]; rfl
  have hhhd : (⟨#[115, 99, 97, 110]⟩ : ByteArray) = hd := hhd.symm
  have zs : spB.size = 1 := rfl
  have hsp : (⟨#[32]⟩ : ByteArray) = spB := rfl
  have d0 : decide (lim < 0) = true := decide_eq_true hs
  have HE : Hid (dlin ⟨3, ro, asof, back, tok, key, hi, val, lim⟩ = []) := hid (by simp [dlin, hs])
  clear hhd
  simp only [Og.cells]
  rw [HE.out]
  generalize ofNats (32 :: wordL key) = s1 at *
  generalize ofNats (32 :: wordL hi) = s2 at *
  generalize ofNats tok = tokB at *
  generalize ofNats key = keyB at *
  generalize ofNats hi = hiB at *
  generalize ofNats val = valB at *
  have n0 : ¬ 9223372036854775807 < 4 + s1.size := by omega
  have n1 : ¬ 9223372036854775807 < 4 + s1.size + s2.size := by omega
  have n2 : ¬ 9223372036854775807 < 4 + s1.size + s2.size + 1 := by omega
  obtain ⟨wb, hwb⟩ : ∃ wb, wb = w.alloc (.cells #[.int .i64 3, .bool ro, .bool asof, .bool back, .string tokB, .string keyB, .string hiB, .string valB, .int .i64 lim] 27) := ⟨_, rfl⟩
  have hB : Below w.heap.size w wb := by rw [hwb]; (repeat (first | with_reducible exact Below.refl _ _ | with_reducible assumption | with_reducible refine Below.drew ?_ | with_reducible refine Below.al ?_ _ | with_reducible refine Below.setCell ?_ (by first | exact Nat.le_refl _ | (simp; omega) | (simp; done)) _ | with_reducible refine Below.on ?_ (by assumption)))
  have q0 : wb.cell? ⟨w.heap.size, 0, none⟩ = some (.int .i64 3) := by rw [hwb]; simp [go_sem]
  have q1 : wb.cell? ⟨w.heap.size, 1, none⟩ = some (.bool ro) := by rw [hwb]; simp [go_sem]
  have q2 : wb.cell? ⟨w.heap.size, 2, none⟩ = some (.bool asof) := by rw [hwb]; simp [go_sem]
  have q3 : wb.cell? ⟨w.heap.size, 3, none⟩ = some (.bool back) := by rw [hwb]; simp [go_sem]
  have q4 : wb.cell? ⟨w.heap.size, 4, none⟩ = some (.string tokB) := by rw [hwb]; simp [go_sem]
  have q5 : wb.cell? ⟨w.heap.size, 5, none⟩ = some (.string keyB) := by rw [hwb]; simp [go_sem]
  have q6 : wb.cell? ⟨w.heap.size, 6, none⟩ = some (.string hiB) := by rw [hwb]; simp [go_sem]
  have q7 : wb.cell? ⟨w.heap.size, 7, none⟩ = some (.string valB) := by rw [hwb]; simp [go_sem]
  have q8 : wb.cell? ⟨w.heap.size, 8, none⟩ = some (.int .i64 lim) := by rw [hwb]; simp [go_sem]
  go_enter Tryd.func23, Tryd.ntmps23
  go_wp2_with fail
  rw [← hwb]
  have HB := hid hB
  clear hwb hB
  go_cut [3] (fun v z => ∃ w3, w3 = z ∧ v = .string (hd ++ s1 ++ s2 ++ spB) ∧ Below wb.heap.size wb w3)
  case first =>
    go_region_held3 (fun z => z.cell? ⟨w.heap.size, 0, none⟩ = some (.int .i64 3) ∧ z.cell? ⟨w.heap.size, 1, none⟩ = some (.bool ro) ∧ z.cell? ⟨w.heap.size, 2, none⟩ = some (.bool asof) ∧ z.cell? ⟨w.heap.size, 3, none⟩ = some (.bool back) ∧ z.cell? ⟨w.heap.size, 4, none⟩ = some (.string tokB) ∧ z.cell? ⟨w.heap.size, 5, none⟩ = some (.string keyB) ∧ z.cell? ⟨w.heap.size, 6, none⟩ = some (.string hiB) ∧ z.cell? ⟨w.heap.size, 7, none⟩ = some (.string valB) ∧ z.cell? ⟨w.heap.size, 8, none⟩ = some (.int .i64 lim) ∧ Below wb.heap.size wb z)
      ((refine keep9 q0 q1 q2 q3 q4 q5 q6 q7 q8 ?_; ((repeat (first | with_reducible exact Below.refl _ _ | with_reducible assumption | with_reducible refine Below.drew ?_ | with_reducible refine Below.al ?_ _ | with_reducible refine Below.setCell ?_ (by first | exact Nat.le_refl _ | (simp; omega) | (simp; done)) _ | with_reducible refine Below.on ?_ (by assumption))))))
      (first
        | (go_at_call 21; with_reducible refine (C1.out _).mono ?_; rintro e w1 ⟨rfl, hb1⟩)
        | (go_at_call 21; with_reducible refine (C2.out _).mono ?_; rintro e w2 ⟨rfl, hb2⟩))
    all_goals go_wp2_with fail
    all_goals go_meet
    all_goals exact ⟨_, rfl, rfl, by (repeat (first | with_reducible exact Below.refl _ _ | with_reducible assumption | with_reducible refine Below.drew ?_ | with_reducible refine Below.al ?_ _ | with_reducible refine Below.setCell ?_ (by first | exact Nat.le_refl _ | (simp; omega) | (simp; done)) _ | with_reducible refine Below.on ?_ (by assumption)))⟩
  case rest =>
    obtain ⟨w3, rfl, rfl, hb3⟩ := hcut
    have e8 : w3.cell? ⟨w.heap.size, 8, none⟩ = some (.int .i64 lim) := cell_upon hb3 q8
    have e3 : w3.cell? ⟨w.heap.size, 3, none⟩ = some (.bool back) := cell_upon hb3 q3
    have HB3 := hid (Below.on HB.out hb3)
    clear hb3 q0 q1 q2 q3 q4 q5 q6 q7 q8 C1 C2
    go_wp2_with fail
    go_ret
    exact ⟨rfl, HB3.out⟩


set_option maxHeartbeats 2000000 in
set_option maxRecDepth 100000 in
theorem dline_scanfwd {o : Og} {N : Nat} (hk : o.Ok N) (hN : N ≤ 1048576) (h1 : o.kd = 3) (h2 : o.back = false) (hs : 0 ≤ o.lim) (w : World) (ht : PowTab w) :
    Calls Tryd.prog 23 #[.agg o.cells.toArray] w fun r w' => r = .returned (.string (ofNats (dlin o))) ∧ Below w.heap.size w w' := by
  obtain ⟨kd, ro, asof, back, tok, key, hi, val, lim⟩ := o
  simp only at h1 h2
  subst h1 h2
  obtain ⟨k1, k2, k3, k4, kl, m0, m1, _, _⟩ := hk
  simp only at k1 k2 k3 k4 kl m0 m1
  simp only at hs
  have C1 := hid (fun W => rw_is k2 (by omega) W)
  have z1 : (ofNats (32 :: wordL key)).size ≤ 3 * key.length + 2 := by rw [ofNats_size]; have := (wordL_len key).2; simp; omega
  have C2 := hid (fun W => rw_is k3 (by omega) W)
  have z2 : (ofNats (32 :: wordL hi)).size ≤ 3 * hi.length + 2 := by rw [ofNats_size]; have := (wordL_len hi).2; simp; omega
  obtain ⟨hd, hhd⟩ : ∃ hd : ByteArray, hd = ⟨#[115, 99, 97, 110]⟩ := ⟨_, rfl⟩
  have zzhd : hd.size = 4 := by rw [hhd]; rfl
  have hhhd : (⟨#[115, 99, 97, 110]⟩ : ByteArray) = hd := hhd.symm
  have zs : spB.size = 1 := rfl
  have hsp : (⟨#[32]⟩ : ByteArray) = spB := rfl
  have CD := hid (fun W => refdecimal_any lim.toNat (by omega) W)
  rw [dec_nats, Int.toNat_of_nonneg hs] at CD
  have wl : IntKind.u64.wrap lim = lim := by rw [IntKind.wrap_u64]; omega
  have zi : (ofNats (decN lim.toNat)).size ≤ 20 := by rw [ofNats_size]; exact decN_le (by omega)
  have d0 : decide (lim < 0) = false := decide_eq_false (by omega)
  have HR : Hid (hd ++ ofNats (32 :: wordL key) ++ ofNats (32 :: wordL hi) ++ spB ++ ofNats (decN lim.toNat) = ofNats (dlin ⟨3, ro, asof, false, tok, key, hi, val, lim⟩)) := hid (by
    rw [hhd, show (⟨#[115, 99, 97, 110]⟩ : ByteArray) = ofNats [115, 99, 97, 110] from rfl, show spB = ofNats [32] from rfl]
    have hn : ¬ lim < 0 := by omega
    simp only [ofNats_append, dlin]
    simp [hn, scanL])
  clear hhd
  simp only [Og.cells]
  generalize ofNats (dlin ⟨3, ro, asof, false, tok, key, hi, val, lim⟩) = res at *
  generalize ofNats (32 :: wordL key) = s1 at *
  generalize ofNats (32 :: wordL hi) = s2 at *
  generalize ofNats (decN lim.toNat) = s3 at *
  generalize ofNats tok = tokB at *
  generalize ofNats key = keyB at *
  generalize ofNats hi = hiB at *
  generalize ofNats val = valB at *
  have n0 : ¬ 9223372036854775807 < 4 + s1.size := by omega
  have n1 : ¬ 9223372036854775807 < 4 + s1.size + s2.size := by omega
  have n2 : ¬ 9223372036854775807 < 4 + s1.size + s2.size + 1 := by omega
  have n4 : ¬ 9223372036854775807 < 4 + s1.size + s2.size + 1 + s3.size := by omega
  obtain ⟨wb, hwb⟩ : ∃ wb, wb = w.alloc (.cells #[.int .i64 3, .bool ro, .bool asof, .bool false, .string tokB, .string keyB, .string hiB, .string valB, .int .i64 lim] 27) := ⟨_, rfl⟩
  have hB : Below w.heap.size w wb := by rw [hwb]; (repeat (first | with_reducible exact Below.refl _ _ | with_reducible assumption | with_reducible refine Below.drew ?_ | with_reducible refine Below.al ?_ _ | with_reducible refine Below.setCell ?_ (by first | exact Nat.le_refl _ | (simp; omega) | (simp; done)) _ | with_reducible refine Below.on ?_ (by assumption)))
  have q0 : wb.cell? ⟨w.heap.size, 0, none⟩ = some (.int .i64 3) := by rw [hwb]; simp [go_sem]
  have q1 : wb.cell? ⟨w.heap.size, 1, none⟩ = some (.bool ro) := by rw [hwb]; simp [go_sem]
  have q2 : wb.cell? ⟨w.heap.size, 2, none⟩ = some (.bool asof) := by rw [hwb]; simp [go_sem]
  have q3 : wb.cell? ⟨w.heap.size, 3, none⟩ = some (.bool false) := by rw [hwb]; simp [go_sem]
  have q4 : wb.cell? ⟨w.heap.size, 4, none⟩ = some (.string tokB) := by rw [hwb]; simp [go_sem]
  have q5 : wb.cell? ⟨w.heap.size, 5, none⟩ = some (.string keyB) := by rw [hwb]; simp [go_sem]
  have q6 : wb.cell? ⟨w.heap.size, 6, none⟩ = some (.string hiB) := by rw [hwb]; simp [go_sem]
  have q7 : wb.cell? ⟨w.heap.size, 7, none⟩ = some (.string valB) := by rw [hwb]; simp [go_sem]
  have q8 : wb.cell? ⟨w.heap.size, 8, none⟩ = some (.int .i64 lim) := by rw [hwb]; simp [go_sem]
  go_enter Tryd.func23, Tryd.ntmps23
  go_wp2_with fail
  rw [← hwb]
  have HB := hid hB
  clear hwb hB
  go_cut [3] (fun v z => ∃ w3, w3 = z ∧ v = .string (hd ++ s1 ++ s2 ++ spB) ∧ Below wb.heap.size wb w3)
  case first =>
    go_region_held3 (fun z => z.cell? ⟨w.heap.size, 0, none⟩ = some (.int .i64 3) ∧ z.cell? ⟨w.heap.size, 1, none⟩ = some (.bool ro) ∧ z.cell? ⟨w.heap.size, 2, none⟩ = some (.bool asof) ∧ z.cell? ⟨w.heap.size, 3, none⟩ = some (.bool false) ∧ z.cell? ⟨w.heap.size, 4, none⟩ = some (.string tokB) ∧ z.cell? ⟨w.heap.size, 5, none⟩ = some (.string keyB) ∧ z.cell? ⟨w.heap.size, 6, none⟩ = some (.string hiB) ∧ z.cell? ⟨w.heap.size, 7, none⟩ = some (.string valB) ∧ z.cell? ⟨w.heap.size, 8, none⟩ = some (.int .i64 lim) ∧ Below wb.heap.size wb z)
      ((refine keep9 q0 q1 q2 q3 q4 q5 q6 q7 q8 ?_; ((repeat (first | with_reducible exact Below.refl _ _ | with_reducible assumption | with_reducible refine Below.drew ?_ | with_reducible refine Below.al ?_ _ | with_reducible refine Below.setCell ?_ (by first | exact Nat.le_refl _ | (simp; omega) | (simp; done)) _ | with_reducible refine Below.on ?_ (by assumption))))))
      (first
        | (go_at_call 21; with_reducible refine (C1.out _).mono ?_; rintro e w1 ⟨rfl, hb1⟩)
        | (go_at_call 21; with_reducible refine (C2.out _).mono ?_; rintro e w2 ⟨rfl, hb2⟩))
    all_goals go_wp2_with fail
    all_goals go_meet
    all_goals exact ⟨_, rfl, rfl, by (repeat (first | with_reducible exact Below.refl _ _ | with_reducible assumption | with_reducible refine Below.drew ?_ | with_reducible refine Below.al ?_ _ | with_reducible refine Below.setCell ?_ (by first | exact Nat.le_refl _ | (simp; omega) | (simp; done)) _ | with_reducible refine Below.on ?_ (by assumption)))⟩
  case rest =>
    obtain ⟨w3, rfl, rfl, hb3⟩ := hcut
    have e8 : w3.cell? ⟨w.heap.size, 8, none⟩ = some (.int .i64 lim) := cell_upon hb3 q8
    have e3 : w3.cell? ⟨w.heap.size, 3, none⟩ = some (.bool false) := cell_upon hb3 q3
    have HB3 := hid (Below.on HB.out hb3)
    clear hb3 q0 q1 q2 q3 q4 q5 q6 q7 q8 C1 C2
    go_wp2_with fail
    refine (CD.out _).mono ?_
    rintro e w4 ⟨rfl, hb4⟩
    have HB4 := hid (Below.on HB3.out hb4)
    clear hb4
    go_wp2_with fail
    rw [HR.out]
    go_ret
    exact ⟨rfl, HB4.out⟩


set_option maxHeartbeats 2000000 in
set_option maxRecDepth 100000 in
theorem dline_scanbck {o : Og} {N : Nat} (hk : o.Ok N) (hN : N ≤ 1048576) (h1 : o.kd = 3) (h2 : o.back = true) (hs : 0 ≤ o.lim) (w : World) (ht : PowTab w) :
    Calls Tryd.prog 23 #[.agg o.cells.toArray] w fun r w' => r = .returned (.string (ofNats (dlin o))) ∧ Below w.heap.size w w' := by
  obtain ⟨kd, ro, asof, back, tok, key, hi, val, lim⟩ := o
  simp only at h1 h2
  subst h1 h2
  obtain ⟨k1, k2, k3, k4, kl, m0, m1, _, _⟩ := hk
  simp only at k1 k2 k3 k4 kl m0 m1
  simp only at hs
  have C1 := hid (fun W => rw_is k2 (by omega) W)
  have z1 : (ofNats (32 :: wordL key)).size ≤ 3 * key.length + 2 := by rw [ofNats_size]; have := (wordL_len key).2; simp; omega
  have C2 := hid (fun W => rw_is k3 (by omega) W)
  have z2 : (ofNats (32 :: wordL hi)).size ≤ 3 * hi.length + 2 := by rw [ofNats_size]; have := (wordL_len hi).2; simp; omega
  obtain ⟨hd, hhd⟩ : ∃ hd : ByteArray, hd = ⟨#[115, 99, 97, 110]⟩ := ⟨_, rfl⟩
  have zzhd : hd.size = 4 := by rw [hhd]; rfl
  have hhhd : (⟨#[115, 99, 97, 110]⟩ : ByteArray) = hd := hhd.symm
  have zs : spB.size = 1 := rfl
  have hsp : (⟨#[32]⟩ : ByteArray) = spB := rfl
  have CD := hid (fun W => refdecimal_any lim.toNat (by omega) W)
  rw [dec_nats, Int.toNat_of_nonneg hs] at CD
  have wl : IntKind.u64.wrap lim = lim := by rw [IntKind.wrap_u64]; omega
  have zi : (ofNats (decN lim.toNat)).size ≤ 20 := by rw [ofNats_size]; exact decN_le (by omega)
  have d0 : decide (lim < 0) = false := decide_eq_false (by omega)
  obtain ⟨rr, hrr⟩ : ∃ rr : ByteArray, rr = ⟨#[114]⟩ := ⟨_, rfl⟩
  have zzrr : rr.size = 1 := by rw [hrr]; rfl
  have hhrr : (⟨#[114]⟩ : ByteArray) = rr := hrr.symm
  have HR : Hid (rr ++ (hd ++ ofNats (32 :: wordL key) ++ ofNats (32 :: wordL hi) ++ spB) ++ ofNats (decN lim.toNat) = ofNats (dlin ⟨3, ro, asof, true, tok, key, hi, val, lim⟩)) := hid (by
    rw [hrr, show (⟨#[114]⟩ : ByteArray) = ofNats [114] from rfl, hhd, show (⟨#[115, 99, 97, 110]⟩ : ByteArray) = ofNats [115, 99, 97, 110] from rfl, show spB = ofNats [32] from rfl]
    have hn : ¬ lim < 0 := by omega
    simp only [ofNats_append, dlin]
    simp [hn, scanL])
  clear hhd hrr
  simp only [Og.cells]
  generalize ofNats (dlin ⟨3, ro, asof, true, tok, key, hi, val, lim⟩) = res at *
  generalize ofNats (32 :: wordL key) = s1 at *
  generalize ofNats (32 :: wordL hi) = s2 at *
  generalize ofNats (decN lim.toNat) = s3 at *
  generalize ofNats tok = tokB at *
  generalize ofNats key = keyB at *
  generalize ofNats hi = hiB at *
  generalize ofNats val = valB at *
  have n0 : ¬ 9223372036854775807 < 4 + s1.size := by omega
  have n1 : ¬ 9223372036854775807 < 4 + s1.size + s2.size := by omega
  have n2 : ¬ 9223372036854775807 < 4 + s1.size + s2.size + 1 := by omega
  have n3 : ¬ 9223372036854775807 < 1 + (4 + s1.size + s2.size + 1) := by omega
  have n4 : ¬ 9223372036854775807 < 1 + (4 + s1.size + s2.size + 1) + s3.size := by omega
  obtain ⟨wb, hwb⟩ : ∃ wb, wb = w.alloc (.cells #[.int .i64 3, .bool ro, .bool asof, .bool true, .string tokB, .string keyB, .string hiB, .string valB, .int .i64 lim] 27) := ⟨_, rfl⟩
  have hB : Below w.heap.size w wb := by rw [hwb]; (repeat (first | with_reducible exact Below.refl _ _ | with_reducible assumption | with_reducible refine Below.drew ?_ | with_reducible refine Below.al ?_ _ | with_reducible refine Below.setCell ?_ (by first | exact Nat.le_refl _ | (simp; omega) | (simp; done)) _ | with_reducible refine Below.on ?_ (by assumption)))
  have q0 : wb.cell? ⟨w.heap.size, 0, none⟩ = some (.int .i64 3) := by rw [hwb]; simp [go_sem]
  have q1 : wb.cell? ⟨w.heap.size, 1, none⟩ = some (.bool ro) := by rw [hwb]; simp [go_sem]
  have q2 : wb.cell? ⟨w.heap.size, 2, none⟩ = some (.bool asof) := by rw [hwb]; simp [go_sem]
  have q3 : wb.cell? ⟨w.heap.size, 3, none⟩ = some (.bool true) := by rw [hwb]; simp [go_sem]
  have q4 : wb.cell? ⟨w.heap.size, 4, none⟩ = some (.string tokB) := by rw [hwb]; simp [go_sem]
  have q5 : wb.cell? ⟨w.heap.size, 5, none⟩ = some (.string keyB) := by rw [hwb]; simp [go_sem]
  have q6 : wb.cell? ⟨w.heap.size, 6, none⟩ = some (.string hiB) := by rw [hwb]; simp [go_sem]
  have q7 : wb.cell? ⟨w.heap.size, 7, none⟩ = some (.string valB) := by rw [hwb]; simp [go_sem]
  have q8 : wb.cell? ⟨w.heap.size, 8, none⟩ = some (.int .i64 lim) := by rw [hwb]; simp [go_sem]
  go_enter Tryd.func23, Tryd.ntmps23
  go_wp2_with fail
  rw [← hwb]
  have HB := hid hB
  clear hwb hB
  go_cut [3] (fun v z => ∃ w3, w3 = z ∧ v = .string (hd ++ s1 ++ s2 ++ spB) ∧ Below wb.heap.size wb w3)
  case first =>
    go_region_held3 (fun z => z.cell? ⟨w.heap.size, 0, none⟩ = some (.int .i64 3) ∧ z.cell? ⟨w.heap.size, 1, none⟩ = some (.bool ro) ∧ z.cell? ⟨w.heap.size, 2, none⟩ = some (.bool asof) ∧ z.cell? ⟨w.heap.size, 3, none⟩ = some (.bool true) ∧ z.cell? ⟨w.heap.size, 4, none⟩ = some (.string tokB) ∧ z.cell? ⟨w.heap.size, 5, none⟩ = some (.string keyB) ∧ z.cell? ⟨w.heap.size, 6, none⟩ = some (.string hiB) ∧ z.cell? ⟨w.heap.size, 7, none⟩ = some (.string valB) ∧ z.cell? ⟨w.heap.size, 8, none⟩ = some (.int .i64 lim) ∧ Below wb.heap.size wb z)
      ((refine keep9 q0 q1 q2 q3 q4 q5 q6 q7 q8 ?_; ((repeat (first | with_reducible exact Below.refl _ _ | with_reducible assumption | with_reducible refine Below.drew ?_ | with_reducible refine Below.al ?_ _ | with_reducible refine Below.setCell ?_ (by first | exact Nat.le_refl _ | (simp; omega) | (simp; done)) _ | with_reducible refine Below.on ?_ (by assumption))))))
      (first
        | (go_at_call 21; with_reducible refine (C1.out _).mono ?_; rintro e w1 ⟨rfl, hb1⟩)
        | (go_at_call 21; with_reducible refine (C2.out _).mono ?_; rintro e w2 ⟨rfl, hb2⟩))
    all_goals go_wp2_with fail
    all_goals go_meet
    all_goals exact ⟨_, rfl, rfl, by (repeat (first | with_reducible exact Below.refl _ _ | with_reducible assumption | with_reducible refine Below.drew ?_ | with_reducible refine Below.al ?_ _ | with_reducible refine Below.setCell ?_ (by first | exact Nat.le_refl _ | (simp; omega) | (simp; done)) _ | with_reducible refine Below.on ?_ (by assumption)))⟩
  case rest =>
    obtain ⟨w3, rfl, rfl, hb3⟩ := hcut
    have e8 : w3.cell? ⟨w.heap.size, 8, none⟩ = some (.int .i64 lim) := cell_upon hb3 q8
    have e3 : w3.cell? ⟨w.heap.size, 3, none⟩ = some (.bool true) := cell_upon hb3 q3
    have HB3 := hid (Below.on HB.out hb3)
    clear hb3 q0 q1 q2 q3 q4 q5 q6 q7 q8 C1 C2
    go_wp2_with fail
    refine (CD.out _).mono ?_
    rintro e w4 ⟨rfl, hb4⟩
    have HB4 := hid (Below.on HB3.out hb4)
    clear hb4
    go_wp2_with fail
    rw [HR.out]
    go_ret
    exact ⟨rfl, HB4.out⟩


set_option maxHeartbeats 2000000 in
set_option maxRecDepth 100000 in
theorem dline_commit {o : Og} {N : Nat} (hk : o.Ok N) (hN : N ≤ 1048576) (h1 : o.kd = 6) (w : World) (ht : PowTab w) :
    Calls Tryd.prog 23 #[.agg o.cells.toArray] w fun r w' => r = .returned (.string (ofNats (dlin o))) ∧ Below w.heap.size w w' := by
  obtain ⟨kd, ro, asof, back, tok, key, hi, val, lim⟩ := o
  simp only at h1
  subst h1
  obtain ⟨k1, k2, k3, k4, kl, m0, m1, _, _⟩ := hk
  simp only at k1 k2 k3 k4 kl m0 m1
  simp only [Og.cells]
  go_enter Tryd.func23, Tryd.ntmps23
  go_wp2_with fail
  go_ret
  exact ⟨rfl, Below.al (Below.refl _ _) _⟩


set_option maxHeartbeats 2000000 in
set_option maxRecDepth 100000 in
theorem dline_abort {o : Og} {N : Nat} (hk : o.Ok N) (hN : N ≤ 1048576) (h1 : o.kd = 7) (w : World) (ht : PowTab w) :
    Calls Tryd.prog 23 #[.agg o.cells.toArray] w fun r w' => r = .returned (.string (ofNats (dlin o))) ∧ Below w.heap.size w w' := by
  obtain ⟨kd, ro, asof, back, tok, key, hi, val, lim⟩ := o
  simp only at h1
  subst h1
  obtain ⟨k1, k2, k3, k4, kl, m0, m1, _, _⟩ := hk
  simp only at k1 k2 k3 k4 kl m0 m1
  simp only [Og.cells]
  go_enter Tryd.func23, Tryd.ntmps23
  go_wp2_with fail
  go_ret
  exact ⟨rfl, Below.al (Below.refl _ _) _⟩


set_option maxHeartbeats 2000000 in
set_option maxRecDepth 100000 in
theorem dline_none {o : Og} (h1 : o.kd ≠ 1) (h2 : o.kd ≠ 2) (h3 : o.kd ≠ 3) (h4 : o.kd ≠ 4) (h5 : o.kd ≠ 5) (h6 : o.kd ≠ 6) (h7 : o.kd ≠ 7) (w : World) :
    Calls Tryd.prog 23 #[.agg o.cells.toArray] w fun r w' => r = .returned (.string (ofNats (dlin o))) ∧ Below w.heap.size w w' := by
  have HE : Hid (dlin o = []) := hid (by unfold dlin; rw [if_neg h1, if_neg h2, if_neg h3, if_neg h4, if_neg h5, if_neg h6, if_neg h7])
  rw [HE.out]
  clear HE
  obtain ⟨kd, ro, asof, back, tok, key, hi, val, lim⟩ := o
  simp only [Og.cells] at h1 h2 h3 h4 h5 h6 h7 ⊢
  go_enter Tryd.func23, Tryd.ntmps23
  go_wp2_with fail
  go_ret
  exact ⟨rfl, Below.al (Below.refl _ _) _⟩
theorem dline_is {o : Og} {N : Nat} (hk : o.Ok N) (hN : N ≤ 1048576) (w : World) (ht : PowTab w) :
    Calls Tryd.prog 23 #[.agg o.cells.toArray] w fun r w' => r = .returned (.string (ofNats (dlin o))) ∧ Below w.heap.size w w' := by
  by_cases h3 : o.kd = 3
  · by_cases hs : o.lim < 0
    · exact dline_scanneg hk hN h3 hs w ht
    · cases hb : o.back
      · exact dline_scanfwd hk hN h3 hb (by omega) w ht
      · exact dline_scanbck hk hN h3 hb (by omega) w ht
  by_cases h1 : o.kd = 1
  · exact dline_begin hk hN h1 w ht
  by_cases h2 : o.kd = 2
  · exact dline_get hk hN h2 w ht
  by_cases h4 : o.kd = 4
  · exact dline_put hk hN h4 w ht
  by_cases h5 : o.kd = 5
  · exact dline_del hk hN h5 w ht
  by_cases h6 : o.kd = 6
  · exact dline_commit hk hN h6 w ht
  by_cases h7 : o.kd = 7
  · exact dline_abort hk hN h7 w ht
  exact dline_none h1 h2 h3 h4 h5 h6 h7 w

end Go.Proofs.YtggmhodogfngdaaDoor.Gt