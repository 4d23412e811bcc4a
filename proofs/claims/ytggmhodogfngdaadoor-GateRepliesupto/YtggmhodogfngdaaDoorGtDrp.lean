import Derived.Test.YtggmhodogfngdaaDoorGtRep2
import Derived.Test.YtggmhodogfngdaaDoorGtSr
/- The document's reply to an answer. -/
namespace Go.Proofs.YtggmhodogfngdaaDoor.Gt
open Go.Proofs.YtggmhodogfngdaaDoor Go.Proofs.YtggmhodogfngdaaDoor.Rt Go.RowKit Go.Sort
set_option linter.unusedVariables false

set_option maxHeartbeats 2000000 in
set_option maxRecDepth 100000 in
theorem drep_err {a : An} (hk : a.Ok) (h0 : a.st ≠ 0) (w : World) (ht : PowTab w) :
    Calls Tryd.prog 7 #[.agg a.cells] w fun r w' => r = .returned (.string (ofNats (errHd ++ nameL a.st))) ∧ Below w.heap.size w w' := by
  obtain ⟨cl, tc, ts, ⟨kd, ro, asof, back, tok, key, hi, val, lim⟩, st, aw, al, an, pr, pa, pc, tk⟩ := a
  have C := hid (fun W (hW : Below w.heap.size w W) => rname_is hk.st0 hk.st1 W (ht.later hW))
  have hz : (ofNats (nameL st)).size ≤ 21 := by rw [ofNats_size]; exact name_le hk.st0 hk.st1
  have HR : Hid ((⟨#[101, 114, 114, 111, 114, 32]⟩ : ByteArray) ++ ofNats (nameL st) = ofNats (errHd ++ nameL st)) := hid (by
    rw [show (⟨#[101, 114, 114, 111, 114, 32]⟩ : ByteArray) = ofNats errHd from rfl, ofNats_append])
  obtain ⟨eh, heh⟩ : ∃ eh : ByteArray, eh = ⟨#[101, 114, 114, 111, 114, 32]⟩ := ⟨_, rfl⟩
  have zd : eh.size = 6 := by rw [heh]; rfl
  rw [← heh] at HR
  have heh' : (⟨#[101, 114, 114, 111, 114, 32]⟩ : ByteArray) = eh := heh.symm
  simp only [An.cells] at h0 C HR ⊢
  clear heh hk ht
  generalize ofNats (nameL st) = s0 at *
  have n0 : ¬ 9223372036854775807 < 6 + s0.size := by omega
  go_enter Tryd.func7, Tryd.ntmps7
  go_wp2_with fail
  refine (C.out _ (by (repeat (first | with_reducible exact Below.refl _ _ | with_reducible assumption | with_reducible refine Below.drew ?_ | with_reducible refine Below.al ?_ _ | with_reducible refine Below.setCell ?_ (by first | exact Nat.le_refl _ | (simp; omega) | (simp; done)) _ | with_reducible refine Below.on ?_ (by assumption))))).mono ?_
  rintro e w1 ⟨rfl, hb⟩
  have HB := hid (Below.on (Below.al (Below.refl w.heap.size w) _) hb)
  clear hb
  go_wp2_with fail
  rw [HR.out]
  go_ret
  exact ⟨rfl, HB.out⟩

set_option maxHeartbeats 2000000 in
set_option maxRecDepth 100000 in
theorem drep_begin {a : An} (hk : a.Ok) (h0 : a.st = 0) (h1 : a.op.kd = 1) (w : World) (hr : PrRow w a.pa a.pr) :
    Calls Tryd.prog 7 #[.agg a.cells] w fun r w' => r = .returned (.string (ofNats (begL a))) ∧ Below w.heap.size w w' := by
  obtain ⟨cl, tc, ts, ⟨kd, ro, asof, back, tok, key, hi, val, lim⟩, st, aw, al, an, pr, pa, pc, tk⟩ := a
  simp only at h0 h1
  subst h0 h1
  obtain ⟨ktc, kts, _, _, kaw, kal, kan, _, _, k8, kl⟩ := hk
  simp only at ktc kts kaw kal kan k8 kl
  have C1 := hid (fun W => refdecimal_any tc (by omega) W)
  have C2 := hid (fun W => refdecimal_any ts (by omega) W)
  have C3 := hid (fun W => reftext_any (aw : Int) (al : Int) (an : Int) W ⟨⟨by omega, by omega⟩, ⟨by omega, by omega⟩, by omega, by omega⟩)
  rw [txt_nats] at C3
  rw [dec_nats] at C1 C2
  have hw1 : IntKind.u64.wrap (tc : Int) = tc := by rw [IntKind.wrap_u64]; omega
  have hw2 : IntKind.u64.wrap (ts : Int) = ts := by rw [IntKind.wrap_u64]; omega
  have z1 : (ofNats (decN tc)).size ≤ 20 := by rw [ofNats_size]; exact decN_le (by omega)
  have z2 : (ofNats (decN ts)).size ≤ 20 := by rw [ofNats_size]; exact decN_le (by omega)
  have z3 : (ofNats (stampL aw al an)).size ≤ 62 := by rw [ofNats_size]; exact stampL_len kaw kal kan
  obtain ⟨bh, hbh⟩ : ∃ bh : ByteArray, bh = ⟨#[98, 101, 103, 117, 110, 32]⟩ := ⟨_, rfl⟩
  have zd : bh.size = 6 := by rw [hbh]; rfl
  have HR : Hid (bh ++ ofNats (decN tc) ++ sp ++ ofNats (decN ts) ++ sp ++ ofNats (stampL aw al an) = ofNats (begL ⟨cl, tc, ts, ⟨1, ro, asof, back, tok, key, hi, val, lim⟩, 0, aw, al, an, pr, pa, pc, tk⟩)) := hid (by
    rw [hbh, show (⟨#[98, 101, 103, 117, 110, 32]⟩ : ByteArray) = ofNats begHd from rfl, show sp = ofNats [32] from rfl]
    simp only [ofNats_append, begL]
    simp)
  have hbh' : (⟨#[98, 101, 103, 117, 110, 32]⟩ : ByteArray) = bh := hbh.symm
  simp only [An.cells]
  clear hbh hr
  generalize ofNats (begL ⟨cl, tc, ts, ⟨1, ro, asof, back, tok, key, hi, val, lim⟩, 0, aw, al, an, pr, pa, pc, tk⟩) = res at *
  generalize ofNats (decN tc) = s1 at *
  generalize ofNats (decN ts) = s2 at *
  generalize ofNats (stampL aw al an) = s3 at *
  generalize ofNats tk = tkb at *
  have zs : sp.size = 1 := rfl
  have hsp : (⟨#[32]⟩ : ByteArray) = sp := rfl
  have n1 : ¬ 9223372036854775807 < 6 + s1.size := by omega
  have n2 : ¬ 9223372036854775807 < 6 + s1.size + 1 := by omega
  have n3 : ¬ 9223372036854775807 < 6 + s1.size + 1 + s2.size := by omega
  have n4 : ¬ 9223372036854775807 < 6 + s1.size + 1 + s2.size + 1 := by omega
  have n5 : ¬ 9223372036854775807 < 6 + s1.size + 1 + s2.size + 1 + s3.size := by omega
  obtain ⟨wb, hwb⟩ : ∃ wb, wb = w.alloc (.cells #[.int .u32 (cl : Int), .int .u32 (tc : Int), .int .u32 (ts : Int), .int .i64 1, .bool ro, .bool asof, .bool back, .string (ofNats tok), .string (ofNats key), .string (ofNats hi), .string (ofNats val), .int .i64 lim, .int .i64 0, .int .u64 (aw : Int), .int .u32 (al : Int), .int .u32 (an : Int), .slice pa pr.length pc, .string tkb] 34) := ⟨_, rfl⟩
  have hB : Below w.heap.size w wb := by rw [hwb]; (repeat (first | with_reducible exact Below.refl _ _ | with_reducible assumption | with_reducible refine Below.drew ?_ | with_reducible refine Below.al ?_ _ | with_reducible refine Below.setCell ?_ (by first | exact Nat.le_refl _ | (simp; omega) | (simp; done)) _ | with_reducible refine Below.on ?_ (by assumption)))
  have q1 : wb.cell? ⟨w.heap.size, 1, none⟩ = some (.int .u32 (tc : Int)) := by rw [hwb]; simp [go_sem]
  have q2 : wb.cell? ⟨w.heap.size, 2, none⟩ = some (.int .u32 (ts : Int)) := by rw [hwb]; simp [go_sem]
  have q3 : wb.cell? ⟨w.heap.size, 13, none⟩ = some (.int .u64 (aw : Int)) := by rw [hwb]; simp [go_sem]
  have q4 : wb.cell? ⟨w.heap.size, 14, none⟩ = some (.int .u32 (al : Int)) := by rw [hwb]; simp [go_sem]
  have q5 : wb.cell? ⟨w.heap.size, 15, none⟩ = some (.int .u32 (an : Int)) := by rw [hwb]; simp [go_sem]
  have q6 : wb.cell? ⟨w.heap.size, 17, none⟩ = some (.string tkb) := by rw [hwb]; simp [go_sem]
  go_enter Tryd.func7, Tryd.ntmps7
  go_wp2_with fail
  rw [← hwb]
  have HB := hid hB
  clear hwb hB
  go_region_held3 (fun z => z.cell? ⟨w.heap.size, 1, none⟩ = some (.int .u32 (tc : Int)) ∧ z.cell? ⟨w.heap.size, 2, none⟩ = some (.int .u32 (ts : Int)) ∧ z.cell? ⟨w.heap.size, 13, none⟩ = some (.int .u64 (aw : Int)) ∧ z.cell? ⟨w.heap.size, 14, none⟩ = some (.int .u32 (al : Int)) ∧ z.cell? ⟨w.heap.size, 15, none⟩ = some (.int .u32 (an : Int)) ∧ z.cell? ⟨w.heap.size, 17, none⟩ = some (.string tkb) ∧ Below wb.heap.size wb z)
    ((refine keepA q1 q2 q3 q4 q5 q6 ?_; ((repeat (first | with_reducible exact Below.refl _ _ | with_reducible assumption | with_reducible refine Below.drew ?_ | with_reducible refine Below.al ?_ _ | with_reducible refine Below.setCell ?_ (by first | exact Nat.le_refl _ | (simp; omega) | (simp; done)) _ | with_reducible refine Below.on ?_ (by assumption))))))
    (first
      | (go_at_call 19; with_reducible refine (C1.out _).mono ?_; rintro e w1 ⟨rfl, hb1⟩)
      | (go_at_call 19; with_reducible refine (C2.out _).mono ?_; rintro e w2 ⟨rfl, hb2⟩)
      | (go_at_call 20; with_reducible refine (C3.out _).mono ?_; rintro e w3 ⟨rfl, hb3⟩))
  all_goals rw [HR.out]
  all_goals go_wp2_with fail
  all_goals go_ret
  all_goals refine ⟨rfl, Below.on HB.out ?_⟩
  all_goals (repeat (first | with_reducible exact Below.refl _ _ | with_reducible assumption | with_reducible refine Below.drew ?_ | with_reducible refine Below.al ?_ _ | with_reducible refine Below.setCell ?_ (by first | exact Nat.le_refl _ | (simp; omega) | (simp; done)) _ | with_reducible refine Below.on ?_ (by assumption)))

set_option maxHeartbeats 2000000 in
set_option maxRecDepth 100000 in
theorem drep_commit {a : An} (hk : a.Ok) (h0 : a.st = 0) (h1 : a.op.kd = 6) (w : World) (hr : PrRow w a.pa a.pr) :
    Calls Tryd.prog 7 #[.agg a.cells] w fun r w' => r = .returned (.string (ofNats (comL a))) ∧ Below w.heap.size w w' := by
  obtain ⟨cl, tc, ts, ⟨kd, ro, asof, back, tok, key, hi, val, lim⟩, st, aw, al, an, pr, pa, pc, tk⟩ := a
  simp only at h0 h1
  subst h0 h1
  obtain ⟨ktc, kts, _, _, kaw, kal, kan, _, _, k8, kl⟩ := hk
  simp only at ktc kts kaw kal kan k8 kl
  have C3 := hid (fun W => reftext_any (aw : Int) (al : Int) (an : Int) W ⟨⟨by omega, by omega⟩, ⟨by omega, by omega⟩, by omega, by omega⟩)
  rw [txt_nats] at C3
  have C4 := hid (fun W => rw_is k8 (by omega) W)
  have z3 : (ofNats (stampL aw al an)).size ≤ 62 := by rw [ofNats_size]; exact stampL_len kaw kal kan
  have z4 : (ofNats (32 :: wordL tk)).size ≤ 3 * tk.length + 2 := by rw [ofNats_size]; have := (wordL_len tk).2; simp; omega
  obtain ⟨bh, hbh⟩ : ∃ bh : ByteArray, bh = ⟨#[99, 111, 109, 109, 105, 116, 116, 101, 100, 32]⟩ := ⟨_, rfl⟩
  have zd : bh.size = 10 := by rw [hbh]; rfl
  have HR : Hid (bh ++ ofNats (stampL aw al an) ++ ofNats (32 :: wordL tk) = ofNats (comL ⟨cl, tc, ts, ⟨6, ro, asof, back, tok, key, hi, val, lim⟩, 0, aw, al, an, pr, pa, pc, tk⟩)) := hid (by
    rw [hbh, show (⟨#[99, 111, 109, 109, 105, 116, 116, 101, 100, 32]⟩ : ByteArray) = ofNats comHd from rfl]
    simp only [ofNats_append, comL]
    simp)
  have hbh' : (⟨#[99, 111, 109, 109, 105, 116, 116, 101, 100, 32]⟩ : ByteArray) = bh := hbh.symm
  simp only [An.cells]
  clear hbh hr k8
  generalize ofNats (comL ⟨cl, tc, ts, ⟨6, ro, asof, back, tok, key, hi, val, lim⟩, 0, aw, al, an, pr, pa, pc, tk⟩) = res at *
  generalize ofNats (stampL aw al an) = s3 at *
  generalize ofNats (32 :: wordL tk) = s4 at *
  generalize ofNats tk = tkb at *
  have n1 : ¬ 9223372036854775807 < 10 + s3.size := by omega
  have n2 : ¬ 9223372036854775807 < 10 + s3.size + s4.size := by omega
  obtain ⟨wb, hwb⟩ : ∃ wb, wb = w.alloc (.cells #[.int .u32 (cl : Int), .int .u32 (tc : Int), .int .u32 (ts : Int), .int .i64 6, .bool ro, .bool asof, .bool back, .string (ofNats tok), .string (ofNats key), .string (ofNats hi), .string (ofNats val), .int .i64 lim, .int .i64 0, .int .u64 (aw : Int), .int .u32 (al : Int), .int .u32 (an : Int), .slice pa pr.length pc, .string tkb] 34) := ⟨_, rfl⟩
  have hB : Below w.heap.size w wb := by rw [hwb]; (repeat (first | with_reducible exact Below.refl _ _ | with_reducible assumption | with_reducible refine Below.drew ?_ | with_reducible refine Below.al ?_ _ | with_reducible refine Below.setCell ?_ (by first | exact Nat.le_refl _ | (simp; omega) | (simp; done)) _ | with_reducible refine Below.on ?_ (by assumption)))
  have q1 : wb.cell? ⟨w.heap.size, 1, none⟩ = some (.int .u32 (tc : Int)) := by rw [hwb]; simp [go_sem]
  have q2 : wb.cell? ⟨w.heap.size, 2, none⟩ = some (.int .u32 (ts : Int)) := by rw [hwb]; simp [go_sem]
  have q3 : wb.cell? ⟨w.heap.size, 13, none⟩ = some (.int .u64 (aw : Int)) := by rw [hwb]; simp [go_sem]
  have q4 : wb.cell? ⟨w.heap.size, 14, none⟩ = some (.int .u32 (al : Int)) := by rw [hwb]; simp [go_sem]
  have q5 : wb.cell? ⟨w.heap.size, 15, none⟩ = some (.int .u32 (an : Int)) := by rw [hwb]; simp [go_sem]
  have q6 : wb.cell? ⟨w.heap.size, 17, none⟩ = some (.string tkb) := by rw [hwb]; simp [go_sem]
  go_enter Tryd.func7, Tryd.ntmps7
  go_wp2_with fail
  rw [← hwb]
  have HB := hid hB
  clear hwb hB
  go_region_held3 (fun z => z.cell? ⟨w.heap.size, 1, none⟩ = some (.int .u32 (tc : Int)) ∧ z.cell? ⟨w.heap.size, 2, none⟩ = some (.int .u32 (ts : Int)) ∧ z.cell? ⟨w.heap.size, 13, none⟩ = some (.int .u64 (aw : Int)) ∧ z.cell? ⟨w.heap.size, 14, none⟩ = some (.int .u32 (al : Int)) ∧ z.cell? ⟨w.heap.size, 15, none⟩ = some (.int .u32 (an : Int)) ∧ z.cell? ⟨w.heap.size, 17, none⟩ = some (.string tkb) ∧ Below wb.heap.size wb z)
    ((refine keepA q1 q2 q3 q4 q5 q6 ?_; ((repeat (first | with_reducible exact Below.refl _ _ | with_reducible assumption | with_reducible refine Below.drew ?_ | with_reducible refine Below.al ?_ _ | with_reducible refine Below.setCell ?_ (by first | exact Nat.le_refl _ | (simp; omega) | (simp; done)) _ | with_reducible refine Below.on ?_ (by assumption))))))
    (first
      | (go_at_call 21; with_reducible refine (C4.out _).mono ?_; rintro e w4 ⟨rfl, hb4⟩)
      | (go_at_call 20; with_reducible refine (C3.out _).mono ?_; rintro e w3 ⟨rfl, hb3⟩))
  all_goals rw [HR.out]
  all_goals go_wp2_with fail
  all_goals go_ret
  all_goals refine ⟨rfl, Below.on HB.out ?_⟩
  all_goals (repeat (first | with_reducible exact Below.refl _ _ | with_reducible assumption | with_reducible refine Below.drew ?_ | with_reducible refine Below.al ?_ _ | with_reducible refine Below.setCell ?_ (by first | exact Nat.le_refl _ | (simp; omega) | (simp; done)) _ | with_reducible refine Below.on ?_ (by assumption)))

set_option maxHeartbeats 2000000 in
set_option maxRecDepth 100000 in
theorem drep_ok {a : An} (h0 : a.st = 0) (h1 : a.op.kd ≠ 1) (h2 : a.op.kd ≠ 2) (h3 : a.op.kd ≠ 3) (h6 : a.op.kd ≠ 6) (w : World) :
    Calls Tryd.prog 7 #[.agg a.cells] w fun r w' => r = .returned (.string (ofNats okL)) ∧ Below w.heap.size w w' := by
  obtain ⟨cl, tc, ts, ⟨kd, ro, asof, back, tok, key, hi, val, lim⟩, st, aw, al, an, pr, pa, pc, tk⟩ := a
  simp only at h0 h1 h2 h3 h6
  subst h0
  simp only [An.cells]
  go_enter Tryd.func7, Tryd.ntmps7
  go_wp2_with fail
  go_ret
  exact ⟨rfl, Below.al (Below.refl _ _) _⟩

set_option maxHeartbeats 2000000 in
set_option maxRecDepth 100000 in
theorem drep_get {a : An} (hk : a.Ok) (h0 : a.st = 0) (h1 : a.op.kd = 2) (w : World) (hr : PrRow w a.pa a.pr) :
    Calls Tryd.prog 7 #[.agg a.cells] w fun r w' => r = .returned (.string (ofNats (valL a.pr))) ∧ Below w.heap.size w w' := by
  obtain ⟨cl, tc, ts, ⟨kd, ro, asof, back, tok, key, hi, val, lim⟩, st, aw, al, an, pr, pa, pc, tk⟩ := a
  simp only at h0 h1
  subst h0 h1
  obtain ⟨_, _, _, _, _, _, _, kpr, kpn, _, _⟩ := hk
  simp only at kpr kpn hr
  cases pr with
  | nil =>
    simp only [An.cells]
    go_enter Tryd.func7, Tryd.ntmps7
    go_wp2_with fail
    go_ret
    exact ⟨rfl, Below.al (Below.refl _ _) _⟩
  | cons x xs =>
    obtain ⟨b, o, rfl, h1, h2⟩ := hr 0 (by simp)
    obtain ⟨k, v⟩ := x
    have h8 := kpr.1 (k, v) (by simp)
    have hz0 := szP_mem (xs := (k, v) :: xs) (x := (k, v)) (by simp)
    have hz1 := kpr.2
    simp only [] at h8 hz0
    have C := hid (fun W => rw_is h8.2 (by omega) W)
    have hz : (ofNats (32 :: wordL v)).size ≤ 3 * v.length + 2 := by rw [ofNats_size]; have := (wordL_len v).2; simp; omega
    have HR : Hid ((⟨#[118, 97, 108, 117, 101]⟩ : ByteArray) ++ ofNats (32 :: wordL v) = ofNats (valL ((k, v) :: xs))) := hid (by
      rw [show (⟨#[118, 97, 108, 117, 101]⟩ : ByteArray) = ofNats valHd from rfl, ofNats_append]
      rfl)
    have h2' : w.cell? ⟨b, o + 1, none⟩ = some (.string (ofNats v)) := by simpa using h2
    obtain ⟨vh, hvh⟩ : ∃ vh : ByteArray, vh = ⟨#[118, 97, 108, 117, 101]⟩ := ⟨_, rfl⟩
    have zd : vh.size = 5 := by rw [hvh]; rfl
    rw [← hvh] at HR
    have hvh' : (⟨#[118, 97, 108, 117, 101]⟩ : ByteArray) = vh := hvh.symm
    simp only [An.cells, List.length_cons]
    obtain ⟨wb, hwb⟩ : ∃ wb, wb = w.alloc (.cells #[.int .u32 (cl : Int), .int .u32 (tc : Int), .int .u32 (ts : Int), .int .i64 2, .bool ro, .bool asof, .bool back, .string (ofNats tok), .string (ofNats key), .string (ofNats hi), .string (ofNats val), .int .i64 lim, .int .i64 0, .int .u64 (aw : Int), .int .u32 (al : Int), .int .u32 (an : Int), .slice (some ⟨b, o, none⟩) (xs.length + 1) pc, .string (ofNats tk)] 34) := ⟨_, rfl⟩
    have hB : Below w.heap.size w wb := by rw [hwb]; (repeat (first | with_reducible exact Below.refl _ _ | with_reducible assumption | with_reducible refine Below.drew ?_ | with_reducible refine Below.al ?_ _ | with_reducible refine Below.setCell ?_ (by first | exact Nat.le_refl _ | (simp; omega) | (simp; done)) _ | with_reducible refine Below.on ?_ (by assumption)))
    have h3 : wb.cell? ⟨b, o + 1, none⟩ = some (.string (ofNats v)) := cell_on hB h2'
    have q5 : wb.cell? ⟨w.heap.size, 16, none⟩ = some (.slice (some ⟨b, o, none⟩) (xs.length + 1) pc) := by rw [hwb]; simp [go_sem]
    have q3 : wb.cell? ⟨w.heap.size, 3, none⟩ = some (.int .i64 2) := by rw [hwb]; simp [go_sem]
    have q12 : wb.cell? ⟨w.heap.size, 12, none⟩ = some (.int .i64 0) := by rw [hwb]; simp [go_sem]
    have HB := hid hB
    clear hvh h2 h1 h2' hB
    generalize ofNats (32 :: wordL v) = s1 at *
    have n1 : ¬ 9223372036854775807 < 5 + s1.size := by omega
    clear hr kpr h8
    go_enter Tryd.func7, Tryd.ntmps7
    go_upto_region 1 with fail
    rw [← hwb]
    clear hwb
    go_wp2_with fail
    refine (C.out _).mono ?_
    rintro e w1 ⟨rfl, hb⟩
    have HB2 := hid hb
    clear hb
    go_wp2_with fail
    rw [HR.out]
    go_ret
    exact ⟨rfl, Below.on HB.out HB2.out⟩
end Go.Proofs.YtggmhodogfngdaaDoor.Gt
