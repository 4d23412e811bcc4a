import Derived.Test.YtggmhodogfngdaaDoorGtRep
/- The program's reply to an answer: the other kinds. -/
namespace Go.Proofs.YtggmhodogfngdaaDoor.Gt
open Go.Proofs.YtggmhodogfngdaaDoor Go.Proofs.YtggmhodogfngdaaDoor.Rt Go.RowKit Go.Sort
set_option linter.unusedVariables false

set_option maxHeartbeats 2000000 in
set_option maxRecDepth 100000 in
theorem prep_get {a : An} (hk : a.Ok) (h0 : a.st = 0) (h1 : a.op.kd = 2) (w : World) (ht : PowTab w) (hr : PrRow w a.pa a.pr) :
    Calls Tryd.prog 6 #[.agg a.cells] w fun r w' => r = .returned (.string (ofNats (valL a.pr))) ∧ Below w.heap.size w w' := by
  obtain ⟨cl, tc, ts, ⟨kd, ro, asof, back, tok, key, hi, val, lim⟩, st, aw, al, an, pr, pa, pc, tk⟩ := a
  simp only at h0 h1
  subst h0 h1
  have C := hid (fun W (hW : Below w.heap.size w W) => value_is hk.pr W (hr.later hW) (cap := pc))
  simp only [An.cells] at C ⊢
  clear hk ht
  have hRow := hid hr
  clear hr
  go_enter Tryd.func6, Tryd.ntmps6
  go_wp2_with fail
  refine (C.out _ (by (repeat (first | with_reducible exact Below.refl _ _ | with_reducible assumption | with_reducible refine Below.drew ?_ | with_reducible refine Below.al ?_ _ | with_reducible refine Below.setCell ?_ (by first | exact Nat.le_refl _ | (simp; omega) | (simp; done)) _ | with_reducible refine Below.on ?_ (by assumption))))).mono ?_
  rintro e w1 ⟨rfl, hb⟩
  have HB := hid (Below.on (Below.al (Below.refl w.heap.size w) _) hb)
  clear hb
  go_wp2_with fail
  go_ret
  exact ⟨rfl, HB.out⟩

set_option maxHeartbeats 2000000 in
set_option maxRecDepth 100000 in
theorem prep_scan {a : An} (hk : a.Ok) (h0 : a.st = 0) (h1 : a.op.kd = 3) (w : World) (ht : PowTab w) (hr : PrRow w a.pa a.pr) :
    Calls Tryd.prog 6 #[.agg a.cells] w fun r w' => r = .returned (.string (ofNats (prL a.pr))) ∧ Below w.heap.size w w' := by
  obtain ⟨cl, tc, ts, ⟨kd, ro, asof, back, tok, key, hi, val, lim⟩, st, aw, al, an, pr, pa, pc, tk⟩ := a
  simp only at h0 h1
  subst h0 h1
  have C := hid (fun W (hW : Below w.heap.size w W) => pairs_is hk.pr hk.prn W (ht.later hW) (hr.later hW) (cap := pc))
  simp only [An.cells] at C ⊢
  clear hk ht
  have hRow := hid hr
  clear hr
  go_enter Tryd.func6, Tryd.ntmps6
  go_wp2_with fail
  refine (C.out _ (by (repeat (first | with_reducible exact Below.refl _ _ | with_reducible assumption | with_reducible refine Below.drew ?_ | with_reducible refine Below.al ?_ _ | with_reducible refine Below.setCell ?_ (by first | exact Nat.le_refl _ | (simp; omega) | (simp; done)) _ | with_reducible refine Below.on ?_ (by assumption))))).mono ?_
  rintro e w1 ⟨rfl, hb⟩
  have HB := hid (Below.on (Below.al (Below.refl w.heap.size w) _) hb)
  clear hb
  go_wp2_with fail
  go_ret
  exact ⟨rfl, HB.out⟩

set_option maxHeartbeats 2000000 in
set_option maxRecDepth 100000 in
theorem prep_commit {a : An} (hk : a.Ok) (h0 : a.st = 0) (h1 : a.op.kd = 6) (w : World) (ht : PowTab w) (hr : PrRow w a.pa a.pr) :
    Calls Tryd.prog 6 #[.agg a.cells] w fun r w' => r = .returned (.string (ofNats (comL a))) ∧ Below w.heap.size w w' := by
  obtain ⟨cl, tc, ts, ⟨kd, ro, asof, back, tok, key, hi, val, lim⟩, st, aw, al, an, pr, pa, pc, tk⟩ := a
  simp only at h0 h1
  subst h0 h1
  obtain ⟨ktc, kts, _, _, kaw, kal, kan, _, _, k8, kl⟩ := hk
  simp only at ktc kts kaw kal kan k8 kl
  have C3 := hid (fun W (hW : Below w.heap.size w W) => text_any (aw : Int) (al : Int) (an : Int) W ⟨⟨by omega, by omega⟩, ⟨by omega, by omega⟩, by omega, by omega⟩ (ht.later hW))
  rw [txt_nats] at C3
  have C4 := hid (fun W => word_is k8 (by omega) W)
  have z3 : (ofNats (stampL aw al an)).size ≤ 62 := by rw [ofNats_size]; exact stampL_len kaw kal kan
  have z4 : (ofNats (wordL tk)).size ≤ 3 * tk.length + 1 := by rw [ofNats_size]; exact (wordL_len tk).2
  obtain ⟨bh, hbh⟩ : ∃ bh : ByteArray, bh = ⟨#[99, 111, 109, 109, 105, 116, 116, 101, 100, 32]⟩ := ⟨_, rfl⟩
  have zd : bh.size = 10 := by rw [hbh]; rfl
  have HR : Hid (bh ++ ofNats (stampL aw al an) ++ sp ++ ofNats (wordL tk) = ofNats (comL ⟨cl, tc, ts, ⟨6, ro, asof, back, tok, key, hi, val, lim⟩, 0, aw, al, an, pr, pa, pc, tk⟩)) := hid (by
    rw [hbh, show (⟨#[99, 111, 109, 109, 105, 116, 116, 101, 100, 32]⟩ : ByteArray) = ofNats comHd from rfl, show sp = ofNats [32] from rfl]
    simp only [ofNats_append, comL]
    simp)
  have hbh' : (⟨#[99, 111, 109, 109, 105, 116, 116, 101, 100, 32]⟩ : ByteArray) = bh := hbh.symm
  simp only [An.cells]
  clear hbh ht hr k8
  generalize ofNats (comL ⟨cl, tc, ts, ⟨6, ro, asof, back, tok, key, hi, val, lim⟩, 0, aw, al, an, pr, pa, pc, tk⟩) = res at *
  generalize ofNats (stampL aw al an) = s3 at *
  generalize ofNats (wordL tk) = s4 at *
  generalize ofNats tk = tkb at *
  have zs : sp.size = 1 := rfl
  have hsp : (⟨#[32]⟩ : ByteArray) = sp := rfl
  have n1 : ¬ 9223372036854775807 < 10 + s3.size := by omega
  have n2 : ¬ 9223372036854775807 < 10 + s3.size + 1 := by omega
  have n3 : ¬ 9223372036854775807 < 10 + s3.size + 1 + s4.size := by omega
  obtain ⟨wb, hwb⟩ : ∃ wb, wb = w.alloc (.cells #[.int .u32 (cl : Int), .int .u32 (tc : Int), .int .u32 (ts : Int), .int .i64 6, .bool ro, .bool asof, .bool back, .string (ofNats tok), .string (ofNats key), .string (ofNats hi), .string (ofNats val), .int .i64 lim, .int .i64 0, .int .u64 (aw : Int), .int .u32 (al : Int), .int .u32 (an : Int), .slice pa pr.length pc, .string tkb] 34) := ⟨_, rfl⟩
  have hB : Below w.heap.size w wb := by rw [hwb]; (repeat (first | with_reducible exact Below.refl _ _ | with_reducible assumption | with_reducible refine Below.drew ?_ | with_reducible refine Below.al ?_ _ | with_reducible refine Below.setCell ?_ (by first | exact Nat.le_refl _ | (simp; omega) | (simp; done)) _ | with_reducible refine Below.on ?_ (by assumption)))
  have q1 : wb.cell? ⟨w.heap.size, 1, none⟩ = some (.int .u32 (tc : Int)) := by rw [hwb]; simp [go_sem]
  have q2 : wb.cell? ⟨w.heap.size, 2, none⟩ = some (.int .u32 (ts : Int)) := by rw [hwb]; simp [go_sem]
  have q3 : wb.cell? ⟨w.heap.size, 13, none⟩ = some (.int .u64 (aw : Int)) := by rw [hwb]; simp [go_sem]
  have q4 : wb.cell? ⟨w.heap.size, 14, none⟩ = some (.int .u32 (al : Int)) := by rw [hwb]; simp [go_sem]
  have q5 : wb.cell? ⟨w.heap.size, 15, none⟩ = some (.int .u32 (an : Int)) := by rw [hwb]; simp [go_sem]
  have q6 : wb.cell? ⟨w.heap.size, 17, none⟩ = some (.string tkb) := by rw [hwb]; simp [go_sem]
  have D3 : Hid (∀ W, Below wb.heap.size wb W → Calls Tryd.prog 14 #[.agg #[.int .u64 (aw : Int), .int .u32 (al : Int), .int .u32 (an : Int)]] W fun r w' => r = .returned (.string s3) ∧ Below W.heap.size W w') := hid (fun W hW => C3.out W (Below.on hB hW))
  clear C3
  go_enter Tryd.func6, Tryd.ntmps6
  go_wp2_with fail
  rw [← hwb]
  have HB := hid hB
  clear hwb hB
  go_region_held3 (fun z => z.cell? ⟨w.heap.size, 1, none⟩ = some (.int .u32 (tc : Int)) ∧ z.cell? ⟨w.heap.size, 2, none⟩ = some (.int .u32 (ts : Int)) ∧ z.cell? ⟨w.heap.size, 13, none⟩ = some (.int .u64 (aw : Int)) ∧ z.cell? ⟨w.heap.size, 14, none⟩ = some (.int .u32 (al : Int)) ∧ z.cell? ⟨w.heap.size, 15, none⟩ = some (.int .u32 (an : Int)) ∧ z.cell? ⟨w.heap.size, 17, none⟩ = some (.string tkb) ∧ Below wb.heap.size wb z)
    ((refine keepA q1 q2 q3 q4 q5 q6 ?_; ((repeat (first | with_reducible exact Below.refl _ _ | with_reducible assumption | with_reducible refine Below.drew ?_ | with_reducible refine Below.al ?_ _ | with_reducible refine Below.setCell ?_ (by first | exact Nat.le_refl _ | (simp; omega) | (simp; done)) _ | with_reducible refine Below.on ?_ (by assumption))))))
    (first
      | (go_at_call 17; with_reducible refine (C4.out _).mono ?_; rintro e w4 ⟨rfl, hb4⟩)
      | (go_at_call 14; with_reducible refine (D3.out _ ?_).mono ?_; ((repeat (first | with_reducible exact Below.refl _ _ | with_reducible assumption | with_reducible refine Below.drew ?_ | with_reducible refine Below.al ?_ _ | with_reducible refine Below.setCell ?_ (by first | exact Nat.le_refl _ | (simp; omega) | (simp; done)) _ | with_reducible refine Below.on ?_ (by assumption)))); rintro e w3 ⟨rfl, hb3⟩))
  all_goals rw [HR.out]
  all_goals go_wp2_with fail
  all_goals go_ret
  all_goals refine ⟨rfl, Below.on HB.out ?_⟩
  all_goals (repeat (first | with_reducible exact Below.refl _ _ | with_reducible assumption | with_reducible refine Below.drew ?_ | with_reducible refine Below.al ?_ _ | with_reducible refine Below.setCell ?_ (by first | exact Nat.le_refl _ | (simp; omega) | (simp; done)) _ | with_reducible refine Below.on ?_ (by assumption)))

set_option maxHeartbeats 2000000 in
set_option maxRecDepth 100000 in
theorem prep_ok {a : An} (h0 : a.st = 0) (h1 : a.op.kd ≠ 1) (h2 : a.op.kd ≠ 2) (h3 : a.op.kd ≠ 3) (h6 : a.op.kd ≠ 6) (w : World) :
    Calls Tryd.prog 6 #[.agg a.cells] w fun r w' => r = .returned (.string (ofNats okL)) ∧ Below w.heap.size w w' := by
  obtain ⟨cl, tc, ts, ⟨kd, ro, asof, back, tok, key, hi, val, lim⟩, st, aw, al, an, pr, pa, pc, tk⟩ := a
  simp only at h0 h1 h2 h3 h6
  subst h0
  simp only [An.cells]
  go_enter Tryd.func6, Tryd.ntmps6
  go_wp2_with fail
  go_ret
  exact ⟨rfl, Below.al (Below.refl _ _) _⟩

/-- the program's reply -/
theorem prep_is {a : An} (hk : a.Ok) (w : World) (ht : PowTab w) (hn : NmTab w) (hs : 0 < w.heap.size) (hr : PrRow w a.pa a.pr) :
    Calls Tryd.prog 6 #[.agg a.cells] w fun r w' => r = .returned (.string (ofNats (repL a))) ∧ Below w.heap.size w w' := by
  unfold repL
  by_cases h0 : a.st = 0
  · rw [if_neg (by simp [h0])]
    by_cases h1 : a.op.kd = 1
    · rw [if_pos h1]; exact prep_begin hk h0 h1 w ht hr
    rw [if_neg h1]
    by_cases h2 : a.op.kd = 2
    · rw [if_pos h2]; exact prep_get hk h0 h2 w ht hr
    rw [if_neg h2]
    by_cases h3 : a.op.kd = 3
    · rw [if_pos h3]; exact prep_scan hk h0 h3 w ht hr
    rw [if_neg h3]
    by_cases h6 : a.op.kd = 6
    · rw [if_pos h6]; exact prep_commit hk h0 h6 w ht hr
    rw [if_neg h6]
    exact prep_ok h0 h1 h2 h3 h6 w
  · rw [if_pos (by simp [h0])]; exact prep_err hk h0 w ht hn hs
end Go.Proofs.YtggmhodogfngdaaDoor.Gt
