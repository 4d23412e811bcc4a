import Derived.Test.YtofpaldolcnmiaaGreatB18
set_option linter.unusedVariables false
set_option maxHeartbeats 4000000
namespace Go.Proofs.YtofpaldolcnmiaaGreat
namespace Lg
open Go.RowKit Go.Sort Lk
theorem box_cells {w : World} {q : Nat} {f : En} (h : w.heap[q]? = some (.cells #[.int .u32 f.id.1, .int .u32 f.id.2, .int .u32 f.home, .int .i64 f.oc, .int .u64 f.w, .int .u32 f.l, .int .u32 f.n] 104)) : ∀ o u, (ecs f)[o]? = some u → w.cell? ⟨q, o, none⟩ = some u := fun o u ho => cob h (by simpa using ho)
theorem LgO.look {w : World} {p oo : Nat} {ty : TypeId} {m : Option Nat} {M : List En} (T : LgO w p oo ty m M) (t : Ix) : ∃ (f : En) (ok : Bool), (ok = (outM M t).isSome) ∧ f = (outM M t).getD En.zero ∧ ∀ W, (∀ b, m = some b → W.heap[b]? = w.heap[b]?) → (Instr.lookup 84 (.map m) (.agg #[.int .u32 t.1, .int .u32 t.2]) true).run Tryz.prog W = .ok (.tuple #[.agg #[.int .u32 f.id.1, .int .u32 f.id.2, .int .u32 f.home, .int .i64 f.oc, .int .u64 f.w, .int .u32 f.l, .int .u32 f.n], .bool ok]) W := by
 obtain ⟨f, ok, h1, h2, h3⟩ := T.ents.lookT (P := Tryz.prog) ids Tryz.underlying84 zero_en t; have hnd := T.nodup; refine ⟨f, ok, ?_, ?_, h3⟩
 ·cases ok with
  | true =>
   obtain ⟨k1, k2⟩ := prsE_mem (h1 rfl); rw [← k2, outM_mem hnd k1]; rfl
  | false =>
   have := (h2 rfl).1; rw [prsE_keys] at this; rw [outM_none.2 this]; rfl
 ·cases ok with
  | true =>
   obtain ⟨k1, k2⟩ := prsE_mem (h1 rfl); rw [← k2, outM_mem hnd k1]; rfl
  | false =>
   have := (h2 rfl).1; rw [prsE_keys] at this; rw [outM_none.2 this, (h2 rfl).2]; rfl
theorem outcome_is {w : World} {p oo : Nat} {ty : TypeId} {m : Option Nat} {M : List En} (T : LgO w p oo ty m M) (t : Ix) :
  Calls Tryz.prog 135 #[.pointer (some ⟨p, oo, none⟩), .agg #[.int .u32 t.1, .int .u32 t.2]] w fun r w' => ∃ (f : En) (ok : Bool), r = .returned (.tuple #[.agg #[.int .u32 f.id.1, .int .u32 f.id.2, .int .u32 f.home, .int .i64 f.oc, .int .u64 f.w, .int .u32 f.l, .int .u32 f.n], .bool ok]) ∧
   Hid (ok = (outM M t).isSome) ∧ Hid (f = (outM M t).getD En.zero) ∧ Hid (Below w.heap.size w w') := by
 obtain ⟨wx, hwx⟩ : ∃ wx, wx = (w.alloc (.cells #[.int .u32 t.1, .int .u32 t.2] 33)).alloc (.cells #[.int .u32 0, .int .u32 0, .int .u32 0, .int .i64 0, .int .u64 0, .int .u32 0, .int .u32 0] 104) := ⟨_, rfl⟩; have hbx : Below w.heap.size w wx := by rw [hwx]; exact Below.al (Below.al (Below.refl _ _) _) _
 have T0 := T.later hbx; have c0 := T0.c0; have x0 : wx.cell? ⟨w.heap.size, 0, none⟩ = some (.int .u32 t.1) := by rw [hwx]; simp [go_sem]
 have x1 : wx.cell? ⟨w.heap.size, 1, none⟩ = some (.int .u32 t.2) := by rw [hwx]; simp [go_sem]
 have hz : wx.heap[w.heap.size + 1]? = some (.cells #[.int .u32 0, .int .u32 0, .int .u32 0, .int .i64 0, .int .u64 0, .int .u32 0, .int .u32 0] 104) := by
  rw [hwx, show w.heap.size + 1 = (w.alloc (.cells #[.int .u32 t.1, .int .u32 t.2] 33)).heap.size by simp]; exact (MapKept.heap_alloc _ _).1
 obtain ⟨f, ok, h1, h2, hlook⟩ := T0.look t; have H1 := hid h1; have H2 := hid h2; have HT0 := hid T0; have HBX := hid hbx; have HZ := hid hz; have HLK := hid hlook; have hsx : w.heap.size + 1 < wx.heap.size := by rw [hwx]; simp
 clear h1 h2 T T0 hbx hz hlook; go_enter Tryz.func135, Tryz.ntmps135
 go_wp2_with fail
 rw [← hwx]; clear hwx; go_cut [6, 7] (fun s6 s7 wz => ∃ q : Nat, s6 = .pointer (some ⟨q, 0, none⟩) ∧ s7 = .bool ok ∧ Hid (∀ o u, (ecs f)[o]? = some u → wz.cell? ⟨q, o, none⟩ = some u) ∧ Hid (Below wx.heap.size wx wz))
 case first =>
  go_region_held3 (fun w' => w'.cell? ⟨p, oo, none⟩ = some (.map m) ∧ w'.cell? ⟨w.heap.size, 0, none⟩ = some (.int .u32 t.1) ∧ w'.cell? ⟨w.heap.size, 1, none⟩ = some (.int .u32 t.2) ∧ (Instr.lookup 84 (.map m) (.agg #[.int .u32 t.1, .int .u32 t.2]) true).run Tryz.prog w' = .ok (.tuple #[.agg #[.int .u32 f.id.1, .int .u32 f.id.2, .int .u32 f.home, .int .i64 f.oc, .int .u64 f.w, .int .u32 f.l, .int .u32 f.n], .bool ok]) w' ∧ Below wx.heap.size wx w')
   ((refine (fun (hB : Below wx.heap.size wx _) => ⟨cell_later hB c0, cell_later hB x0, cell_later hB x1, HLK.out _ (fun b k => hB.block b (HT0.out.ents.lt b k)), hB⟩) ?_; (repeat (first | exact Below.refl _ _ | assumption | refine Below.drew ?_ | refine Below.al ?_ _ | refine Below.setCell ?_ (by first | exact Nat.le_refl _ | simp <;> omega) _ | refine Below.on ?_ (by assumption)))))
   (fail)
  all_goals (try go_wp2_with fail)
  all_goals go_meet
  all_goals refine ⟨_, rfl, rfl, hid ?_, hid ?_⟩
  all_goals first
   | (refine box_cells (q := _) ?_
      first
      | exact (MapKept.heap_alloc _ _).1
      | (simp [World.drew, World.alloc]; done))
   | ((repeat (first | exact Below.refl _ _ | assumption | refine Below.drew ?_ | refine Below.al ?_ _ | refine Below.setCell ?_ (by first | exact Nat.le_refl _ | simp <;> omega) _ | refine Below.on ?_ (by assumption))))
 case rest =>
  obtain ⟨q, rfl, rfl, HQ, HC⟩ := hcut; rename World => wz
  have q0 : wz.cell? ⟨q, 0, none⟩ = some (.int .u32 f.id.1) := HQ.out 0 _ rfl; have q1 : wz.cell? ⟨q, 1, none⟩ = some (.int .u32 f.id.2) := HQ.out 1 _ rfl; have q2 : wz.cell? ⟨q, 2, none⟩ = some (.int .u32 f.home) := HQ.out 2 _ rfl; have q3 : wz.cell? ⟨q, 3, none⟩ = some (.int .i64 f.oc) := HQ.out 3 _ rfl; have q4 : wz.cell? ⟨q, 4, none⟩ = some (.int .u64 f.w) := HQ.out 4 _ rfl; have q5 : wz.cell? ⟨q, 5, none⟩ = some (.int .u32 f.l) := HQ.out 5 _ rfl; have q6 : wz.cell? ⟨q, 6, none⟩ = some (.int .u32 f.n) := HQ.out 6 _ rfl; have hz3 := (HC.out.block _ hsx).trans HZ.out; have f3 : ∀ o, wz.frozen? ⟨w.heap.size + 1, o, none⟩ = false := fun o => by simp [World.frozen?, hz3]
  have r0 : wz.cell? ⟨w.heap.size + 1, 0, none⟩ = some (.int .u32 0) := cob hz3 rfl; have r1 : wz.cell? ⟨w.heap.size + 1, 1, none⟩ = some (.int .u32 0) := cob hz3 rfl; have r2 : wz.cell? ⟨w.heap.size + 1, 2, none⟩ = some (.int .u32 0) := cob hz3 rfl; have r3 : wz.cell? ⟨w.heap.size + 1, 3, none⟩ = some (.int .i64 0) := cob hz3 rfl; have r4 : wz.cell? ⟨w.heap.size + 1, 4, none⟩ = some (.int .u64 0) := cob hz3 rfl; have r5 : wz.cell? ⟨w.heap.size + 1, 5, none⟩ = some (.int .u32 0) := cob hz3 rfl; have r6 : wz.cell? ⟨w.heap.size + 1, 6, none⟩ = some (.int .u32 0) := cob hz3 rfl; have HH := hid hz3; have HB3 : Hid (Below w.heap.size w wz) := Below.on HBX.out HC.out; clear hz3 HZ HQ; go_wp2_with fail
  obtain ⟨w8, hw8⟩ : ∃ w8, w8 = (((((((wz).setCell ⟨w.heap.size + 1, 0, none⟩ (.int .u32 f.id.1)).setCell ⟨w.heap.size + 1, 1, none⟩ (.int .u32 f.id.2)).setCell ⟨w.heap.size + 1, 2, none⟩ (.int .u32 f.home)).setCell ⟨w.heap.size + 1, 3, none⟩ (.int .i64 f.oc)).setCell ⟨w.heap.size + 1, 4, none⟩ (.int .u64 f.w)).setCell ⟨w.heap.size + 1, 5, none⟩ (.int .u32 f.l)).setCell ⟨w.heap.size + 1, 6, none⟩ (.int .u32 f.n) := ⟨_, rfl⟩; obtain ⟨hk8, ho8, hs8⟩ := stored (z := En.zero) HH.out hw8; rw [← hw8]; clear hw8; have t0 : w8.cell? ⟨w.heap.size + 1, 0, none⟩ = some (.int .u32 f.id.1) := cob hk8 rfl; have t1 : w8.cell? ⟨w.heap.size + 1, 1, none⟩ = some (.int .u32 f.id.2) := cob hk8 rfl; have t2 : w8.cell? ⟨w.heap.size + 1, 2, none⟩ = some (.int .u32 f.home) := cob hk8 rfl; have t3 : w8.cell? ⟨w.heap.size + 1, 3, none⟩ = some (.int .i64 f.oc) := cob hk8 rfl
  have t4 : w8.cell? ⟨w.heap.size + 1, 4, none⟩ = some (.int .u64 f.w) := cob hk8 rfl; have t5 : w8.cell? ⟨w.heap.size + 1, 5, none⟩ = some (.int .u32 f.l) := cob hk8 rfl; have t6 : w8.cell? ⟨w.heap.size + 1, 6, none⟩ = some (.int .u32 f.n) := cob hk8 rfl; have hb8 : Below w.heap.size w w8 := HB3.out.trans (ho8.below (B := w.heap.size) (fun k hk => by omega) HB3.out.size); refine bodyPost_ret (v := .tuple #[.agg #[.int .u32 f.id.1, .int .u32 f.id.2, .int .u32 f.home, .int .i64 f.oc, .int .u64 f.w, .int .u32 f.l, .int .u32 f.n], .bool ok]) (by simp [results, Tryz.results135, go_sem, t0, t1, t2, t3, t4, t5, t6]) rfl ⟨f, ok, rfl, H1, H2, hb8⟩
theorem ItsL.keep {w w' : World} {p oo b : Nat} {ty : TypeId} {m : Option Nat} {M : List En} (T : LgO w p oo ty m M) (hb : w.heap.size ≤ b) : ¬ ItsL p m b := fun k => by
 have := T.its_lt k; omega
theorem decideO_is {w : World} {p oo : Nat} {ty : TypeId} {m : Option Nat} {M : List En} (T : LgO w p oo ty m M) (e : En) :
  Calls Tryz.prog 191 #[.pointer (some ⟨p, oo, none⟩), .agg #[.int .u32 e.id.1, .int .u32 e.id.2, .int .u32 e.home, .int .i64 e.oc, .int .u64 e.w, .int .u32 e.l, .int .u32 e.n]] w fun r w' => ∃ (m' : Option Nat) (f : En) (x : Int), r = .returned (.tuple #[.agg #[.int .u32 f.id.1, .int .u32 f.id.2, .int .u32 f.home, .int .i64 f.oc, .int .u64 f.w, .int .u32 f.l, .int .u32 f.n], .int .i64 x]) ∧
   Hid (f = decE M e) ∧ Hid (x = decX M e) ∧ Hid (LgO w' p oo ty m' (decM M e)) ∧ Hid (m' = m ∨ ∃ b, m' = some b ∧ w.heap.size ≤ b) ∧ Hid (Onl (ItsL p m) w w') ∧ Hid (Part p oo 1 w w') := by
 obtain ⟨wx, hwx⟩ : ∃ wx, wx = (w.alloc (.cells #[.int .u32 e.id.1, .int .u32 e.id.2, .int .u32 e.home, .int .i64 e.oc, .int .u64 e.w, .int .u32 e.l, .int .u32 e.n] 104)).alloc (.cells #[.int .u32 0, .int .u32 0, .int .u32 0, .int .i64 0, .int .u64 0, .int .u32 0, .int .u32 0] 104) := ⟨_, rfl⟩; have hbx : Below w.heap.size w wx := by rw [hwx]; exact Below.al (Below.al (Below.refl _ _) _) _
 have T0 := T.later hbx; have c0 := T0.c0; have hblk : wx.heap[w.heap.size]? = some (.cells #[.int .u32 e.id.1, .int .u32 e.id.2, .int .u32 e.home, .int .i64 e.oc, .int .u64 e.w, .int .u32 e.l, .int .u32 e.n] 104) := by
  rw [hwx, (MapKept.heap_alloc _ _).2 _ (by simp)]; exact (MapKept.heap_alloc _ _).1
 have hz : wx.heap[w.heap.size + 1]? = some (.cells #[.int .u32 0, .int .u32 0, .int .u32 0, .int .i64 0, .int .u64 0, .int .u32 0, .int .u32 0] 104) := by
  rw [hwx, show w.heap.size + 1 = (w.alloc (.cells #[.int .u32 e.id.1, .int .u32 e.id.2, .int .u32 e.home, .int .i64 e.oc, .int .u64 e.w, .int .u32 e.l, .int .u32 e.n] 104)).heap.size by simp]; exact (MapKept.heap_alloc _ _).1
 have x0 : ((w.alloc (.cells #[.int .u32 e.id.1, .int .u32 e.id.2, .int .u32 e.home, .int .i64 e.oc, .int .u64 e.w, .int .u32 e.l, .int .u32 e.n] 104)).alloc (.cells #[.int .u32 0, .int .u32 0, .int .u32 0, .int .i64 0, .int .u64 0, .int .u32 0, .int .u32 0] 104)).cell? ⟨w.heap.size, 0, none⟩ = some (.int .u32 e.id.1) := by rw [← hwx]; exact cob hblk rfl
 have x1 : ((w.alloc (.cells #[.int .u32 e.id.1, .int .u32 e.id.2, .int .u32 e.home, .int .i64 e.oc, .int .u64 e.w, .int .u32 e.l, .int .u32 e.n] 104)).alloc (.cells #[.int .u32 0, .int .u32 0, .int .u32 0, .int .i64 0, .int .u64 0, .int .u32 0, .int .u32 0] 104)).cell? ⟨w.heap.size, 1, none⟩ = some (.int .u32 e.id.2) := by rw [← hwx]; exact cob hblk rfl
 have x2 : ((w.alloc (.cells #[.int .u32 e.id.1, .int .u32 e.id.2, .int .u32 e.home, .int .i64 e.oc, .int .u64 e.w, .int .u32 e.l, .int .u32 e.n] 104)).alloc (.cells #[.int .u32 0, .int .u32 0, .int .u32 0, .int .i64 0, .int .u64 0, .int .u32 0, .int .u32 0] 104)).cell? ⟨w.heap.size, 2, none⟩ = some (.int .u32 e.home) := by rw [← hwx]; exact cob hblk rfl
 have x3 : ((w.alloc (.cells #[.int .u32 e.id.1, .int .u32 e.id.2, .int .u32 e.home, .int .i64 e.oc, .int .u64 e.w, .int .u32 e.l, .int .u32 e.n] 104)).alloc (.cells #[.int .u32 0, .int .u32 0, .int .u32 0, .int .i64 0, .int .u64 0, .int .u32 0, .int .u32 0] 104)).cell? ⟨w.heap.size, 3, none⟩ = some (.int .i64 e.oc) := by rw [← hwx]; exact cob hblk rfl
 have x4 : ((w.alloc (.cells #[.int .u32 e.id.1, .int .u32 e.id.2, .int .u32 e.home, .int .i64 e.oc, .int .u64 e.w, .int .u32 e.l, .int .u32 e.n] 104)).alloc (.cells #[.int .u32 0, .int .u32 0, .int .u32 0, .int .i64 0, .int .u64 0, .int .u32 0, .int .u32 0] 104)).cell? ⟨w.heap.size, 4, none⟩ = some (.int .u64 e.w) := by rw [← hwx]; exact cob hblk rfl
 have x5 : ((w.alloc (.cells #[.int .u32 e.id.1, .int .u32 e.id.2, .int .u32 e.home, .int .i64 e.oc, .int .u64 e.w, .int .u32 e.l, .int .u32 e.n] 104)).alloc (.cells #[.int .u32 0, .int .u32 0, .int .u32 0, .int .i64 0, .int .u64 0, .int .u32 0, .int .u32 0] 104)).cell? ⟨w.heap.size, 5, none⟩ = some (.int .u32 e.l) := by rw [← hwx]; exact cob hblk rfl
 have x6 : ((w.alloc (.cells #[.int .u32 e.id.1, .int .u32 e.id.2, .int .u32 e.home, .int .i64 e.oc, .int .u64 e.w, .int .u32 e.l, .int .u32 e.n] 104)).alloc (.cells #[.int .u32 0, .int .u32 0, .int .u32 0, .int .i64 0, .int .u64 0, .int .u32 0, .int .u32 0] 104)).cell? ⟨w.heap.size, 6, none⟩ = some (.int .u32 e.n) := by rw [← hwx]; exact cob hblk rfl
 have y0 : wx.cell? ⟨w.heap.size, 0, none⟩ = some (.int .u32 e.id.1) := cob hblk rfl; have y1 : wx.cell? ⟨w.heap.size, 1, none⟩ = some (.int .u32 e.id.2) := cob hblk rfl; have y2 : wx.cell? ⟨w.heap.size, 2, none⟩ = some (.int .u32 e.home) := cob hblk rfl; have y3 : wx.cell? ⟨w.heap.size, 3, none⟩ = some (.int .i64 e.oc) := cob hblk rfl; have y4 : wx.cell? ⟨w.heap.size, 4, none⟩ = some (.int .u64 e.w) := cob hblk rfl; have y5 : wx.cell? ⟨w.heap.size, 5, none⟩ = some (.int .u32 e.l) := cob hblk rfl; have y6 : wx.cell? ⟨w.heap.size, 6, none⟩ = some (.int .u32 e.n) := cob hblk rfl; obtain ⟨u, hu⟩ : ∃ u, mayB e = u := ⟨_, rfl⟩; have MAY := hid (fun W => may_is hu W); have HU := hid hu; have HT := hid T; have HT0 := hid T0; have HBX := hid hbx; have HZ := hid hz; have hsx : w.heap.size + 1 < wx.heap.size := by rw [hwx]; simp
 clear T T0 hbx hz hblk hu; go_enter Tryz.func191, Tryz.ntmps191
 cases u with
 | false =>
  have H0 : Hid (decE M e = En.zero ∧ decX M e = 1 ∧ decM M e = M) := by
   have := HU.out; exact ⟨by simp [decE, this], by simp [decX, this], by simp [decM, this]⟩
  clear x0 x1 x2 x3 x4 x5 x6
  go_wp2_with (go_at_call 238; refine (MAY.out _).mono ?_; rintro r w1 ⟨rfl, hb1⟩; rw [← hwx] at hb1; have hz3 := (hb1.block _ hsx).trans HZ.out; have f3 : ∀ o, w1.frozen? ⟨w.heap.size + 1, o, none⟩ = false := (fun o => by simp [World.frozen?, hz3]); have HH := hid hz3; have r0 : w1.cell? ⟨w.heap.size + 1, 0, none⟩ = some (.int .u32 0) := cob hz3 rfl; have r1 : w1.cell? ⟨w.heap.size + 1, 1, none⟩ = some (.int .u32 0) := cob hz3 rfl; have r2 : w1.cell? ⟨w.heap.size + 1, 2, none⟩ = some (.int .u32 0) := cob hz3 rfl; have r3 : w1.cell? ⟨w.heap.size + 1, 3, none⟩ = some (.int .i64 0) := cob hz3 rfl; have r4 : w1.cell? ⟨w.heap.size + 1, 4, none⟩ = some (.int .u64 0) := cob hz3 rfl; have r5 : w1.cell? ⟨w.heap.size + 1, 5, none⟩ = some (.int .u32 0) := cob hz3 rfl; have r6 : w1.cell? ⟨w.heap.size + 1, 6, none⟩ = some (.int .u32 0) := cob hz3 rfl; have HB1 := hid hb1; clear hz3 hb1)
  go_wp2_with fail
  obtain ⟨w8, hw8⟩ : ∃ w8, w8 = (((((((w1).setCell ⟨w.heap.size + 1, 0, none⟩ (.int .u32 0)).setCell ⟨w.heap.size + 1, 1, none⟩ (.int .u32 0)).setCell ⟨w.heap.size + 1, 2, none⟩ (.int .u32 0)).setCell ⟨w.heap.size + 1, 3, none⟩ (.int .i64 0)).setCell ⟨w.heap.size + 1, 4, none⟩ (.int .u64 0)).setCell ⟨w.heap.size + 1, 5, none⟩ (.int .u32 0)).setCell ⟨w.heap.size + 1, 6, none⟩ (.int .u32 0) := ⟨_, rfl⟩; obtain ⟨hk8, ho8, hs8⟩ := stored (z := En.zero) (u := En.zero) HH.out hw8; rw [← hw8]; clear hw8; have t0 : w8.cell? ⟨w.heap.size + 1, 0, none⟩ = some (.int .u32 0) := cob hk8 rfl; have t1 : w8.cell? ⟨w.heap.size + 1, 1, none⟩ = some (.int .u32 0) := cob hk8 rfl; have t2 : w8.cell? ⟨w.heap.size + 1, 2, none⟩ = some (.int .u32 0) := cob hk8 rfl; have t3 : w8.cell? ⟨w.heap.size + 1, 3, none⟩ = some (.int .i64 0) := cob hk8 rfl
  have t4 : w8.cell? ⟨w.heap.size + 1, 4, none⟩ = some (.int .u64 0) := cob hk8 rfl; have t5 : w8.cell? ⟨w.heap.size + 1, 5, none⟩ = some (.int .u32 0) := cob hk8 rfl; have t6 : w8.cell? ⟨w.heap.size + 1, 6, none⟩ = some (.int .u32 0) := cob hk8 rfl; have HOL : Hid (Onl (fun b => b = w.heap.size + 1) w1 w8) := ho8; clear ho8; refine bodyPost_ret (v := .tuple #[.agg #[.int .u32 0, .int .u32 0, .int .u32 0, .int .i64 0, .int .u64 0, .int .u32 0, .int .u32 0], .int .i64 1]) (by simp [results, Tryz.results191, go_sem, t0, t1, t2, t3, t4, t5, t6]) rfl ?_; have hb8 : Below w.heap.size w w8 := (Below.on HBX.out HB1.out).trans (HOL.out.below (B := w.heap.size) (fun k hk => by omega) (Below.on HBX.out HB1.out).size); exact ⟨m, En.zero, 1, rfl, H0.out.1.symm, H0.out.2.1.symm, by rw [H0.out.2.2]; exact HT.out.later hb8, .inl rfl, Onl.of_below hb8, hid (Part.below hb8)⟩
 | true =>
  go_wp2_with (go_at_call 238; refine (MAY.out _).mono ?_; rintro r w1 ⟨rfl, hb1⟩; rw [← hwx] at hb1; have HB1 := hid hb1; clear hb1)
  have c0 := cell_later HB1.out c0; have x0 := cell_later HB1.out y0; have x1 := cell_later HB1.out y1; have x2 := cell_later HB1.out y2; have x3 := cell_later HB1.out y3; have x4 := cell_later HB1.out y4; have x5 := cell_later HB1.out y5; have x6 := cell_later HB1.out y6; have T1 := HT0.out.later HB1.out; obtain ⟨f, ok, h1, h2, hlook⟩ := T1.look e.id; have H1 := hid h1; have H2 := hid h2; have HT1 := hid T1; have HLK := hid hlook; clear h1 h2 T1 hlook y0 y1 y2 y3 y4 y5 y6 hwx; go_cut [6, 7] (fun s6 s7 wz => ∃ q : Nat, s6 = .pointer (some ⟨q, 0, none⟩) ∧ s7 = .bool ok ∧ Hid (∀ o u, (ecs f)[o]? = some u → wz.cell? ⟨q, o, none⟩ = some u) ∧ Hid (Below w1.heap.size w1 wz))
  case first =>
   go_region_held3 (fun w' => w'.cell? ⟨p, oo, none⟩ = some (.map m) ∧ w'.cell? ⟨w.heap.size, 0, none⟩ = some (.int .u32 e.id.1) ∧ w'.cell? ⟨w.heap.size, 1, none⟩ = some (.int .u32 e.id.2) ∧ (Instr.lookup 84 (.map m) (.agg #[.int .u32 e.id.1, .int .u32 e.id.2]) true).run Tryz.prog w' = .ok (.tuple #[.agg #[.int .u32 f.id.1, .int .u32 f.id.2, .int .u32 f.home, .int .i64 f.oc, .int .u64 f.w, .int .u32 f.l, .int .u32 f.n], .bool ok]) w' ∧ Below w1.heap.size w1 w')
    ((refine (fun (hB : Below w1.heap.size w1 _) => ⟨cell_later hB c0, cell_later hB x0, cell_later hB x1, HLK.out _ (fun b k => hB.block b (HT1.out.ents.lt b k)), hB⟩) ?_; (repeat (first | exact Below.refl _ _ | assumption | refine Below.drew ?_ | refine Below.al ?_ _ | refine Below.setCell ?_ (by first | exact Nat.le_refl _ | simp <;> omega) _ | refine Below.on ?_ (by assumption)))))
    (fail)
   all_goals (try go_wp2_with fail)
   all_goals go_meet
   all_goals refine ⟨_, rfl, rfl, hid ?_, hid ?_⟩
   all_goals first
    | (refine box_cells (q := _) ?_
       first
       | exact (MapKept.heap_alloc _ _).1
       | (simp [World.drew, World.alloc]; done))
    | ((repeat (first | exact Below.refl _ _ | assumption | refine Below.drew ?_ | refine Below.al ?_ _ | refine Below.setCell ?_ (by first | exact Nat.le_refl _ | simp <;> omega) _ | refine Below.on ?_ (by assumption))))
  case rest =>
   obtain ⟨q, rfl, rfl, HQ, HC⟩ := hcut; rename World => wz
   have c0 := cell_later HC.out c0; have x0 := cell_later HC.out x0; have x1 := cell_later HC.out x1; have x2 := cell_later HC.out x2; have x3 := cell_later HC.out x3; have x4 := cell_later HC.out x4; have x5 := cell_later HC.out x5; have x6 := cell_later HC.out x6; have HBz : Hid (Below wx.heap.size wx wz) := Below.on HB1.out HC.out; have HBw : Hid (Below w.heap.size w wz) := Below.on HBX.out HBz.out; have Tz : Hid (LgO wz p oo ty m M) := HT.out.later HBw.out; cases ok with
   | false =>
    have hno : outM M e.id = none := by
     have := H1.out; cases ho : outM M e.id with
     | none => rfl
     | some g => rw [ho] at this; cases this
    have H0 : Hid (decE M e = e ∧ decX M e = 0 ∧ decM M e = M ++ [e]) := by
     have := HU.out; exact ⟨by simp [decE, this, hno], by simp [decX, this, hno, agrB_self], by simp [decM, this, hno]⟩
    have LAY := hid (layO_is (e := e) Tz.out (outM_none.1 hno)); clear HQ H1 H2 HLK HT1 hno; go_wp2_with fail
    refine LAY.out.mono ?_; rintro r w3 ⟨rfl, b, HL3, HB3, HO3, HP3⟩; have hz3 : w3.heap[w.heap.size + 1]? = some (.cells #[.int .u32 0, .int .u32 0, .int .u32 0, .int .i64 0, .int .u64 0, .int .u32 0, .int .u32 0] 104) := (HO3.out.block _ (by have := HBz.out.size; omega) (ItsL.keep (w' := w) HT.out (by omega))).trans ((HBz.out.block _ hsx).trans HZ.out); have f3 : ∀ o, w3.frozen? ⟨w.heap.size + 1, o, none⟩ = false := fun o => by simp [World.frozen?, hz3]
    have hni : ¬ ItsL p m w.heap.size := ItsL.keep (w' := w) HT.out (Nat.le_refl _); have x0 := HO3.out.cell hni x0; have x1 := HO3.out.cell hni x1; have x2 := HO3.out.cell hni x2; have x3 := HO3.out.cell hni x3; have x4 := HO3.out.cell hni x4; have x5 := HO3.out.cell hni x5; have x6 := HO3.out.cell hni x6; have HH := hid hz3; have r0 : w3.cell? ⟨w.heap.size + 1, 0, none⟩ = some (.int .u32 0) := cob hz3 rfl; have r1 : w3.cell? ⟨w.heap.size + 1, 1, none⟩ = some (.int .u32 0) := cob hz3 rfl; have r2 : w3.cell? ⟨w.heap.size + 1, 2, none⟩ = some (.int .u32 0) := cob hz3 rfl; have r3 : w3.cell? ⟨w.heap.size + 1, 3, none⟩ = some (.int .i64 0) := cob hz3 rfl; have r4 : w3.cell? ⟨w.heap.size + 1, 4, none⟩ = some (.int .u64 0) := cob hz3 rfl; have r5 : w3.cell? ⟨w.heap.size + 1, 5, none⟩ = some (.int .u32 0) := cob hz3 rfl
    have r6 : w3.cell? ⟨w.heap.size + 1, 6, none⟩ = some (.int .u32 0) := cob hz3 rfl; clear hz3 HZ c0; go_wp2_with fail
    obtain ⟨w8, hw8⟩ : ∃ w8, w8 = (((((((w3).setCell ⟨w.heap.size + 1, 0, none⟩ (.int .u32 e.id.1)).setCell ⟨w.heap.size + 1, 1, none⟩ (.int .u32 e.id.2)).setCell ⟨w.heap.size + 1, 2, none⟩ (.int .u32 e.home)).setCell ⟨w.heap.size + 1, 3, none⟩ (.int .i64 e.oc)).setCell ⟨w.heap.size + 1, 4, none⟩ (.int .u64 e.w)).setCell ⟨w.heap.size + 1, 5, none⟩ (.int .u32 e.l)).setCell ⟨w.heap.size + 1, 6, none⟩ (.int .u32 e.n) := ⟨_, rfl⟩; obtain ⟨hk8, ho8, hs8⟩ := stored (z := En.zero) (u := e) HH.out hw8; rw [← hw8]; clear hw8; have t0 : w8.cell? ⟨w.heap.size + 1, 0, none⟩ = some (.int .u32 e.id.1) := cob hk8 rfl; have t1 : w8.cell? ⟨w.heap.size + 1, 1, none⟩ = some (.int .u32 e.id.2) := cob hk8 rfl; have t2 : w8.cell? ⟨w.heap.size + 1, 2, none⟩ = some (.int .u32 e.home) := cob hk8 rfl
    have t3 : w8.cell? ⟨w.heap.size + 1, 3, none⟩ = some (.int .i64 e.oc) := cob hk8 rfl; have t4 : w8.cell? ⟨w.heap.size + 1, 4, none⟩ = some (.int .u64 e.w) := cob hk8 rfl; have t5 : w8.cell? ⟨w.heap.size + 1, 5, none⟩ = some (.int .u32 e.l) := cob hk8 rfl; have t6 : w8.cell? ⟨w.heap.size + 1, 6, none⟩ = some (.int .u32 e.n) := cob hk8 rfl; have HOL : Hid (Onl (fun b => b = w.heap.size + 1) w3 w8) := ho8; clear ho8; refine bodyPost_ret (v := .tuple #[.agg #[.int .u32 e.id.1, .int .u32 e.id.2, .int .u32 e.home, .int .i64 e.oc, .int .u64 e.w, .int .u32 e.l, .int .u32 e.n], .int .i64 0]) (by simp [results, Tryz.results191, go_sem, t0, t1, t2, t3, t4, t5, t6]) rfl ?_; have hOw : Onl (ItsL p m) w w8 := (((Onl.of_below HBw.out).trans HO3.out).fresh HOL.out (fun i hi => .inr (by omega))); have hp1 : p ≠ w.heap.size + 1 := by have := HT.out.lt; omega
    have hbp : ∀ c, ItsL p (some b) c → ¬ c = w.heap.size + 1 := by
     rintro c (rfl | hc) hcc
     ·exact hp1 hcc
     ·injection hc with hc
      subst hc hcc; exact mapat_ne HL3.out.ents HH.out rfl
    refine ⟨some b, e, 0, rfl, H0.out.1.symm, H0.out.2.1.symm, by rw [H0.out.2.2]; exact HL3.out.onl HOL.out hbp, ?_, hOw, hid (((Part.below HBw.out).trans HP3.out).trans (Part.onl HOL.out (hbp p (.inl rfl))))⟩; rcases HB3.out with k | k
    ·exact .inl k.symm
    ·exact .inr ⟨b, rfl, Nat.le_trans HBw.out.size k⟩
   | true =>
    obtain ⟨g, ho⟩ : ∃ g, outM M e.id = some g := by
     have := H1.out; cases ho : outM M e.id with
     | none => rw [ho] at this; cases this
     | some g => exact ⟨g, rfl⟩
    obtain ⟨z, hz⟩ : ∃ z, agrB e f = z := ⟨_, rfl⟩; have hfg : f = g := by have := H2.out; rw [ho] at this; exact this
    have H0 : Hid (decE M e = f ∧ decX M e = (if z then 0 else 110) ∧ decM M e = M) := by
     have := HU.out; refine ⟨by simp [decE, this, ho, hfg], ?_, by simp [decM, this, ho]⟩; simp only [decX, this, ho, Option.getD_some, ← hfg, hz, if_true]
    have AGR := hid (fun W => agree_is hz W); have q0 : wz.cell? ⟨q, 0, none⟩ = some (.int .u32 f.id.1) := HQ.out 0 _ rfl; have q1 : wz.cell? ⟨q, 1, none⟩ = some (.int .u32 f.id.2) := HQ.out 1 _ rfl; have q2 : wz.cell? ⟨q, 2, none⟩ = some (.int .u32 f.home) := HQ.out 2 _ rfl; have q3 : wz.cell? ⟨q, 3, none⟩ = some (.int .i64 f.oc) := HQ.out 3 _ rfl; have q4 : wz.cell? ⟨q, 4, none⟩ = some (.int .u64 f.w) := HQ.out 4 _ rfl; have q5 : wz.cell? ⟨q, 5, none⟩ = some (.int .u32 f.l) := HQ.out 5 _ rfl; have q6 : wz.cell? ⟨q, 6, none⟩ = some (.int .u32 f.n) := HQ.out 6 _ rfl; have HFin : Hid (∀ w8, Below w.heap.size w w8 → LgO w8 p oo ty m (decM M e) ∧ Onl (ItsL p m) w w8 ∧ Part p oo 1 w w8) := fun w8 hb8 => ⟨by rw [H0.out.2.2]; exact HT.out.later hb8, Onl.of_below hb8, Part.below hb8⟩
    clear HQ H1 H2 HLK HT1 ho hz hfg c0; cases z with
    | false =>
     go_wp2_with (go_at_call 240; refine (AGR.out _).mono ?_; rintro r w3 ⟨rfl, hb3⟩; have hz3 := (Below.on HBz.out hb3).block _ hsx |>.trans HZ.out; have f3 : ∀ o, w3.frozen? ⟨w.heap.size + 1, o, none⟩ = false := (fun o => by simp [World.frozen?, hz3]); have HH := hid hz3; have r0 : w3.cell? ⟨w.heap.size + 1, 0, none⟩ = some (.int .u32 0) := cob hz3 rfl; have r1 : w3.cell? ⟨w.heap.size + 1, 1, none⟩ = some (.int .u32 0) := cob hz3 rfl; have r2 : w3.cell? ⟨w.heap.size + 1, 2, none⟩ = some (.int .u32 0) := cob hz3 rfl; have r3 : w3.cell? ⟨w.heap.size + 1, 3, none⟩ = some (.int .i64 0) := cob hz3 rfl; have r4 : w3.cell? ⟨w.heap.size + 1, 4, none⟩ = some (.int .u64 0) := cob hz3 rfl; have r5 : w3.cell? ⟨w.heap.size + 1, 5, none⟩ = some (.int .u32 0) := cob hz3 rfl; have r6 : w3.cell? ⟨w.heap.size + 1, 6, none⟩ = some (.int .u32 0) := cob hz3 rfl; have p0 := cell_later hb3 q0; have p1 := cell_later hb3 q1; have p2 := cell_later hb3 q2; have p3 := cell_later hb3 q3; have p4 := cell_later hb3 q4; have p5 := cell_later hb3 q5; have p6 := cell_later hb3 q6; have HB3 := hid hb3; clear hz3 hb3 q0 q1 q2 q3 q4 q5 q6 x0 x1 x2 x3 x4 x5 x6)
     go_wp2_with fail
     obtain ⟨w8, hw8⟩ : ∃ w8, w8 = (((((((w3).setCell ⟨w.heap.size + 1, 0, none⟩ (.int .u32 f.id.1)).setCell ⟨w.heap.size + 1, 1, none⟩ (.int .u32 f.id.2)).setCell ⟨w.heap.size + 1, 2, none⟩ (.int .u32 f.home)).setCell ⟨w.heap.size + 1, 3, none⟩ (.int .i64 f.oc)).setCell ⟨w.heap.size + 1, 4, none⟩ (.int .u64 f.w)).setCell ⟨w.heap.size + 1, 5, none⟩ (.int .u32 f.l)).setCell ⟨w.heap.size + 1, 6, none⟩ (.int .u32 f.n) := ⟨_, rfl⟩; obtain ⟨hk8, ho8, hs8⟩ := stored (z := En.zero) (u := f) HH.out hw8; rw [← hw8]; clear hw8; have t0 : w8.cell? ⟨w.heap.size + 1, 0, none⟩ = some (.int .u32 f.id.1) := cob hk8 rfl; have t1 : w8.cell? ⟨w.heap.size + 1, 1, none⟩ = some (.int .u32 f.id.2) := cob hk8 rfl; have t2 : w8.cell? ⟨w.heap.size + 1, 2, none⟩ = some (.int .u32 f.home) := cob hk8 rfl
     have t3 : w8.cell? ⟨w.heap.size + 1, 3, none⟩ = some (.int .i64 f.oc) := cob hk8 rfl; have t4 : w8.cell? ⟨w.heap.size + 1, 4, none⟩ = some (.int .u64 f.w) := cob hk8 rfl; have t5 : w8.cell? ⟨w.heap.size + 1, 5, none⟩ = some (.int .u32 f.l) := cob hk8 rfl; have t6 : w8.cell? ⟨w.heap.size + 1, 6, none⟩ = some (.int .u32 f.n) := cob hk8 rfl; have HOL : Hid (Onl (fun b => b = w.heap.size + 1) w3 w8) := ho8; clear ho8; refine bodyPost_ret (v := .tuple #[.agg #[.int .u32 f.id.1, .int .u32 f.id.2, .int .u32 f.home, .int .i64 f.oc, .int .u64 f.w, .int .u32 f.l, .int .u32 f.n], .int .i64 110]) (by simp [results, Tryz.results191, go_sem, t0, t1, t2, t3, t4, t5, t6]) rfl ?_; have hb8 : Below w.heap.size w w8 := (Below.on HBw.out HB3.out).trans (HOL.out.below (B := w.heap.size) (fun k hk => by omega) (Below.on HBw.out HB3.out).size)
     exact ⟨m, f, 110, rfl, H0.out.1.symm, H0.out.2.1.symm, (HFin.out w8 hb8).1, .inl rfl, (HFin.out w8 hb8).2.1, hid (HFin.out w8 hb8).2.2⟩
    | true =>
     go_wp2_with (go_at_call 240; refine (AGR.out _).mono ?_; rintro r w3 ⟨rfl, hb3⟩; have hz3 := (Below.on HBz.out hb3).block _ hsx |>.trans HZ.out; have f3 : ∀ o, w3.frozen? ⟨w.heap.size + 1, o, none⟩ = false := (fun o => by simp [World.frozen?, hz3]); have HH := hid hz3; have r0 : w3.cell? ⟨w.heap.size + 1, 0, none⟩ = some (.int .u32 0) := cob hz3 rfl; have r1 : w3.cell? ⟨w.heap.size + 1, 1, none⟩ = some (.int .u32 0) := cob hz3 rfl; have r2 : w3.cell? ⟨w.heap.size + 1, 2, none⟩ = some (.int .u32 0) := cob hz3 rfl; have r3 : w3.cell? ⟨w.heap.size + 1, 3, none⟩ = some (.int .i64 0) := cob hz3 rfl; have r4 : w3.cell? ⟨w.heap.size + 1, 4, none⟩ = some (.int .u64 0) := cob hz3 rfl; have r5 : w3.cell? ⟨w.heap.size + 1, 5, none⟩ = some (.int .u32 0) := cob hz3 rfl; have r6 : w3.cell? ⟨w.heap.size + 1, 6, none⟩ = some (.int .u32 0) := cob hz3 rfl; have p0 := cell_later hb3 q0; have p1 := cell_later hb3 q1; have p2 := cell_later hb3 q2; have p3 := cell_later hb3 q3; have p4 := cell_later hb3 q4; have p5 := cell_later hb3 q5; have p6 := cell_later hb3 q6; have HB3 := hid hb3; clear hz3 hb3 q0 q1 q2 q3 q4 q5 q6 x0 x1 x2 x3 x4 x5 x6)
     go_wp2_with fail
     obtain ⟨w8, hw8⟩ : ∃ w8, w8 = (((((((w3).setCell ⟨w.heap.size + 1, 0, none⟩ (.int .u32 f.id.1)).setCell ⟨w.heap.size + 1, 1, none⟩ (.int .u32 f.id.2)).setCell ⟨w.heap.size + 1, 2, none⟩ (.int .u32 f.home)).setCell ⟨w.heap.size + 1, 3, none⟩ (.int .i64 f.oc)).setCell ⟨w.heap.size + 1, 4, none⟩ (.int .u64 f.w)).setCell ⟨w.heap.size + 1, 5, none⟩ (.int .u32 f.l)).setCell ⟨w.heap.size + 1, 6, none⟩ (.int .u32 f.n) := ⟨_, rfl⟩; obtain ⟨hk8, ho8, hs8⟩ := stored (z := En.zero) (u := f) HH.out hw8; rw [← hw8]; clear hw8; have t0 : w8.cell? ⟨w.heap.size + 1, 0, none⟩ = some (.int .u32 f.id.1) := cob hk8 rfl; have t1 : w8.cell? ⟨w.heap.size + 1, 1, none⟩ = some (.int .u32 f.id.2) := cob hk8 rfl; have t2 : w8.cell? ⟨w.heap.size + 1, 2, none⟩ = some (.int .u32 f.home) := cob hk8 rfl
     have t3 : w8.cell? ⟨w.heap.size + 1, 3, none⟩ = some (.int .i64 f.oc) := cob hk8 rfl; have t4 : w8.cell? ⟨w.heap.size + 1, 4, none⟩ = some (.int .u64 f.w) := cob hk8 rfl; have t5 : w8.cell? ⟨w.heap.size + 1, 5, none⟩ = some (.int .u32 f.l) := cob hk8 rfl; have t6 : w8.cell? ⟨w.heap.size + 1, 6, none⟩ = some (.int .u32 f.n) := cob hk8 rfl; have HOL : Hid (Onl (fun b => b = w.heap.size + 1) w3 w8) := ho8; clear ho8; refine bodyPost_ret (v := .tuple #[.agg #[.int .u32 f.id.1, .int .u32 f.id.2, .int .u32 f.home, .int .i64 f.oc, .int .u64 f.w, .int .u32 f.l, .int .u32 f.n], .int .i64 0]) (by simp [results, Tryz.results191, go_sem, t0, t1, t2, t3, t4, t5, t6]) rfl ?_; have hb8 : Below w.heap.size w w8 := (Below.on HBw.out HB3.out).trans (HOL.out.below (B := w.heap.size) (fun k hk => by omega) (Below.on HBw.out HB3.out).size)
     exact ⟨m, f, 0, rfl, H0.out.1.symm, H0.out.2.1.symm, (HFin.out w8 hb8).1, .inl rfl, (HFin.out w8 hb8).2.1, hid (HFin.out w8 hb8).2.2⟩
end Lg
namespace Ys
open Go.RowKit Go.Sort
structure Ps where
 node : Int
 ceil : Int
 H : List Lk.Hd
 E : List Lg.En
 M : Vs.Mst
 wm : Vs.Sp
 cm : Bool
 lc : Vs.Sp
abbrev SS : TypeId := 95
abbrev scs (s : Ps) (m1 m2 m : Option Nat) (root : Option Addr) : Array Value := #[.int .u32 s.node, .int .u64 s.ceil, .map m1, .map m2, .map m, .pointer root, .int .u64 s.wm.a, .int .u32 s.wm.b, .int .u32 s.wm.c, .bool s.cm, .int .u64 s.lc.a, .int .u32 s.lc.b, .int .u32 s.lc.c]
theorem arr13 {cs : Array Value} (h : cs.size = 13) {a0 a1 a2 a3 a4 a5 a6 a7 a8 a9 a10 a11 a12 : Value} (h0 : cs[0]? = some a0) (h1 : cs[1]? = some a1) (h2 : cs[2]? = some a2) (h3 : cs[3]? = some a3) (h4 : cs[4]? = some a4) (h5 : cs[5]? = some a5) (h6 : cs[6]? = some a6) (h7 : cs[7]? = some a7) (h8 : cs[8]? = some a8) (h9 : cs[9]? = some a9) (h10 : cs[10]? = some a10) (h11 : cs[11]? = some a11) (h12 : cs[12]? = some a12) : cs = #[a0, a1, a2, a3, a4, a5, a6, a7, a8, a9, a10, a11, a12] := by
 apply Array.ext_getElem?
 intro i; match i with
 | 0 => exact h0
 | 1 => exact h1
 | 2 => exact h2
 | 3 => exact h3
 | 4 => exact h4
 | 5 => exact h5
 | 6 => exact h6
 | 7 => exact h7
 | 8 => exact h8
 | 9 => exact h9
 | 10 => exact h10
 | 11 => exact h11
 | 12 => exact h12
 | i + 13 => rw [Array.getElem?_eq_none (by omega)]; simp
theorem bare13 {w : World} {p : Nat} {s : Ps} {m1 m2 m : Option Nat} {root : Option Addr} (h : w.heap[p]? = some (.cells (scs s m1 m2 m root) SS (0, 0))) : Lk.Bare w p := fun o t hc => by
 simp only [World.cell?, h] at hc; match o, hc with
 | 0, hc => simp at hc
 | 1, hc => simp at hc
 | 2, hc => simp at hc
 | 3, hc => simp at hc
 | 4, hc => simp at hc
 | 5, hc => simp at hc
 | 6, hc => simp at hc
 | 7, hc => simp at hc
 | 8, hc => simp at hc
 | 9, hc => simp at hc
 | 10, hc => simp at hc
 | 11, hc => simp at hc
 | 12, hc => simp at hc
 | o + 13, hc => simp at hc
structure St (F : Nat → Prop) (w : World) (p : Nat) (m1 m2 m : Option Nat) (V : List Lk.Hv) (I : Lk.It) (s : Ps) : Prop where
 obj : ∃ root, w.heap[p]? = some (.cells (scs s m1 m2 m root) SS (0, 0))
 tb : Lk.TbO w p 2 SS m1 m2 V I
 lg : Lg.LgO w p 4 SS m s.E
 st : Vs.StoG F w p 5 SS s.M s.wm
 h : V.map Lk.Hv.h = s.H
 ty : ∀ v ∈ V, v.typ w
 dm : ∀ b, m = some b → m1 ≠ some b ∧ m2 ≠ some b
section
variable {F : Nat → Prop} {w w' : World} {p : Nat} {m1 m2 m : Option Nat} {V : List Lk.Hv} {I : Lk.It} {s : Ps}
theorem St.lt (T : St F w p m1 m2 m V I s) : p < w.heap.size := T.tb.lt
theorem St.later (T : St F w p m1 m2 m V I s) (hb : Below w.heap.size w w') : St F w' p m1 m2 m V I s :=
 ⟨by obtain ⟨r, h⟩ := T.obj; exact ⟨r, (hb.block p T.lt).trans h⟩, T.tb.later hb, T.lg.later hb, T.st.later hb, T.h, fun v hv => (T.ty v hv).later hb, T.dm⟩
theorem St.loose (T : St F w p m1 m2 m V I s) (j : Nat) : w.frozen? ⟨p, j, none⟩ = false := T.tb.loose j
theorem St.cell (T : St F w p m1 m2 m V I s) {j : Nat} {v : Value} (h : ∀ root, (scs s m1 m2 m root)[j]? = some v) : w.cell? ⟨p, j, none⟩ = some v := by
 obtain ⟨r, hr⟩ := T.obj; exact Vs.cob hr (h r)
theorem St.fmap (T : St F w p m1 m2 m V I s) {b : Nat} (hb : m1 = some b ∨ m2 = some b ∨ m = some b) : ¬ F b := fun hf => by
 obtain ⟨x, hx, _⟩ := T.st; obtain ⟨cs, u, z, hc, _⟩ := hx.own b hf; rcases hb with rfl | rfl | rfl
 ·obtain ⟨es, clock, hb, _⟩ := T.tb.held.at; rw [hc] at hb; cases hb
 ·obtain ⟨es, clock, hb, _⟩ := T.tb.ints.at; rw [hc] at hb; cases hb
 ·obtain ⟨es, clock, hb, _⟩ := T.lg.ents.at; rw [hc] at hb; cases hb
theorem noRow : Lk.NoRow SS := ⟨by decide, by decide⟩
theorem St.foreign (T : St F w p m1 m2 m V I s) : Lk.Foreign w F := fun b hf => by
 obtain ⟨x, hx, _⟩ := T.st; obtain ⟨cs, u, z, hc, hu⟩ := hx.own b hf; rcases hu with rfl | rfl
 ·exact ⟨fun cur h' => noRow.1 (Lk.cells_ne hc h'), fun cur h' => noRow.2 (Lk.cells_ne hc h')⟩
 ·exact ⟨fun cur h' => absurd (Lk.cells_ne hc h') (by decide), fun cur h' => absurd (Lk.cells_ne hc h') (by decide)⟩
end
theorem St.table {F : Nat → Prop} {w w' : World} {p : Nat} {m1 m2 m m1' m2' : Option Nat} {V V' : List Lk.Hv} {I I' : Lk.It} {s : Ps} {H' : List Lk.Hd} (T : St F w p m1 m2 m V I s) (tb : Lk.TbO w' p 2 SS m1' m2' V' I') (hh : V'.map Lk.Hv.h = H') (ho : Onl (Lk.Its p m1 m2) w w') (hpt : Part p 2 2 w w')
  (hnew : ∀ b, Lk.Its p m1' m2' b → Lk.Its p m1 m2 b ∨ w.heap.size ≤ b) (hty : ∀ v ∈ V', v.typ w') : St F w' p m1' m2' m V' I' { s with H := H' } := by
 obtain ⟨root, hob⟩ := T.obj; obtain ⟨cs', hc', hs', he⟩ := hpt _ _ _ hob; obtain ⟨cs2, hc2, y0, y1⟩ := tb.obj; rw [hc'] at hc2; injection hc2 with hc2
 injection hc2 with e1 _ _
 subst e1; have hm : ∀ b, m = some b → ¬ Lk.Its p m1 m2 b := fun b e k => by
  rcases k with rfl | k | k
  ·subst e; exact T.lg.ne rfl
  ·exact (T.dm b e).1 k
  ·exact (T.dm b e).2 k
 have arr : cs' = scs { s with H := H' } m1' m2' m root := arr13 hs' (he 0 (by omega)) (he 1 (by omega)) y0 y1 (he 4 (by omega)) (he 5 (by omega)) (he 6 (by omega)) (he 7 (by omega)) (he 8 (by omega)) (he 9 (by omega)) (he 10 (by omega)) (he 11 (by omega)) (he 12 (by omega)); refine ⟨⟨root, by rw [hc', arr]⟩, tb, ?_, ?_, hh, hty, fun b e => ⟨fun k => ?_, fun k => ?_⟩⟩
 ·obtain ⟨ds, hd, z0⟩ := T.lg.obj; rw [hob] at hd; injection hd with hd
  injection hd with e2 _ _
  subst e2; exact ⟨⟨cs', hc', (he 4 (by omega)).trans z0⟩, T.lg.ents.same fun b e => ho.block b (T.lg.ents.lt b e) (hm b e)⟩
 ·obtain ⟨x, hx, ex⟩ := T.st; refine ⟨x, hx.keepC (Vs.Kp.of_onl ho fun b cs u z hf hb hu => ?_) (fun cs hc => ?_) (fun b hf hne => ho.block b (hx.lt hf) fun k => ?_), ex⟩
  ·rcases hf with rfl | rfl | rfl
   ·rw [hob] at hb; injection hb with hb; injection hb with _ e _; subst e; exact hx.ty.1 hu
   ·obtain ⟨es, clock, h9, _⟩ := T.tb.held.at; rw [hb] at h9; cases h9
   ·obtain ⟨es, clock, h9, _⟩ := T.tb.ints.at; rw [hb] at h9; cases h9
  ·rw [hob] at hc; injection hc with hc
   injection hc with e2 _ _
   subst e2; exact ⟨cs', hc', fun j h1 h2 => he j (by omega)⟩
  ·rcases k with k | k | k
   ·exact hne k
   ·exact T.fmap (.inl k) hf
   ·exact T.fmap (.inr (.inl k)) hf
 ·rcases hnew b (.inr (.inl k)) with k2 | k2
  ·exact hm b e k2
  ·have := T.lg.ents.lt b e; omega
 ·rcases hnew b (.inr (.inr k)) with k2 | k2
  ·exact hm b e k2
  ·have := T.lg.ents.lt b e; omega
theorem St.ledger {F : Nat → Prop} {w w' : World} {p : Nat} {m1 m2 m m' : Option Nat} {V : List Lk.Hv} {I : Lk.It} {s : Ps} {E' : List Lg.En} (T : St F w p m1 m2 m V I s) (lg : Lg.LgO w' p 4 SS m' E') (ho : Onl (Lg.ItsL p m) w w') (hpt : Part p 4 1 w w') (hnew : m' = m ∨ ∃ b, m' = some b ∧ w.heap.size ≤ b) : St F w' p m1 m2 m' V I { s with E := E' } := by
 obtain ⟨root, hob⟩ := T.obj; obtain ⟨cs', hc', hs', he⟩ := hpt _ _ _ hob; obtain ⟨cs2, hc2, y0⟩ := lg.obj; rw [hc'] at hc2; injection hc2 with hc2
 injection hc2 with e1 _ _
 subst e1; have arr : cs' = scs { s with E := E' } m1 m2 m' root := arr13 hs' (he 0 (by omega)) (he 1 (by omega)) (he 2 (by omega)) (he 3 (by omega)) y0 (he 5 (by omega)) (he 6 (by omega)) (he 7 (by omega)) (he 8 (by omega)) (he 9 (by omega)) (he 10 (by omega)) (he 11 (by omega)) (he 12 (by omega)); have hob' : w'.heap[p]? = some (.cells (scs { s with E := E' } m1 m2 m' root) SS (0, 0)) := by rw [hc', arr]
 have hfor : Lk.Foreign w (Lg.ItsL p m) := fun b hb => by
  rcases hb with rfl | rfl
  ·exact ⟨fun cur h' => noRow.1 (Lk.cells_ne hob h'), fun cur h' => noRow.2 (Lk.cells_ne hob h')⟩
  ·obtain ⟨es, clock, hb, _⟩ := T.lg.ents.at; exact ⟨fun cur h' => (by rw [hb] at h'; cases h'), fun cur h' => (by rw [hb] at h'; cases h')⟩
 refine ⟨⟨root, hob'⟩, ?_, lg, ?_, T.h, fun v hv => (T.ty v hv).onl ho hfor, fun b e => ?_⟩
 ·refine T.tb.keepC T.ty ho hfor (fun b hb k => ?_) (fun cs hc => ?_) (bare13 hob')
  ·rcases k with rfl | k
   ·rcases hb with rfl | rfl
    ·exact T.tb.ne1 rfl
    ·exact T.tb.ne2 rfl
   ·rcases hb with hb | hb
    ·exact (T.dm b k).1 hb
    ·exact (T.dm b k).2 hb
  ·rw [hob] at hc; injection hc with hc
   injection hc with e2 _ _
   subst e2; exact ⟨cs', hc', he 2 (by omega), he 3 (by omega)⟩
 ·obtain ⟨x, hx, ex⟩ := T.st; refine ⟨x, hx.keepC (Vs.Kp.of_onl ho fun b cs u z hf hb hu => ?_) (fun cs hc => ?_) (fun b hf hne => ho.block b (hx.lt hf) fun k => ?_), ex⟩
  ·rcases hf with rfl | rfl
   ·rw [hob] at hb; injection hb with hb; injection hb with _ e _; subst e; exact hx.ty.1 hu
   ·obtain ⟨es, clock, h9, _⟩ := T.lg.ents.at; rw [hb] at h9; cases h9
  ·rw [hob] at hc; injection hc with hc
   injection hc with e2 _ _
   subst e2; exact ⟨cs', hc', fun j h1 h2 => he j (by omega)⟩
  ·rcases k with k | k
   ·exact hne k
   ·exact T.fmap (.inr (.inr k)) hf
 ·rcases hnew with rfl | ⟨b', rfl, hb'⟩
  ·exact T.dm b e
  ·injection e with e
   subst e; exact ⟨fun k => by have := T.tb.held.lt _ k; omega, fun k => by have := T.tb.ints.lt _ k; omega⟩
theorem St.store {F F' : Nat → Prop} {w w' : World} {p : Nat} {m1 m2 m : Option Nat} {V : List Lk.Hv} {I : Lk.It} {s : Ps} {M' : Vs.Mst} {mk' : Vs.Sp} (T : St F w p m1 m2 m V I s) (st : Vs.StoG F' w' p 5 SS M' mk') (ho : Onl F w w') (hpt : Part p 5 4 w w') : St F' w' p m1 m2 m V I { s with M := M', wm := mk' } := by
 obtain ⟨root, hob⟩ := T.obj; obtain ⟨cs', hc', hs', he⟩ := hpt _ _ _ hob; obtain ⟨x, hx, ex⟩ := st; obtain ⟨cs2, hc2, y1, y2, y3⟩ := hx.obj; rw [hc'] at hc2; injection hc2 with hc2
 injection hc2 with e1 _ _
 subst e1; obtain ⟨Tr, cs3, t3, hc3, _, y0, _⟩ := hx.xi; rw [hc'] at hc3; injection hc3 with hc3
 injection hc3 with e3 _ _
 subst e3; have arr : cs' = scs { s with M := M', wm := mk' } m1 m2 m Tr.pt := arr13 hs' (he 0 (by omega)) (he 1 (by omega)) (he 2 (by omega)) (he 3 (by omega)) (he 4 (by omega)) y0 y1 y2 y3 (he 9 (by omega)) (he 10 (by omega)) (he 11 (by omega)) (he 12 (by omega)); have hob' : w'.heap[p]? = some (.cells (scs { s with M := M', wm := mk' } m1 m2 m Tr.pt) SS (0, 0)) := by rw [hc', arr]
 refine ⟨⟨_, hob'⟩, ?_, ?_, ⟨x, hx, ex⟩, T.h, fun v hv => (T.ty v hv).onl ho T.foreign, T.dm⟩
 ·refine T.tb.keepC T.ty ho T.foreign (fun b hb => T.fmap (by rcases hb with h | h; exact .inl h; exact .inr (.inl h))) (fun cs hc => ?_) (bare13 hob'); rw [hob] at hc; injection hc with hc
  injection hc with e2 _ _
  subst e2; exact ⟨cs', hc', he 2 (by omega), he 3 (by omega)⟩
 ·obtain ⟨ds, hd, z0⟩ := T.lg.obj; rw [hob] at hd; injection hd with hd
  injection hd with e2 _ _
  subst e2; exact ⟨⟨cs', hc', (he 4 (by omega)).trans z0⟩, T.lg.ents.same fun b e => ho.block b (T.lg.ents.lt b e) (T.fmap (.inr (.inr e)))⟩
end Ys
end Go.Proofs.YtofpaldolcnmiaaGreat
