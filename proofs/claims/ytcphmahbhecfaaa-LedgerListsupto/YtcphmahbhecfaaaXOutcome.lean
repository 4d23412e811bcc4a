import Derived.Test.YtcphmahbhecfaaaXTab
/- Outcome. -/
namespace Go.Proofs.Ytcphmahbhecfaaa.Lg
open Go.RowKit Go.Sort Lk
set_option linter.unusedVariables false

theorem box_cells {w : World} {q : Nat} {f : En} (h : w.heap[q]? = some (.cells #[.int .u32 f.id.1, .int .u32 f.id.2, .int .u32 f.home, .int .i64 f.oc, .int .u64 f.w, .int .u32 f.l, .int .u32 f.n] 36)) : ∀ o u, (ecs f)[o]? = some u → w.cell? ⟨q, o, none⟩ = some u := fun o u ho => cell_of_obj h (by simpa using ho)
/-- a look-up, told by what stands -/
theorem LgO.look {w : World} {p oo : Nat} {ty : TypeId} {m : Option Nat} {M : List En} (T : LgO w p oo ty m M) (t : Ix) : ∃ (f : En) (ok : Bool), (ok = (outM M t).isSome) ∧ f = (outM M t).getD En.zero ∧ ∀ W, (∀ b, m = some b → W.heap[b]? = w.heap[b]?) → (Instr.lookup 48 (.map m) (.agg #[.int .u32 t.1, .int .u32 t.2]) true).run Try.prog W = .ok (.tuple #[.agg #[.int .u32 f.id.1, .int .u32 f.id.2, .int .u32 f.home, .int .i64 f.oc, .int .u64 f.w, .int .u32 f.l, .int .u32 f.n], .bool ok]) W := by
  obtain ⟨f, ok, h1, h2, h3⟩ := T.ents.lookT (P := Try.prog) ids Try.underlying48 zero_en t
  have hnd := T.nodup
  refine ⟨f, ok, ?_, ?_, h3⟩
  · cases ok with
    | true =>
      obtain ⟨k1, k2⟩ := prsE_mem (h1 rfl)
      rw [← k2, outM_mem hnd k1]; rfl
    | false =>
      have := (h2 rfl).1
      rw [prsE_keys] at this
      rw [outM_none.2 this]; rfl
  · cases ok with
    | true =>
      obtain ⟨k1, k2⟩ := prsE_mem (h1 rfl)
      rw [← k2, outM_mem hnd k1]; rfl
    | false =>
      have := (h2 rfl).1
      rw [prsE_keys] at this
      rw [outM_none.2 this, (h2 rfl).2]; rfl
set_option maxHeartbeats 1000000 in
theorem outcome_is {w : World} {p oo : Nat} {ty : TypeId} {m : Option Nat} {M : List En} (T : LgO w p oo ty m M) (t : Ix) :
    Calls Try.prog 6 #[.pointer (some ⟨p, oo, none⟩), .agg #[.int .u32 t.1, .int .u32 t.2]] w fun r w' => ∃ (f : En) (ok : Bool), r = .returned (.tuple #[.agg #[.int .u32 f.id.1, .int .u32 f.id.2, .int .u32 f.home, .int .i64 f.oc, .int .u64 f.w, .int .u32 f.l, .int .u32 f.n], .bool ok]) ∧
      Hid (ok = (outM M t).isSome) ∧ Hid (f = (outM M t).getD En.zero) ∧ Hid (Below w.heap.size w w') := by
  obtain ⟨wx, hwx⟩ : ∃ wx, wx = (w.alloc (.cells #[.int .u32 t.1, .int .u32 t.2] 30)).alloc (.cells #[.int .u32 0, .int .u32 0, .int .u32 0, .int .i64 0, .int .u64 0, .int .u32 0, .int .u32 0] 36) := ⟨_, rfl⟩
  have hbx : Below w.heap.size w wx := by rw [hwx]; exact Below.al (Below.al (Below.refl _ _) _) _
  have T0 := T.later hbx
  have c0 := T0.c0
  have x0 : wx.cell? ⟨w.heap.size, 0, none⟩ = some (.int .u32 t.1) := by rw [hwx]; simp [go_sem]
  have x1 : wx.cell? ⟨w.heap.size, 1, none⟩ = some (.int .u32 t.2) := by rw [hwx]; simp [go_sem]
  have hz : wx.heap[w.heap.size + 1]? = some (.cells #[.int .u32 0, .int .u32 0, .int .u32 0, .int .i64 0, .int .u64 0, .int .u32 0, .int .u32 0] 36) := by
    rw [hwx, show w.heap.size + 1 = (w.alloc (.cells #[.int .u32 t.1, .int .u32 t.2] 30)).heap.size by simp]
    exact (MapKept.heap_alloc _ _).1
  obtain ⟨f, ok, h1, h2, hlook⟩ := T0.look t
  have H1 := hid h1
  have H2 := hid h2
  have HT0 := hid T0
  have HBX := hid hbx
  have HZ := hid hz
  have HLK := hid hlook
  have hsx : w.heap.size + 1 < wx.heap.size := by rw [hwx]; simp
  clear h1 h2 T T0 hbx hz hlook
  go_enter Try.func6, Try.ntmps6
  go_wp2_with fail
  rw [← hwx]
  clear hwx
  go_cut [6, 7] (fun s6 s7 wz => ∃ q : Nat, s6 = .pointer (some ⟨q, 0, none⟩) ∧ s7 = .bool ok ∧ Hid (∀ o u, (ecs f)[o]? = some u → wz.cell? ⟨q, o, none⟩ = some u) ∧ Hid (Below wx.heap.size wx wz))
  case first =>
    go_region_held3 (fun w' => w'.cell? ⟨p, oo, none⟩ = some (.map m) ∧ w'.cell? ⟨w.heap.size, 0, none⟩ = some (.int .u32 t.1) ∧ w'.cell? ⟨w.heap.size, 1, none⟩ = some (.int .u32 t.2) ∧ (Instr.lookup 48 (.map m) (.agg #[.int .u32 t.1, .int .u32 t.2]) true).run Try.prog w' = .ok (.tuple #[.agg #[.int .u32 f.id.1, .int .u32 f.id.2, .int .u32 f.home, .int .i64 f.oc, .int .u64 f.w, .int .u32 f.l, .int .u32 f.n], .bool ok]) w' ∧ Below wx.heap.size wx w')
      ((refine (fun (hB : Below wx.heap.size wx _) => ⟨cell_later hB c0, cell_later hB x0, cell_later hB x1, HLK.out _ (fun b k => hB.block b (HT0.out.ents.lt b k)), hB⟩) ?_; (repeat (first | exact Below.refl _ _ | assumption | refine Below.drew ?_ | refine Below.al ?_ _ | refine Below.setCell ?_ (by first | exact Nat.le_refl _ | (simp; omega) | (simp; done)) _ | refine Below.on ?_ (by assumption)))))
      (fail)
    all_goals (try go_wp2_with fail)
    all_goals go_meet
    all_goals refine ⟨_, rfl, rfl, hid ?_, hid ?_⟩
    all_goals first
      | (refine box_cells (q := _) ?_
         first
         | exact (MapKept.heap_alloc _ _).1
         | (simp [World.drew, World.alloc]; done))
      | ((repeat (first | exact Below.refl _ _ | assumption | refine Below.drew ?_ | refine Below.al ?_ _ | refine Below.setCell ?_ (by first | exact Nat.le_refl _ | (simp; omega) | (simp; done)) _ | refine Below.on ?_ (by assumption))))
  case rest =>
    obtain ⟨q, rfl, rfl, HQ, HC⟩ := hcut
    rename World => wz
    have q0 : wz.cell? ⟨q, 0, none⟩ = some (.int .u32 f.id.1) := HQ.out 0 _ rfl
    have q1 : wz.cell? ⟨q, 1, none⟩ = some (.int .u32 f.id.2) := HQ.out 1 _ rfl
    have q2 : wz.cell? ⟨q, 2, none⟩ = some (.int .u32 f.home) := HQ.out 2 _ rfl
    have q3 : wz.cell? ⟨q, 3, none⟩ = some (.int .i64 f.oc) := HQ.out 3 _ rfl
    have q4 : wz.cell? ⟨q, 4, none⟩ = some (.int .u64 f.w) := HQ.out 4 _ rfl
    have q5 : wz.cell? ⟨q, 5, none⟩ = some (.int .u32 f.l) := HQ.out 5 _ rfl
    have q6 : wz.cell? ⟨q, 6, none⟩ = some (.int .u32 f.n) := HQ.out 6 _ rfl
    have hz3 := (HC.out.block _ hsx).trans HZ.out
    have f3 : ∀ o, wz.frozen? ⟨w.heap.size + 1, o, none⟩ = false := fun o => by simp [World.frozen?, hz3]
    have r0 : wz.cell? ⟨w.heap.size + 1, 0, none⟩ = some (.int .u32 0) := cell_of_obj hz3 rfl
    have r1 : wz.cell? ⟨w.heap.size + 1, 1, none⟩ = some (.int .u32 0) := cell_of_obj hz3 rfl
    have r2 : wz.cell? ⟨w.heap.size + 1, 2, none⟩ = some (.int .u32 0) := cell_of_obj hz3 rfl
    have r3 : wz.cell? ⟨w.heap.size + 1, 3, none⟩ = some (.int .i64 0) := cell_of_obj hz3 rfl
    have r4 : wz.cell? ⟨w.heap.size + 1, 4, none⟩ = some (.int .u64 0) := cell_of_obj hz3 rfl
    have r5 : wz.cell? ⟨w.heap.size + 1, 5, none⟩ = some (.int .u32 0) := cell_of_obj hz3 rfl
    have r6 : wz.cell? ⟨w.heap.size + 1, 6, none⟩ = some (.int .u32 0) := cell_of_obj hz3 rfl
    have HH := hid hz3
    have HB3 : Hid (Below w.heap.size w wz) := Below.on HBX.out HC.out
    clear hz3 HZ HQ
    go_wp2_with fail
    obtain ⟨w8, hw8⟩ : ∃ w8, w8 = (((((((wz).setCell ⟨w.heap.size + 1, 0, none⟩ (.int .u32 f.id.1)).setCell ⟨w.heap.size + 1, 1, none⟩ (.int .u32 f.id.2)).setCell ⟨w.heap.size + 1, 2, none⟩ (.int .u32 f.home)).setCell ⟨w.heap.size + 1, 3, none⟩ (.int .i64 f.oc)).setCell ⟨w.heap.size + 1, 4, none⟩ (.int .u64 f.w)).setCell ⟨w.heap.size + 1, 5, none⟩ (.int .u32 f.l)).setCell ⟨w.heap.size + 1, 6, none⟩ (.int .u32 f.n) := ⟨_, rfl⟩
    obtain ⟨hk8, ho8, hs8⟩ := stored (z := En.zero) HH.out hw8
    rw [← hw8]
    clear hw8
    have t0 : w8.cell? ⟨w.heap.size + 1, 0, none⟩ = some (.int .u32 f.id.1) := cell_of_obj hk8 rfl
    have t1 : w8.cell? ⟨w.heap.size + 1, 1, none⟩ = some (.int .u32 f.id.2) := cell_of_obj hk8 rfl
    have t2 : w8.cell? ⟨w.heap.size + 1, 2, none⟩ = some (.int .u32 f.home) := cell_of_obj hk8 rfl
    have t3 : w8.cell? ⟨w.heap.size + 1, 3, none⟩ = some (.int .i64 f.oc) := cell_of_obj hk8 rfl
    have t4 : w8.cell? ⟨w.heap.size + 1, 4, none⟩ = some (.int .u64 f.w) := cell_of_obj hk8 rfl
    have t5 : w8.cell? ⟨w.heap.size + 1, 5, none⟩ = some (.int .u32 f.l) := cell_of_obj hk8 rfl
    have t6 : w8.cell? ⟨w.heap.size + 1, 6, none⟩ = some (.int .u32 f.n) := cell_of_obj hk8 rfl
    have hb8 : Below w.heap.size w w8 := HB3.out.trans (ho8.below (B := w.heap.size) (fun k hk => by omega) HB3.out.size)
    refine bodyPost_ret (v := .tuple #[.agg #[.int .u32 f.id.1, .int .u32 f.id.2, .int .u32 f.home, .int .i64 f.oc, .int .u64 f.w, .int .u32 f.l, .int .u32 f.n], .bool ok]) (by simp [results, Try.results6, go_sem, t0, t1, t2, t3, t4, t5, t6]) rfl ⟨f, ok, rfl, H1, H2, hb8⟩
end Go.Proofs.Ytcphmahbhecfaaa.Lg
