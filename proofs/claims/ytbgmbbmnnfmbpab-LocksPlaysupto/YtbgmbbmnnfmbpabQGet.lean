import Derived.Test.YtbgmbbmnnfmbpabQAllT
/- Get. -/
namespace Go.Proofs.Ytbgmbbmnnfmbpab.Lk
open Go.RowKit Go.Sort
set_option linter.unusedVariables false

theorem Hv.fresh.low {B B' : Nat} {w w' : World} {F : Nat → Prop} {v : Hv} (h : v.fresh B w) (ho : Onl F w w') (hF : ∀ g, F g → g < B) (hB : B' ≤ B) : v.fresh B' w' :=
  ⟨owns_base (owns_keep h.r fun g e => ho.block g (h.r.lt g e).2 (fun k => by have := hF g k; have := (h.r.lt g e).1; omega)) hB, owns_base (owns_keep h.w fun g e => ho.block g (h.w.lt g e).2 (fun k => by have := hF g k; have := (h.w.lt g e).1; omega)) hB⟩

set_option maxHeartbeats 2000000 in
theorem get_is {w : World} {p : Nat} {m1 m2 : Option Nat} {V : List Hv} {I : It} (T : Tb w p m1 m2 V I) (i : Ix) :
    Calls Try.prog 18 #[.pointer (some ⟨p, 0, none⟩), ixv i] w fun e w' => ∃ u : Hv, e = .returned (.tuple #[.agg #[.int .u32 u.h.id.1, .int .u32 u.h.id.2, .int .u32 u.h.home, .int .u64 u.h.w, .int .u32 u.h.l, .int .u32 u.h.n, .slice u.ra u.h.rs.length u.rc, .slice u.wa u.h.ws.length u.wc], .bool (hasB (V.map Hv.h) i)]) ∧
      Hid (hasB (V.map Hv.h) i = true → u.h ∈ V.map Hv.h ∧ u.h.id = i) ∧ Hid (hasB (V.map Hv.h) i = false → u.h = Hv.zero.h) ∧ Hid (u.fresh w.heap.size w') ∧ Hid (u.ok w') ∧ Hid (Below w.heap.size w w') := by
  obtain ⟨ic, is⟩ := i
  obtain ⟨wx, hwx⟩ : ∃ wx, wx = (w.alloc (.cells #[.int .u32 ic, .int .u32 is] 29)).alloc (.cells #[.int .u32 0, .int .u32 0, .int .u32 0, .int .u64 0, .int .u32 0, .int .u32 0, .slice none 0 0, .slice none 0 0] 36) := ⟨_, rfl⟩
  have hbx : Below w.heap.size w wx := by rw [hwx]; exact Below.al (Below.al (Below.refl _ _) _) _
  have T0 := T.later hbx
  have c0 := T0.c0
  have x0 : wx.cell? ⟨w.heap.size, 0, none⟩ = some (.int .u32 ic) := by rw [hwx]; simp [go_sem]
  have x1 : wx.cell? ⟨w.heap.size, 1, none⟩ = some (.int .u32 is) := by rw [hwx]; simp [go_sem]
  have hz : wx.heap[w.heap.size + 1]? = some (.cells #[.int .u32 0, .int .u32 0, .int .u32 0, .int .u64 0, .int .u32 0, .int .u32 0, .slice none 0 0, .slice none 0 0] 36) := by
    rw [hwx, show w.heap.size + 1 = (w.alloc (.cells #[.int .u32 ic, .int .u32 is] 29)).heap.size by simp]
    exact (MapKept.heap_alloc _ _).1
  obtain ⟨v0, ok, hyes, hno, hlook⟩ := T0.held.lookT (P := Try.prog) ids Try.underlying46 zero_hv ⟨ic, is⟩
  have hok : ok = hasB (V.map Hv.h) ⟨ic, is⟩ := by
    cases ok with
    | true => exact (decide_eq_true (by rw [← prs_keys]; exact List.mem_map.2 ⟨_, hyes rfl, rfl⟩)).symm
    | false => exact (decide_eq_false (by have := (hno rfl).1; rwa [prs_keys] at this)).symm
  have hvv : (ok = true → v0 ∈ V ∧ v0.h.id = ⟨ic, is⟩) ∧ (ok = false → v0 = Hv.zero) := by
    refine ⟨fun e => ?_, fun e => (hno e).2⟩
    obtain ⟨v, hv, e⟩ := List.mem_map.1 (hyes e)
    injection e with e1 e2
    subst e2
    exact ⟨hv, e1⟩
  have hvo : v0.ok wx := by
    cases ok with
    | true => exact T0.rows v0 (hvv.1 rfl).1
    | false =>
      rw [hvv.2 rfl]
      exact ⟨fun i hi => by simp [Hv.zero] at hi, fun i hi => by simp [Hv.zero] at hi, by simp [Hv.zero], by simp [Hv.zero]⟩
  rw [← hok]
  have HVV := hid hvv
  have HVO := hid hvo
  have HT0 := hid T0
  have HBX := hid hbx
  have HZ := hid hz
  have hsx : w.heap.size + 1 < wx.heap.size := by rw [hwx]; simp
  simp only [Hv.val, ixv] at hlook
  have HLK := hid hlook
  clear hyes hno hok hvv hvo T T0 hbx hz hlook
  go_enter Try.func18, Try.ntmps18
  go_wp2_with fail
  rw [← hwx]
  clear hwx
  go_cut [6, 7] (fun s6 s7 wz => ∃ q : Nat, s6 = .pointer (some ⟨q, 0, none⟩) ∧ s7 = .bool ok ∧ Hid (∀ o u, (hcs v0)[o]? = some u → wz.cell? ⟨q, o, none⟩ = some u) ∧ Hid (Below wx.heap.size wx wz))
  case first =>
    go_region_held3 (fun w' => w'.cell? ⟨p, 0, none⟩ = some (.map m1) ∧ w'.cell? ⟨w.heap.size, 0, none⟩ = some (.int .u32 ic) ∧ w'.cell? ⟨w.heap.size, 1, none⟩ = some (.int .u32 is) ∧ (Instr.lookup 46 (.map m1) (.agg #[.int .u32 ic, .int .u32 is]) true).run Try.prog w' = .ok (.tuple #[.agg #[.int .u32 v0.h.id.1, .int .u32 v0.h.id.2, .int .u32 v0.h.home, .int .u64 v0.h.w, .int .u32 v0.h.l, .int .u32 v0.h.n, .slice v0.ra v0.h.rs.length v0.rc, .slice v0.wa v0.h.ws.length v0.wc], .bool ok]) w' ∧ Below wx.heap.size wx w')
      ((refine (fun (hB : Below wx.heap.size wx _) => ⟨cell_later hB c0, cell_later hB x0, cell_later hB x1, HLK.out _ (fun b e => hB.block b (HT0.out.held.lt b e)), hB⟩) ?_; (repeat (first | exact Below.refl _ _ | assumption | refine Below.drew ?_ | refine Below.al ?_ _ | refine Below.setCell ?_ (by first | exact Nat.le_refl _ | (simp; omega) | (simp; done)) _ | refine Below.on ?_ (by assumption)))))
      (fail)
    all_goals (try go_wp2_with fail)
    all_goals go_meet
    all_goals refine ⟨_, rfl, rfl, hid ?_, hid ?_⟩
    all_goals first
      | (refine box_cells (g := _) ?_
         first
         | exact (MapKept.heap_alloc _ _).1
         | (simp [hcs, World.drew, World.alloc]; done))
      | ((repeat (first | exact Below.refl _ _ | assumption | refine Below.drew ?_ | refine Below.al ?_ _ | refine Below.setCell ?_ (by first | exact Nat.le_refl _ | (simp; omega) | (simp; done)) _ | refine Below.on ?_ (by assumption))))
  case rest =>
    obtain ⟨q, rfl, rfl, HQ, HC⟩ := hcut
    rename World => wz
    have q0 := HQ.out 0 _ rfl
    have q1 := HQ.out 1 _ rfl
    have q2 := HQ.out 2 _ rfl
    have q3 := HQ.out 3 _ rfl
    have q4 := HQ.out 4 _ rfl
    have q5 := HQ.out 5 _ rfl
    have q6 := HQ.out 6 _ rfl
    have q7 := HQ.out 7 _ rfl
    have OW := hid (own_is (HVO.out.later HC.out))
    simp only [Hv.val] at OW
    have HB2 : Hid (Below w.heap.size w wz) := Below.on HBX.out HC.out
    have hzz := (HC.out.block _ hsx).trans HZ.out
    go_wp2_with fail
    refine OW.out.mono ?_
    rintro e w3 ⟨u, rfl, huh, huf, hb3⟩
    have hz3 : w3.heap[w.heap.size + 1]? = some (.cells #[.int .u32 0, .int .u32 0, .int .u32 0, .int .u64 0, .int .u32 0, .int .u32 0, .slice none 0 0, .slice none 0 0] 36) := (hb3.block _ (by have := HC.out.size; omega)).trans hzz
    have f3 : ∀ o, w3.frozen? ⟨w.heap.size + 1, o, none⟩ = false := fun o => by simp [World.frozen?, hz3]
    have HUH := hid huh
    have HUF := hid huf
    have HB3 : Hid (Below w.heap.size w w3) := Below.on HB2.out hb3
    have hsz3 : w.heap.size + 1 < wz.heap.size := Nat.lt_of_lt_of_le hsx HC.out.size
    clear OW hb3 hzz huh huf HQ
    have r0 : w3.cell? ⟨w.heap.size + 1, 0, none⟩ = some (.int .u32 0) := cell_of_obj hz3 rfl
    have r1 : w3.cell? ⟨w.heap.size + 1, 1, none⟩ = some (.int .u32 0) := cell_of_obj hz3 rfl
    have r2 : w3.cell? ⟨w.heap.size + 1, 2, none⟩ = some (.int .u32 0) := cell_of_obj hz3 rfl
    have r3 : w3.cell? ⟨w.heap.size + 1, 3, none⟩ = some (.int .u64 0) := cell_of_obj hz3 rfl
    have r4 : w3.cell? ⟨w.heap.size + 1, 4, none⟩ = some (.int .u32 0) := cell_of_obj hz3 rfl
    have r5 : w3.cell? ⟨w.heap.size + 1, 5, none⟩ = some (.int .u32 0) := cell_of_obj hz3 rfl
    have r6 : w3.cell? ⟨w.heap.size + 1, 6, none⟩ = some (.slice none 0 0) := cell_of_obj hz3 rfl
    have r7 : w3.cell? ⟨w.heap.size + 1, 7, none⟩ = some (.slice none 0 0) := cell_of_obj hz3 rfl
    have HH := hid hz3
    clear hz3
    go_wp2_with fail
    obtain ⟨w8, hw8⟩ : ∃ w8, w8 = (((((((w3.setCell ⟨w.heap.size + 1, 0, none⟩ (.int .u32 u.h.id.1)).setCell ⟨w.heap.size + 1, 1, none⟩ (.int .u32 u.h.id.2)).setCell ⟨w.heap.size + 1, 2, none⟩ (.int .u32 u.h.home)).setCell ⟨w.heap.size + 1, 3, none⟩ (.int .u64 u.h.w)).setCell ⟨w.heap.size + 1, 4, none⟩ (.int .u32 u.h.l)).setCell ⟨w.heap.size + 1, 5, none⟩ (.int .u32 u.h.n)).setCell ⟨w.heap.size + 1, 6, none⟩ (.slice u.ra u.h.rs.length u.rc)).setCell ⟨w.heap.size + 1, 7, none⟩ (.slice u.wa u.h.ws.length u.wc) := ⟨_, rfl⟩
    have hO8 : Onl (fun b => b = w.heap.size + 1) w3 w8 := by
      rw [hw8]
      repeat refine Onl.set ?_ (by rfl) _ _
      exact Onl.refl _ _
    have hb8 : Below w.heap.size w w8 := by
      rw [hw8]
      repeat refine Below.setCell ?_ (by exact Nat.le_succ _) _
      exact HB3.out
    have hblk8 : w8.heap[w.heap.size + 1]? = some (.cells #[.int .u32 u.h.id.1, .int .u32 u.h.id.2, .int .u32 u.h.home, .int .u64 u.h.w, .int .u32 u.h.l, .int .u32 u.h.n, .slice u.ra u.h.rs.length u.rc, .slice u.wa u.h.ws.length u.wc] 36) := by
      rw [hw8]
      exact heap_setCell_same _ _ _ _ _ _ (heap_setCell_same _ _ _ _ _ _ (heap_setCell_same _ _ _ _ _ _ (heap_setCell_same _ _ _ _ _ _ (heap_setCell_same _ _ _ _ _ _ (heap_setCell_same _ _ _ _ _ _ (heap_setCell_same _ _ _ _ _ _ (heap_setCell_same _ _ _ _ _ _ HH.out)))))))
    rw [← hw8]
    have t0 : w8.cell? ⟨w.heap.size + 1, 0, none⟩ = some (.int .u32 u.h.id.1) := cell_of_obj hblk8 rfl
    have t1 : w8.cell? ⟨w.heap.size + 1, 1, none⟩ = some (.int .u32 u.h.id.2) := cell_of_obj hblk8 rfl
    have t2 : w8.cell? ⟨w.heap.size + 1, 2, none⟩ = some (.int .u32 u.h.home) := cell_of_obj hblk8 rfl
    have t3 : w8.cell? ⟨w.heap.size + 1, 3, none⟩ = some (.int .u64 u.h.w) := cell_of_obj hblk8 rfl
    have t4 : w8.cell? ⟨w.heap.size + 1, 4, none⟩ = some (.int .u32 u.h.l) := cell_of_obj hblk8 rfl
    have t5 : w8.cell? ⟨w.heap.size + 1, 5, none⟩ = some (.int .u32 u.h.n) := cell_of_obj hblk8 rfl
    have t6 : w8.cell? ⟨w.heap.size + 1, 6, none⟩ = some (.slice u.ra u.h.rs.length u.rc) := cell_of_obj hblk8 rfl
    have t7 : w8.cell? ⟨w.heap.size + 1, 7, none⟩ = some (.slice u.wa u.h.ws.length u.wc) := cell_of_obj hblk8 rfl
    clear hw8 hblk8
    have hfr : u.fresh w.heap.size w8 := HUF.out.low hO8 (fun g e => by omega) (by omega)
    refine bodyPost_ret (v := .tuple #[.agg #[.int .u32 u.h.id.1, .int .u32 u.h.id.2, .int .u32 u.h.home, .int .u64 u.h.w, .int .u32 u.h.l, .int .u32 u.h.n, .slice u.ra u.h.rs.length u.rc, .slice u.wa u.h.ws.length u.wc], .bool ok]) (by simp [results, Try.results18, go_sem, t0, t1, t2, t3, t4, t5, t6, t7]) rfl ⟨u, rfl, ?_, ?_, hfr, hfr.ok (by rw [HUH.out]; exact HVO.out.rl) (by rw [HUH.out]; exact HVO.out.wl), hb8⟩
    · intro e
      obtain ⟨h1, h2⟩ := HVV.out.1 e
      exact ⟨by rw [HUH.out]; exact List.mem_map.2 ⟨_, h1, rfl⟩, by rw [HUH.out]; exact h2⟩
    · intro e
      rw [HUH.out, HVV.out.2 e]
end Go.Proofs.Ytbgmbbmnnfmbpab.Lk
