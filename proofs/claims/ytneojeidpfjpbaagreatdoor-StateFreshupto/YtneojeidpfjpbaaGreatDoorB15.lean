import Derived.Test.YtneojeidpfjpbaaGreatDoorB14
set_option linter.unusedVariables false
set_option maxHeartbeats 2000000
namespace Go.Proofs.YtneojeidpfjpbaaGreatDoor.Lk
open Go.RowKit Go.Sort
theorem Hv.fresh.low {B B' : Nat} {w w' : World} {F : Nat → Prop} {v : Hv} (h : v.fresh B w) (ho : Onl F w w') (hF : ∀ g, F g → g < B) (hB : B' ≤ B) : v.fresh B' w' :=
 ⟨owns_base (owns_keep h.r fun g e => ho.block g (h.r.lt g e).2 (fun k => by have := hF g k; have := (h.r.lt g e).1; omega)) hB, owns_base (owns_keep h.w fun g e => ho.block g (h.w.lt g e).2 (fun k => by have := hF g k; have := (h.w.lt g e).1; omega)) hB⟩
theorem get_is {w : World} {p oo : Nat} {ty : TypeId} {m1 m2 : Option Nat} {V : List Hv} {I : It} (T : TbO w p oo ty m1 m2 V I) (i : Ix) :
  Calls Tryz.prog 42 #[.pointer (some ⟨p, oo, none⟩), ixv i] w fun e w' => ∃ u : Hv, e = .returned (.tuple #[.agg #[.int .u32 u.h.id.1, .int .u32 u.h.id.2, .int .u32 u.h.home, .int .u64 u.h.w, .int .u32 u.h.l, .int .u32 u.h.n, .slice u.ra u.h.rs.length u.rc, .slice u.wa u.h.ws.length u.wc], .bool (hasB (V.map Hv.h) i)]) ∧
   Hid (hasB (V.map Hv.h) i = true → u.h ∈ V.map Hv.h ∧ u.h.id = i) ∧ Hid (hasB (V.map Hv.h) i = false → u.h = Hv.zero.h) ∧ Hid (u.fresh w.heap.size w') ∧ Hid (u.ok w') ∧ Hid (Below w.heap.size w w') := by
 obtain ⟨ic, is⟩ := i; obtain ⟨wx, hwx⟩ : ∃ wx, wx = (w.alloc (.cells #[.int .u32 ic, .int .u32 is] 38)).alloc (.cells #[.int .u32 0, .int .u32 0, .int .u32 0, .int .u64 0, .int .u32 0, .int .u32 0, .slice none 0 0, .slice none 0 0] 52) := ⟨_, rfl⟩; have hbx : Below w.heap.size w wx := by rw [hwx]; exact Below.al (Below.al (Below.refl _ _) _) _
 have T0 := T.later hbx; have c0 := T0.c0; have x0 : wx.cell? ⟨w.heap.size, 0, none⟩ = some (.int .u32 ic) := by rw [hwx]; simp [go_sem]
 have x1 : wx.cell? ⟨w.heap.size, 1, none⟩ = some (.int .u32 is) := by rw [hwx]; simp [go_sem]
 have hz : wx.heap[w.heap.size + 1]? = some (.cells #[.int .u32 0, .int .u32 0, .int .u32 0, .int .u64 0, .int .u32 0, .int .u32 0, .slice none 0 0, .slice none 0 0] 52) := by
  rw [hwx, show w.heap.size + 1 = (w.alloc (.cells #[.int .u32 ic, .int .u32 is] 38)).heap.size by simp]; exact (MapKept.heap_alloc _ _).1
 obtain ⟨v0, ok, hyes, hno, hlook⟩ := T0.held.lookT (P := Tryz.prog) ids Tryz.underlying68 zero_hv ⟨ic, is⟩; have hok : ok = hasB (V.map Hv.h) ⟨ic, is⟩ := by
  cases ok with
  | true => exact (decide_eq_true (by rw [← prs_keys]; exact List.mem_map.2 ⟨_, hyes rfl, rfl⟩)).symm
  | false => exact (decide_eq_false (by have := (hno rfl).1; rwa [prs_keys] at this)).symm
 have hvv : (ok = true → v0 ∈ V ∧ v0.h.id = ⟨ic, is⟩) ∧ (ok = false → v0 = Hv.zero) := by
  refine ⟨fun e => ?_, fun e => (hno e).2⟩; obtain ⟨v, hv, e⟩ := List.mem_map.1 (hyes e); injection e with e1 e2
  subst e2; exact ⟨hv, e1⟩
 have hvo : v0.ok wx := by
  cases ok with
  | true => exact T0.rows v0 (hvv.1 rfl).1
  | false =>
   rw [hvv.2 rfl]; exact ⟨fun i hi => by simp [Hv.zero] at hi, fun i hi => by simp [Hv.zero] at hi, by simp [Hv.zero], by simp [Hv.zero]⟩
 rw [← hok]; have HVV := hid hvv; have HVO := hid hvo; have HT0 := hid T0; have HBX := hid hbx; have HZ := hid hz; have hsx : w.heap.size + 1 < wx.heap.size := by rw [hwx]; simp
 simp only [Hv.val, ixv] at hlook; have HLK := hid hlook; clear hyes hno hok hvv hvo T T0 hbx hz hlook; go_enter Tryz.func42, Tryz.ntmps42
 go_wp2_with fail
 rw [← hwx]; clear hwx; go_cut [6, 7] (fun s6 s7 wz => ∃ q : Nat, s6 = .pointer (some ⟨q, 0, none⟩) ∧ s7 = .bool ok ∧ Hid (∀ o u, (hcs v0)[o]? = some u → wz.cell? ⟨q, o, none⟩ = some u) ∧ Hid (Below wx.heap.size wx wz))
 case first =>
  go_region_held3 (fun w' => w'.cell? ⟨p, oo, none⟩ = some (.map m1) ∧ w'.cell? ⟨w.heap.size, 0, none⟩ = some (.int .u32 ic) ∧ w'.cell? ⟨w.heap.size, 1, none⟩ = some (.int .u32 is) ∧ (Instr.lookup 68 (.map m1) (.agg #[.int .u32 ic, .int .u32 is]) true).run Tryz.prog w' = .ok (.tuple #[.agg #[.int .u32 v0.h.id.1, .int .u32 v0.h.id.2, .int .u32 v0.h.home, .int .u64 v0.h.w, .int .u32 v0.h.l, .int .u32 v0.h.n, .slice v0.ra v0.h.rs.length v0.rc, .slice v0.wa v0.h.ws.length v0.wc], .bool ok]) w' ∧ Below wx.heap.size wx w')
   ((refine (fun (hB : Below wx.heap.size wx _) => ⟨cell_later hB c0, cell_later hB x0, cell_later hB x1, HLK.out _ (fun b e => hB.block b (HT0.out.held.lt b e)), hB⟩) ?_; (repeat (first | exact Below.refl _ _ | assumption | refine Below.drew ?_ | refine Below.al ?_ _ | refine Below.setCell ?_ (by first | exact Nat.le_refl _ | (simp; omega) | (simp; done)) _ | refine Below.on ?_ (by assumption)))))
   (fail)
  all_goals (try go_wp2_with fail)
  all_goals go_meet
  all_goals refine ⟨_, rfl, rfl, hid ?_, hid ?_⟩
  all_goals first
   | (refine box_cells (g := _) ?_
      first
      | exact (MapKept.heap_alloc _ _).1
      | (simp [hcs, World.drew, World.alloc]; done))
   | ((repeat (first | exact Below.refl _ _ | assumption | refine Below.drew ?_ | refine Below.al ?_ _ | refine Below.setCell ?_ (by first | exact Nat.le_refl _ | (simp; omega) | (simp; done)) _ | refine Below.on ?_ (by assumption))))
 case rest =>
  obtain ⟨q, rfl, rfl, HQ, HC⟩ := hcut; rename World => wz
  have q0 := HQ.out 0 _ rfl; have q1 := HQ.out 1 _ rfl; have q2 := HQ.out 2 _ rfl; have q3 := HQ.out 3 _ rfl; have q4 := HQ.out 4 _ rfl; have q5 := HQ.out 5 _ rfl; have q6 := HQ.out 6 _ rfl; have q7 := HQ.out 7 _ rfl; have OW := hid (own_is (HVO.out.later HC.out)); simp only [Hv.val] at OW; have HB2 : Hid (Below w.heap.size w wz) := Below.on HBX.out HC.out; have hzz := (HC.out.block _ hsx).trans HZ.out; go_wp2_with fail
  refine OW.out.mono ?_; rintro e w3 ⟨u, rfl, huh, huf, hb3⟩; have hz3 : w3.heap[w.heap.size + 1]? = some (.cells #[.int .u32 0, .int .u32 0, .int .u32 0, .int .u64 0, .int .u32 0, .int .u32 0, .slice none 0 0, .slice none 0 0] 52) := (hb3.block _ (by have := HC.out.size; omega)).trans hzz; have f3 : ∀ o, w3.frozen? ⟨w.heap.size + 1, o, none⟩ = false := fun o => by simp [World.frozen?, hz3]
  have HUH := hid huh; have HUF := hid huf; have HB3 : Hid (Below w.heap.size w w3) := Below.on HB2.out hb3; have hsz3 : w.heap.size + 1 < wz.heap.size := Nat.lt_of_lt_of_le hsx HC.out.size; clear OW hb3 hzz huh huf HQ; have r0 : w3.cell? ⟨w.heap.size + 1, 0, none⟩ = some (.int .u32 0) := cell_of_obj hz3 rfl; have r1 : w3.cell? ⟨w.heap.size + 1, 1, none⟩ = some (.int .u32 0) := cell_of_obj hz3 rfl; have r2 : w3.cell? ⟨w.heap.size + 1, 2, none⟩ = some (.int .u32 0) := cell_of_obj hz3 rfl; have r3 : w3.cell? ⟨w.heap.size + 1, 3, none⟩ = some (.int .u64 0) := cell_of_obj hz3 rfl; have r4 : w3.cell? ⟨w.heap.size + 1, 4, none⟩ = some (.int .u32 0) := cell_of_obj hz3 rfl; have r5 : w3.cell? ⟨w.heap.size + 1, 5, none⟩ = some (.int .u32 0) := cell_of_obj hz3 rfl; have r6 : w3.cell? ⟨w.heap.size + 1, 6, none⟩ = some (.slice none 0 0) := cell_of_obj hz3 rfl
  have r7 : w3.cell? ⟨w.heap.size + 1, 7, none⟩ = some (.slice none 0 0) := cell_of_obj hz3 rfl; have HH := hid hz3; clear hz3; go_wp2_with fail
  obtain ⟨w8, hw8⟩ : ∃ w8, w8 = (((((((w3.setCell ⟨w.heap.size + 1, 0, none⟩ (.int .u32 u.h.id.1)).setCell ⟨w.heap.size + 1, 1, none⟩ (.int .u32 u.h.id.2)).setCell ⟨w.heap.size + 1, 2, none⟩ (.int .u32 u.h.home)).setCell ⟨w.heap.size + 1, 3, none⟩ (.int .u64 u.h.w)).setCell ⟨w.heap.size + 1, 4, none⟩ (.int .u32 u.h.l)).setCell ⟨w.heap.size + 1, 5, none⟩ (.int .u32 u.h.n)).setCell ⟨w.heap.size + 1, 6, none⟩ (.slice u.ra u.h.rs.length u.rc)).setCell ⟨w.heap.size + 1, 7, none⟩ (.slice u.wa u.h.ws.length u.wc) := ⟨_, rfl⟩; have hO8 : Onl (fun b => b = w.heap.size + 1) w3 w8 := by
   rw [hw8]; repeat refine Onl.set ?_ (by rfl) _ _
   exact Onl.refl _ _
  have hb8 : Below w.heap.size w w8 := by
   rw [hw8]; repeat refine Below.setCell ?_ (by exact Nat.le_succ _) _
   exact HB3.out
  have hblk8 : w8.heap[w.heap.size + 1]? = some (.cells #[.int .u32 u.h.id.1, .int .u32 u.h.id.2, .int .u32 u.h.home, .int .u64 u.h.w, .int .u32 u.h.l, .int .u32 u.h.n, .slice u.ra u.h.rs.length u.rc, .slice u.wa u.h.ws.length u.wc] 52) := by
   rw [hw8]; exact heap_setCell_same _ _ _ _ _ _ (heap_setCell_same _ _ _ _ _ _ (heap_setCell_same _ _ _ _ _ _ (heap_setCell_same _ _ _ _ _ _ (heap_setCell_same _ _ _ _ _ _ (heap_setCell_same _ _ _ _ _ _ (heap_setCell_same _ _ _ _ _ _ (heap_setCell_same _ _ _ _ _ _ HH.out)))))))
  rw [← hw8]; have t0 : w8.cell? ⟨w.heap.size + 1, 0, none⟩ = some (.int .u32 u.h.id.1) := cell_of_obj hblk8 rfl; have t1 : w8.cell? ⟨w.heap.size + 1, 1, none⟩ = some (.int .u32 u.h.id.2) := cell_of_obj hblk8 rfl; have t2 : w8.cell? ⟨w.heap.size + 1, 2, none⟩ = some (.int .u32 u.h.home) := cell_of_obj hblk8 rfl; have t3 : w8.cell? ⟨w.heap.size + 1, 3, none⟩ = some (.int .u64 u.h.w) := cell_of_obj hblk8 rfl; have t4 : w8.cell? ⟨w.heap.size + 1, 4, none⟩ = some (.int .u32 u.h.l) := cell_of_obj hblk8 rfl; have t5 : w8.cell? ⟨w.heap.size + 1, 5, none⟩ = some (.int .u32 u.h.n) := cell_of_obj hblk8 rfl; have t6 : w8.cell? ⟨w.heap.size + 1, 6, none⟩ = some (.slice u.ra u.h.rs.length u.rc) := cell_of_obj hblk8 rfl; have t7 : w8.cell? ⟨w.heap.size + 1, 7, none⟩ = some (.slice u.wa u.h.ws.length u.wc) := cell_of_obj hblk8 rfl; clear hw8 hblk8
  have hfr : u.fresh w.heap.size w8 := HUF.out.low hO8 (fun g e => by omega) (by omega); refine bodyPost_ret (v := .tuple #[.agg #[.int .u32 u.h.id.1, .int .u32 u.h.id.2, .int .u32 u.h.home, .int .u64 u.h.w, .int .u32 u.h.l, .int .u32 u.h.n, .slice u.ra u.h.rs.length u.rc, .slice u.wa u.h.ws.length u.wc], .bool ok]) (by simp [results, Tryz.results42, go_sem, t0, t1, t2, t3, t4, t5, t6, t7]) rfl ⟨u, rfl, ?_, ?_, hfr, hfr.ok (by rw [HUH.out]; exact HVO.out.rl) (by rw [HUH.out]; exact HVO.out.wl), hb8⟩
  ·intro e; obtain ⟨h1, h2⟩ := HVV.out.1 e; exact ⟨by rw [HUH.out]; exact List.mem_map.2 ⟨_, h1, rfl⟩, by rw [HUH.out]; exact h2⟩
  ·intro e; rw [HUH.out, HVV.out.2 e]
end Go.Proofs.YtneojeidpfjpbaaGreatDoor.Lk
namespace Go.Proofs.YtneojeidpfjpbaaGreatDoor.Vs
open Go.RowKit Go.Sort
theorem last_is {w : World} {k : ByteArray} {h : Hd} {m : Nat} (r : Row w k h) (hm : h.n = m + 1) (hn : h.n ≤ 1152921504606846976) :
  Calls Tryz.prog 127 #[.slice (some ⟨h.g, 0, none⟩) h.n h.cap] w fun e w' => e = .returned (sv (nthV h.vs m).s) ∧ Below w.heap.size w w' := by
 obtain ⟨g, n, cap, vs⟩ := h; simp only at hm hn; subst hm; have c := r.at (i := m) (by show m < m + 1; omega); simp only at c; obtain ⟨v, hv⟩ : ∃ v, v = nthV vs m := ⟨_, rfl⟩; rw [← hv] at c ⊢; clear hv; have hg := r.lt; simp only at hg ⊢; have c1 := c.c1; have c2 := c.c2; have c3 := c.c3; have d1 : (w.alloc (.cells #[.int .u64 0, .int .u32 0, .int .u32 0] 28)).cell? ⟨g, m * 6 + 1, none⟩ = _ := cell_later (Below.al (Below.refl _ _) _) c1; have d2 : (w.alloc (.cells #[.int .u64 0, .int .u32 0, .int .u32 0] 28)).cell? ⟨g, m * 6 + 2, none⟩ = _ := cell_later (Below.al (Below.refl _ _) _) c2; have d3 : (w.alloc (.cells #[.int .u64 0, .int .u32 0, .int .u32 0] 28)).cell? ⟨g, m * 6 + 3, none⟩ = _ := cell_later (Below.al (Below.refl _ _) _) c3; clear c r c1 c2 c3; have hw : IntKind.i64.wrap (m : Int) = (m : Int) := by rw [IntKind.wrap_i64]; omega
 go_enter Tryz.func127, Tryz.ntmps127
 go_wp2_with fail
 refine bodyPost_ret (v := sv v.s) (by simp [results, Tryz.results127, go_sem]) rfl ⟨rfl, ?_⟩
 (repeat (first | exact Below.refl _ _ | assumption | refine Below.drew ?_ | refine Below.al ?_ _ | refine Below.setCell ?_ (by first | exact Nat.le_refl _ | (simp; omega) | (simp; done)) _ | refine Below.on ?_ (by assumption)))
theorem upTo1_is {w : World} {k : ByteArray} {h : Hd} {t : Sp} {i ba bc : Nat} {u : Bool} (r : Row w k h) (hi : i < h.n) (hn : h.n ≤ 1152921504606846976)
  (a0 : w.cell? ⟨ba, 0, none⟩ = some (.int .u64 t.a)) (a1 : w.cell? ⟨ba, 1, none⟩ = some (.int .u32 t.b)) (a2 : w.cell? ⟨ba, 2, none⟩ = some (.int .u32 t.c))
  (b0 : w.cell? ⟨bc, 0, none⟩ = some (.slice (some ⟨h.g, 0, none⟩) h.n h.cap)) (hu : t.lt (nthV h.vs i).s = u) :
  Calls Tryz.prog 185 #[.int .i64 i, pt ba, pt bc] w fun e w' => e = .returned (.bool u) ∧ Below w.heap.size w w' := by
 obtain ⟨g, n, cap, vs⟩ := h; simp only at hi hn b0 hu; have c := r.at (i := i) hi; simp only at c; obtain ⟨v, hv⟩ : ∃ v, v = nthV vs i := ⟨_, rfl⟩; rw [← hv] at c hu; clear hv r; have c1 := c.c1; have c2 := c.c2; have c3 := c.c3; have ka0 := cell_regrown a0; have ka1 := cell_regrown a1; have ka2 := cell_regrown a2
 have kb0 := cell_regrown b0; have k1 := cell_regrown c1; have k2 := cell_regrown c2; have k3 := cell_regrown c3
 have hu' : lessB t.a t.b t.c v.s.a v.s.b v.s.c = u := hu; clear c hu; go_enter Tryz.func185, Tryz.ntmps185
 go_wp2_with fail
 refine wp_region_quiet_below (by kernel_rfl) (by kernel_rfl) ?_; repeat (go_big_quiet_step ((go_at_call 59; exact Calls.regrown_of (less_is (by assumption) _))))
 refine wpQuiet_nil ?_; intro w1 hw; replace hw := below_of_regrown hw; go_wp2_with fail
 go_ret
 exact ⟨rfl, hw⟩
theorem search_is {w : World} {n u ba bc : Nat} (hun : u ≤ n) (hn : n ≤ 1152921504606846976)
  (K : ∀ (i : Nat) (W : World), i < n → Below w.heap.size w W → Calls Tryz.prog 185 #[.int .i64 i, pt ba, pt bc] W fun e w' => e = .returned (.bool (decide (u ≤ i))) ∧ Below W.heap.size W w') :
  Calls Tryz.prog 184 #[.int .i64 n, .func (.func 185) #[] #[pt ba, pt bc]] w fun e w' => e = .returned (.int .i64 u) ∧ Below w.heap.size w w' := by
 have HK := hid K; clear K; go_enter Tryz.func184, Tryz.ntmps184
 go_wp2_with fail
 go_loopg [5, 6] n (fun g s5 s6 wr => ∃ i j : Nat, i ≤ u ∧ u ≤ j ∧ j ≤ n ∧ g = j - i ∧ s5 = .int .i64 i ∧ s6 = .int .i64 j ∧ Hid (Below w.heap.size w wr))
 case atStart => exact ⟨0, n, by omega, hun, Nat.le_refl _, rfl, rfl, rfl, Below.refl _ _⟩
 case round =>
  obtain ⟨i, j, h1, h2, h3, rfl, rfl, rfl, HB⟩ := hrel; by_cases hlt : i < j
  ·obtain ⟨h, hh⟩ : ∃ h, h = (i + j) / 2 := ⟨_, rfl⟩; have hih : i ≤ h := by omega
   have hhj : h < j := by omega
   have q1 : decide (i < j) = true := decide_eq_true hlt; have q2 : ((i : Int) + (j : Int)) / 2 = (h : Int) := by omega
   have hKh := HK.out h; clear hlt hh; cases hu : decide (u ≤ h) with
   | true =>
    have hu' := of_decide_eq_true hu; rw [hu] at hKh; have KH := hid hKh; clear hKh hu; go_wp2_with (go_at_call 185; refine (KH.out _ (by omega) HB.out).mono ?_; rintro e w1 ⟨rfl, hb1⟩)
    go_roundg (h - i)
    case measure => omega
    case rel => exact ⟨i, h, h1, hu', by omega, rfl, rfl, by go_num, Below.on HB.out hb1⟩
   | false =>
    have hu' := of_decide_eq_false hu; rw [hu] at hKh; have KH := hid hKh; clear hKh hu; go_wp2_with (go_at_call 185; refine (KH.out _ (by omega) HB.out).mono ?_; rintro e w1 ⟨rfl, hb1⟩)
    go_roundg (j - (h + 1))
    case measure => omega
    case rel => exact ⟨h + 1, j, by omega, h2, h3, rfl, by go_num, rfl, Below.on HB.out hb1⟩
  ·obtain rfl : i = u := by omega
   have q1 : decide (i < j) = false := decide_eq_false hlt; go_wp2_with fail
   go_ret
   exact ⟨rfl, HB.out⟩
theorem upTo_is {w : World} {k : ByteArray} {h : Hd} (t : Sp) (r : Row w k h) (hr : Ris h.vs) (hn : h.n ≤ 1152921504606846976) :
  Calls Tryz.prog 135 #[.slice (some ⟨h.g, 0, none⟩) h.n h.cap, sv t] w fun e w' => e = .returned (.int .i64 (upTo h.vs t : Nat)) ∧ Below w.heap.size w w' := by
 obtain ⟨W, hW⟩ : ∃ W, W = (w.alloc (.cells #[.slice (some ⟨h.g, 0, none⟩) h.n h.cap] 167)).alloc (.cells #[.int .u64 t.a, .int .u32 t.b, .int .u32 t.c] 28) := ⟨_, rfl⟩; have hb : Below w.heap.size w W := by rw [hW]; exact Below.al (Below.al (Below.refl _ _) _) _
 have k0 : W.heap[w.heap.size]? = some (.cells #[.slice (some ⟨h.g, 0, none⟩) h.n h.cap] 167 (0, 0)) := by
  rw [hW]; exact (Below.heap_alloc _ _ _ (by simp)).trans (World.alloc_heap_new w _)
 have k1 : W.heap[w.heap.size + 1]? = some (.cells #[.int .u64 t.a, .int .u32 t.b, .int .u32 t.c] 28 (0, 0)) := by
  rw [hW]; have := World.alloc_heap_new (w.alloc (.cells #[.slice (some ⟨h.g, 0, none⟩) h.n h.cap] 167)) (.cells #[.int .u64 t.a, .int .u32 t.b, .int .u32 t.c] 28)
  rw [World.size_alloc] at this; exact this
 have b0 : W.cell? ⟨w.heap.size, 0, none⟩ = some (.slice (some ⟨h.g, 0, none⟩) h.n h.cap) := cell_of_obj k0 rfl; have a0 : W.cell? ⟨w.heap.size + 1, 0, none⟩ = some (.int .u64 t.a) := cell_of_obj k1 rfl; have a1 : W.cell? ⟨w.heap.size + 1, 1, none⟩ = some (.int .u32 t.b) := cell_of_obj k1 rfl; have a2 : W.cell? ⟨w.heap.size + 1, 2, none⟩ = some (.int .u32 t.c) := cell_of_obj k1 rfl; have rW := r.later hb; have hS := hid (search_is (w := W) (n := h.n) (u := upTo h.vs t) (ba := w.heap.size + 1) (bc := w.heap.size) (by have := upTo_le h.vs t; rw [r.len] at this; exact this) hn (fun i W' hi hb' =>
  upTo1_is (rW.later hb') hi hn (cell_later hb' a0) (cell_later hb' a1) (cell_later hb' a2) (cell_later hb' b0) (by
   have hi' : i < h.vs.length := by rw [r.len]; exact hi
   have := upTo_iff hr t hi'; rw [nthV_get hi', Bool.eq_iff_iff, this, decide_eq_true_eq])))
 obtain ⟨n, hn'⟩ : ∃ n, n = h.n := ⟨_, rfl⟩; obtain ⟨u, hu'⟩ : ∃ u, u = upTo h.vs t := ⟨_, rfl⟩; rw [← hn'] at hS b0 ⊢; rw [← hu'] at hS ⊢; rw [← hn'] at hW; have HB := hid hb; clear rW r hr hn k0 k1 a0 a1 a2 hn' hu' hb; subst hW; go_enter Tryz.func135, Tryz.ntmps135
 go_wp2_with (go_at_call 184; refine hS.out.mono ?_; rintro e w1 ⟨rfl, hb1⟩)
 go_ret
 exact ⟨rfl, Below.on HB.out hb1⟩
theorem val_zero {cs : Chain} {t : Sp} (h : upTo cs t = 0) : valAt cs t = none := by unfold valAt; rw [low_last0 t h]; rfl
theorem low_succ {cs : Chain} {t : Sp} {m : Nat} (hr : Ris cs) (h : upTo cs t = m + 1) : (low cs t).getLast? = some (nthV cs m) := by
 have hl := upTo_le cs t; rw [low_last hr t (by omega), h]; have hm : m < cs.length := by omega
 simp [nthV, hm]
theorem val_succ {cs : Chain} {t : Sp} {m : Nat} (hr : Ris cs) (h : upTo cs t = m + 1) : valAt cs t = if (nthV cs m).del then none else some (nthV cs m).val := by
 unfold valAt; rw [low_succ hr h]; rfl
theorem unseen_zero {cs : Chain} {t : Sp} (h : upTo cs t = 0) : unseen cs t = 0 := by unfold unseen; rw [h]; split <;> rfl
theorem unseen_succ {cs : Chain} {t : Sp} {m : Nat} (hr : Ris cs) (h : upTo cs t = m + 1) : unseen cs t = if (nthV cs m).del then m + 1 else m := by
 unfold unseen; rw [low_succ hr h, h]; show (if (nthV cs m).del = true then m + 1 else m + 1 - 1) = _; cases (nthV cs m).del <;> rfl
theorem unseen_is {w : World} {k : ByteArray} {h : Hd} (t : Sp) (r : Row w k h) (hr : Ris h.vs) (hn : h.n ≤ 1152921504606846976) :
  Calls Tryz.prog 100 #[.slice (some ⟨h.g, 0, none⟩) h.n h.cap, sv t] w fun e w' => e = .returned (.int .i64 (unseen h.vs t : Nat)) ∧ Below w.heap.size w w' := by
 have hul := upTo_le h.vs t; rw [r.len] at hul; have hb0 : Below w.heap.size w (w.alloc (.cells #[.int .u64 t.a, .int .u32 t.b, .int .u32 t.c] 28)) := Below.al (Below.refl _ _) _; have HU := hid (upTo_is t (r.later hb0) hr hn); cases hu : upTo h.vs t with
 | zero =>
  rw [hu] at HU; have HV := hid (unseen_zero hu); clear r hr hul hu hb0; go_enter Tryz.func100, Tryz.ntmps100
  go_wp2_with (go_at_call 135; refine HU.out.mono ?_; rintro e w1 ⟨rfl, hb1⟩)
  go_ret
  exact ⟨by rw [HV.out]; rfl, by (repeat (first | exact Below.refl _ _ | assumption | refine Below.drew ?_ | refine Below.al ?_ _ | refine Below.setCell ?_ (by first | exact Nat.le_refl _ | (simp; omega) | (simp; done)) _ | refine Below.on ?_ (by assumption)))⟩
 | succ m =>
  rw [hu] at HU hul; have HV := hid (unseen_succ hr hu); have hc := (r.later hb0).at (i := m) (by omega); obtain ⟨g, n, cap, vs⟩ := h; simp only at hc HV HU hul hn ⊢; obtain ⟨v, hv⟩ : ∃ v, v = nthV vs m := ⟨_, rfl⟩; rw [← hv] at hc HV; obtain ⟨s, d, x⟩ := v; have HC := hid hc; have q0 : ((m : Int) + 1 == 0) = false := by rw [beq_eq_false_iff_ne]; omega
  have q1 : IntKind.i64.wrap (m : Int) = (m : Int) := by rw [IntKind.wrap_i64]; omega
  clear r hr hu hv hc hb0; cases d with
  | true =>
   go_enter Tryz.func100, Tryz.ntmps100
   go_wp2_with (go_at_call 135; refine HU.out.mono ?_; rintro e w1 ⟨rfl, hb1⟩; have c4 := (HC.out.later hb1).c4; simp only at c4)
   go_ret
   exact ⟨by rw [HV.out]; simp, by (repeat (first | exact Below.refl _ _ | assumption | refine Below.drew ?_ | refine Below.al ?_ _ | refine Below.setCell ?_ (by first | exact Nat.le_refl _ | (simp; omega) | (simp; done)) _ | refine Below.on ?_ (by assumption)))⟩
  | false =>
   go_enter Tryz.func100, Tryz.ntmps100
   go_wp2_with (go_at_call 135; refine HU.out.mono ?_; rintro e w1 ⟨rfl, hb1⟩; have c4 := (HC.out.later hb1).c4; simp only at c4)
   go_ret
   exact ⟨by rw [HV.out]; simp, by (repeat (first | exact Below.refl _ _ | assumption | refine Below.drew ?_ | refine Below.al ?_ _ | refine Below.setCell ?_ (by first | exact Nat.le_refl _ | (simp; omega) | (simp; done)) _ | refine Below.on ?_ (by assumption)))⟩
theorem pairwise_set {R : En → En → Prop} (hs : ∀ a b, R a b → R b a) {l : List En} (hr : Rising l) (h : l.Pairwise R) {k : ByteArray} {v : Hd} (hk : ∀ e ∈ l, e.1 ≠ k → R (k, v) e) : (setX l k v).Pairwise R := by
 induction l with
 | nil => exact List.pairwise_singleton _ _
 | cons x l ih =>
  have h' := List.pairwise_cons.1 h; have hr' := List.pairwise_cons.1 hr; unfold setX; split
  ·rename_i hlt; refine List.pairwise_cons.2 ⟨fun e he => ?_, ih hr'.2 h'.2 fun e he => hk e (by simp [he])⟩; rcases (setX_mem hr'.2 k v e).1 he with rfl | ⟨he, _⟩
   ·exact hs _ _ (hk x (by simp) (lt_ne hlt))
   ·exact h'.1 e he
  ·rename_i hnl; split
   ·rename_i heq; refine List.pairwise_cons.2 ⟨fun e he => hk e (by simp [he]) fun e' => ?_, h'.2⟩; have := hr'.1 e he; rw [heq, e', lt_irrefl] at this; cases this
   ·rename_i hne; refine List.pairwise_cons.2 ⟨fun e he => hk e he fun e' => ?_, h⟩; rcases List.mem_cons.1 he with rfl | he
    ·exact hne e'
    ·have h3 := hr'.1 e he; rw [e'] at h3; exact hnl h3
theorem pairwise_mem {R : En → En → Prop} (hs : ∀ a b, R a b → R b a) {l : List En} (h : l.Pairwise R) {a b : En} (ha : a ∈ l) (hb : b ∈ l) (hne : a ≠ b) : R a b := by
 induction l with
 | nil => cases ha
 | cons x l ih =>
  have h' := List.pairwise_cons.1 h; rcases List.mem_cons.1 ha with ha1 | ha1 <;> rcases List.mem_cons.1 hb with hb1 | hb1
  ·exact absurd (ha1.trans hb1.symm) hne
  ·rw [ha1]; exact h'.1 b hb1
  ·rw [hb1]; exact hs _ _ (h'.1 a ha1)
  ·exact ih h'.2 ha1 hb1
theorem got_row {F : Nat → Prop} {w : World} {p o : Nat} {t : TypeId} {m : List En} {mk : Sp} (h : StoX F w p o t m mk) (k : ByteArray) :
  ∃ ga n cap vs, hdv (getX m k) = .slice ga n cap ∧ w.ownsRow 0 97 6 (.slice ga n cap) n (flatV k vs) ∧ vs.length = n ∧ (getX (abs m) k).getD [] = vs ∧ (n = 0 ↔ getX m k = none) ∧
   (∀ b, (Value.slice ga n cap).ownBlock = some b → F b ∧ ∃ cs z, w.heap[b]? = some (.cells cs 97 z)) ∧ (∀ e ∈ m, e.1 ≠ k → (Value.slice ga n cap).ownBlock ≠ some e.2.g) := by
 cases hg : getX m k with
 | none =>
  refine ⟨none, 0, 0, [], rfl, World.ownsRow_nil _ _ _ _, rfl, by rw [abs_get, hg]; rfl, by simp, fun b hb => (by simp [Value.ownBlock] at hb), fun e _ _ hb => (by simp [Value.ownBlock] at hb)⟩
 | some hd =>
  have hm := (getX_some h.xi.rising).1 hg; have r := h.row _ hm; have hne := (h.good.chain (k, hd.vs) (List.mem_map.2 ⟨_, hm, rfl⟩)).1; refine ⟨some ⟨hd.g, 0, none⟩, hd.n, hd.cap, hd.vs, rfl, r.own, r.len, by rw [abs_get, hg]; rfl, ?_, fun b hb => ?_, fun e he hek hb => ?_⟩
  ·have := r.len; constructor
   ·intro h0; exact absurd (List.length_eq_zero_iff.1 (this.trans h0)) hne
   ·intro e; cases e
  ·have e : hd.g = b := by simpa [Value.ownBlock] using hb
   subst e; exact ⟨h.fr _ hm, r.block⟩
  ·have e' : hd.g = e.2.g := by simpa [Value.ownBlock] using hb
   exact pairwise_mem (R := fun x y => x.2.g ≠ y.2.g) (fun _ _ h => h.symm) h.apart hm he (fun e2 => hek (by rw [← e2])) e'
theorem type_ne {w : World} {a b : Nat} {cs ds : Array Value} {s t : TypeId} {y z : Nat × Nat} (ha : w.heap[a]? = some (.cells cs s y)) (hb : w.heap[b]? = some (.cells ds t z)) (h : s ≠ t) : a ≠ b := fun e => by
 subst e; rw [ha] at hb; cases hb; exact h rfl
theorem StoX.laid {F : Nat → Prop} {w w3 w4 : World} {p o : Nat} {t : TypeId} {m : List En} {mk : Sp} {k : ByteArray} {ga : Option Addr} {n cap : Nat} (h : StoX F w p o t m mk) (hd : Hd)
  (hob : ∀ b, (Value.slice ga n cap).ownBlock = some b → F b ∧ ∃ cs z, w.heap[b]? = some (.cells cs 97 z)) (hoo : ∀ e ∈ m, e.1 ≠ k → (Value.slice ga n cap).ownBlock ≠ some e.2.g)
  (row : Row w3 k hd) (hg : w.grownBy w3 (Value.slice ga n cap).ownBlock) (hat : (Value.slice ga n cap).ownBlock = some hd.g ∨ w.heap.size ≤ hd.g)
  (hx : Xi w4 p o (setX m k hd)) (ho : Onl (fun b => b = p) w3 w4) (hpt : Part p o 1 w3 w4) (good : Good (setX (abs m) k hd.vs)) :
  ∃ F', StoX F' w4 p o t (setX m k hd) mk ∧ (∀ b, F' b → F b ∨ w.heap.size ≤ b) ∧ Onl F w w4 ∧ Part p o 1 w w4 := by
 obtain ⟨cs, bp, x1, x2, x3⟩ := h.obj; have hn : ∀ (b : Nat) (cs : Array Value) (t : TypeId) (z : Nat × Nat), w.heap[b]? = some (Obj.cells cs t z) → t ≠ 97 → w3.heap[b]? = w.heap[b]? := fun b cs t z hb ht => hg.block b (Array.getElem?_eq_some_iff.1 hb).1 (fun e => by
  obtain ⟨_, cs', z', hb'⟩ := hob b e.symm; exact type_ne hb hb' ht rfl)
 have bp3 : w3.heap[p]? = some (.cells cs t (0, 0)) := (hn p _ _ _ bp h.ty.2).trans bp; obtain ⟨cs4, bp4, s4, e4⟩ := hpt cs t (0, 0) bp3; have keep3 : ∀ b, b < w3.heap.size → b ≠ p → w4.heap[b]? = w3.heap[b]? := fun b hb hne => ho.block b hb hne
 obtain ⟨gcs, gz, bg⟩ := row.block; have hgp : hd.g ≠ p := type_ne bg bp3 h.ty.2.symm; have row4 : Row w4 k hd := row.keep (keep3 _ row.lt hgp); have oth : ∀ e ∈ m, e.1 ≠ k → Row w4 e.1 e.2 ∧ (Value.slice ga n cap).ownBlock ≠ some e.2.g := fun e he hek => by
  have r := h.row e he; have hne := hoo e he hek; have r3 : Row w3 e.1 e.2 := r.keep (hg.block _ r.lt (fun e' => hne e'.symm)); obtain ⟨ecs, ez, be⟩ := r3.block; exact ⟨r3.keep (keep3 _ r3.lt (type_ne be bp3 h.ty.2.symm)), hne⟩
 have hon : Onl F w w4 := ((grown_onl hg).mono (fun b hb => (hob b hb).1)).trans (ho.mono (fun b hb => by subst hb; exact h.fp)); refine ⟨fun b => (F b ∧ (Value.slice ga n cap).ownBlock ≠ some b) ∨ b = hd.g, ⟨⟨cs4, bp4, by rw [e4 _ (by omega)]; exact x1, by rw [e4 _ (by omega)]; exact x2, by rw [e4 _ (by omega)]; exact x3⟩, h.ty, hx, ?_, ?_, by rw [abs_set]; exact good, ?_, ?_, ?_⟩, ?_, hon, (Part.same (hn p _ _ _ bp h.ty.2)).trans hpt⟩
 ·intro e he; rcases (setX_mem h.xi.rising k hd e).1 he with rfl | ⟨he, hek⟩
  ·exact row4
  ·exact (oth e he hek).1
 ·refine pairwise_set (fun _ _ h => h.symm) h.xi.rising h.apart fun e he hek e' => ?_
  rcases hat with hat | hat
  ·exact (oth e he hek).2 (by rw [hat]; exact congrArg _ e')
  ·have := (h.row e he).lt; have e2 : hd.g = e.2.g := e'; omega
 ·exact .inl ⟨h.fp, fun e => by obtain ⟨_, cs', z', hb'⟩ := hob p e; exact type_ne bp hb' h.ty.2 rfl⟩
 ·intro e he; rcases (setX_mem h.xi.rising k hd e).1 he with rfl | ⟨he, hek⟩
  ·exact .inr rfl
  ·exact .inl ⟨h.fr e he, (oth e he hek).2⟩
 ·rintro b (⟨hf, hb⟩ | rfl)
  ·by_cases hbX : b = p
   ·subst hbX; exact ⟨_, _, _, bp4, .inl rfl⟩
   ·obtain ⟨cs, t, z, hc, ht⟩ := h.own b hf; have h3 := (hg.block b (h.lt hf) (fun e => hb e.symm)).trans hc; exact ⟨cs, t, z, (keep3 b (Array.getElem?_eq_some_iff.1 h3).1 hbX).trans h3, ht⟩
  ·obtain ⟨cs, z, hc⟩ := row4.block; exact ⟨cs, _, z, hc, .inr rfl⟩
 ·rintro b (⟨hf, _⟩ | rfl)
  ·exact .inl hf
  ·rcases hat with hat | hat
   ·exact .inl (hob _ hat).1
   ·exact .inr hat
abbrev vv (k : ByteArray) (v : Ver) : Value := .agg #[.string k, .int .u64 v.s.a, .int .u32 v.s.b, .int .u32 v.s.c, .bool v.del, .string v.val]
abbrev vcs (k : ByteArray) (v : Ver) : Array Value := #[.string k, .int .u64 v.s.a, .int .u32 v.s.b, .int .u32 v.s.c, .bool v.del, .string v.val]
theorem infoVr : (Tryz.prog.info? 97).map (fun i => (i.zero, i.size, i.bytes)) = some (some (vv ⟨#[]⟩ ⟨⟨0, 0, 0⟩, false, ⟨#[]⟩⟩), 6, 56) := by kernel_rfl
theorem info_ofV {P : Program} {t : TypeId} {z : Value} {n m : Nat} (h : (P.info? t).map (fun i => (i.zero, i.size, i.bytes)) = some (some z, n, m)) : ∃ i, P.info? t = some i ∧ i.zero = some z ∧ i.size = n ∧ i.bytes = m := by
 obtain ⟨i, hi, he⟩ := Option.map_eq_some_iff.1 h; simp only [Prod.mk.injEq] at he; exact ⟨i, hi, he.1, he.2.1, he.2.2⟩
theorem count_mem {M : Mst} {e : ByteArray × Chain} (h : e ∈ M) : e.2.length ≤ countM M := by
 induction M with
 | nil => cases h
 | cons x M ih =>
  simp only [countM, List.map_cons, List.sum_cons]; rcases List.mem_cons.1 h with rfl | h
  ·omega
  ·have := ih h; unfold countM at this; omega
theorem count_keys {M : Mst} (h : Good M) : M.length ≤ countM M := by
 have hc := h.chain; clear h; induction M with
 | nil => simp [countM]
 | cons x M ih =>
  have h1 := ih fun e he => hc e (by simp [he])
  have h2 : 0 < x.2.length := List.length_pos_iff.2 (hc x (by simp)).1; simp only [countM, List.map_cons, List.sum_cons, List.length_cons] at h1 ⊢; omega
theorem ver_cells (w : World) (k : ByteArray) (v : Ver) : VerAt (w.alloc (.cells (vcs k v) 97)) w.heap.size 0 k v := by
 have h := World.alloc_heap_new w (.cells (vcs k v) 97); exact ⟨cell_of_obj h rfl, cell_of_obj h rfl, cell_of_obj h rfl, cell_of_obj h rfl, cell_of_obj h rfl, cell_of_obj h rfl⟩
theorem lit_cells (w : World) (k : ByteArray) (v : Ver) : ∀ j u, (vcs k v).toList[j]? = some u → (w.alloc (.cells (vcs k v) 97)).cell? ((⟨w.heap.size, 0, none⟩ : Addr).add j) = some u :=
 World.news_of_block (World.alloc_heap_new w (.cells (vcs k v) 97))
theorem lit_one (k : ByteArray) (v : Ver) : ∀ u ∈ (vcs k v).toList, u.oneCell' = true := fun u hu => by
 simp at hu; rcases hu with rfl | rfl | rfl | rfl | rfl | rfl <;> rfl
set_option maxRecDepth 16000 in
theorem addG_is {F : Nat → Prop} {w : World} {p o : Nat} {t : TypeId} {M : Mst} {mk : Sp} {k : ByteArray} {v : Ver} (h : StoG F w p o t M mk) (hov : Over M k v.s) (hn : (countM M + 1) * 64 ≤ 140737488355328) :
  Calls Tryz.prog 130 #[.pointer (some ⟨p, o, none⟩), vv k v] w fun e w' => (∃ v0, e = .returned v0) ∧ ∃ F', StoG F' w' p o t (addM M k v) mk ∧ (∀ b, F' b → F b ∨ w.heap.size ≤ b) ∧ Onl F w w' ∧ Part p o 1 w w' := by
 obtain ⟨m, h, rfl⟩ := h; have hb0 : Below w.heap.size w (w.alloc (.cells (vcs k v) 97)) := Below.al (Below.refl _ _) _; have hv0 := ver_cells w k v; obtain ⟨w0, hw0⟩ : ∃ w0, w0 = w.alloc (.cells (vcs k v) 97) := ⟨_, rfl⟩; rw [← hw0] at hb0 hv0; have h0 := h.later hb0; obtain ⟨ga, n, cap, vs, hgot, hrow, hlen, hvs, hn0, hob, hoo⟩ := got_row h k; have hnb : n ≤ countM (abs m) := by
  rw [← hlen, ← hvs]; cases hg : getX (abs m) k with
  | none => simp
  | some cs => exact count_mem ((getX_some h.good.rising).1 hg)
 have HG : Hid (∀ W, Below w0.heap.size w0 W → Calls Tryz.prog 129 #[.pointer (some ⟨p, o, none⟩), .string k] W fun e w' => e = .returned (.tuple #[.slice ga n cap, .bool (getX m k).isSome]) ∧ Below W.heap.size W w') := fun W hb =>
  (get_is (h0.xi.later hb) k).mono fun e w' ⟨he, hw⟩ => ⟨by rw [he, gotX, hgot], by rw [hw]; exact Below.refl _ _⟩
 have kv0 := cell_regrown hv0.c0; have H := hid h; have HV := hid hv0; have HR := hid hrow; have HB0 := hid hb0; clear hgot hrow hb0; go_enter Tryz.func130, Tryz.ntmps130
 go_wp2_with fail
 rw [← hw0]; clear hw0; refine wp_region_quiet_below (by kernel_rfl) (by kernel_rfl) ?_; repeat (go_big_quiet_step ((go_at_call 129; exact Calls.regrown_of (HG.out _ (below_regrown _ _ _)))))
 refine wpQuiet_nil ?_; intro w1 hw; replace hw := below_of_regrown hw; have hb1 : Below w.heap.size w w1 := Below.on HB0.out hw; have h1 := H.out.later hb1; have hv1 := HV.out.later hw; have d0 : w1.cell? ⟨w.heap.size, 0, none⟩ = some (.string k) := hv1.c0; have d1 : w1.cell? ⟨w.heap.size, 1, none⟩ = some (.int .u64 v.s.a) := hv1.c1; have d2 : w1.cell? ⟨w.heap.size, 2, none⟩ = some (.int .u32 v.s.b) := hv1.c2; have d3 : w1.cell? ⟨w.heap.size, 3, none⟩ = some (.int .u32 v.s.c) := hv1.c3; have d4 : w1.cell? ⟨w.heap.size, 4, none⟩ = some (.bool v.del) := hv1.c4; have d5 : w1.cell? ⟨w.heap.size, 5, none⟩ = some (.string v.val) := hv1.c5; obtain ⟨G, hG⟩ : ∃ G : Nat → Prop, G = fun b => (Value.slice ga n cap).ownBlock = some b := ⟨_, rfl⟩
 have hGF : ∀ b, G b → F b := fun b hb => by rw [hG] at hb; exact (hob b hb).1
 obtain ⟨pcs, hpb⟩ := h.blk; have hnp : ¬ G p := fun hb => by
  rw [hG] at hb; obtain ⟨_, cs, z, hc⟩ := hob p hb; exact type_ne hpb hc h.ty.2 rfl
 have hns : ¬ G w.heap.size := fun hb => Nat.lt_irrefl _ (h.lt (hGF _ hb))
 have HO : Hid (∀ W, Below w1.heap.size w1 W → W.ownsRow 0 97 6 (.slice ga n cap) n (flatV k vs)) := fun W hb => owns_keep HR.out fun g hg => (Below.on hb1 hb).block g (HR.out.lt g hg).2
 have HX : Hid (∀ W, Onl G w1 W → Xi W p o m) := fun W ho => h1.xi.keep (h1.kp (ho.mono hGF)) (ho.block p h1.xi.lt hnp)
 have HS : Hid (∀ W (hd : Hd), Onl G w1 W → _) := fun W hd ho => set_is (h1.xi.keep (h1.kp (ho.mono hGF)) (ho.block p h1.xi.lt hnp)) k hd (by have := count_keys h.good; rw [abs_len] at this; omega)
 have HL : Hid (∀ W w3 w4 (hd : Hd), Below w1.heap.size w1 W → Row w3 k hd → W.grownBy w3 (Value.slice ga n cap).ownBlock → ((Value.slice ga n cap).ownBlock = some hd.g ∨ W.heap.size ≤ hd.g) → Xi w4 p o (setX m k hd) → Onl (fun b => b = p) w3 w4 → Part p o 1 w3 w4 → hd.vs = vs ++ [v] →
   ∃ F', StoG F' w4 p o t (addM (abs m) k v) mk ∧ (∀ b, F' b → F b ∨ w.heap.size ≤ b) ∧ Onl F w w4 ∧ Part p o 1 w w4) := fun W w3 w4 hd hb row hg hat hx ho hpt hvs' => by
  have hbW := Below.on hb1 hb; have hW := H.out.later hbW; have good : Good (setX (abs m) k hd.vs) := by rw [hvs', ← hvs]; exact h.good.add hov
  obtain ⟨F', f1, f2, f3, f4⟩ := hW.laid hd (fun b hb' => ⟨(hob b hb').1, by obtain ⟨_, cs, z, hc⟩ := hob b hb'; exact ⟨cs, z, (hbW.block b (h.lt (hob b hb').1)).trans hc⟩⟩) hoo row hg hat hx ho hpt good; refine ⟨F', ⟨_, f1, by rw [abs_set, hvs', addM, hvs]⟩, fun b hb' => (f2 b hb').imp id (fun h => Nat.le_trans hbW.size h), (Onl.of_below hbW).trans f3, (Part.below hbW).trans f4⟩
 obtain ⟨G2, hG2⟩ : ∃ G2 : Nat → Prop, G2 = fun b => G b ∨ b = p := ⟨_, rfl⟩
 have HNX : Hid (¬ G2 w.heap.size) := by
  rw [hG2]; exact fun hb => hb.elim hns (fun e => Nat.lt_irrefl _ (e ▸ h.xi.lt))
 have HM : Hid ((∀ A B, Onl G A B → Onl G2 A B) ∧ ∀ A B, Onl (fun b => b = p) A B → Onl G2 A B) := by
  rw [hG2]; exact ⟨fun A B h => h.mono fun b => .inl, fun A B h => h.mono fun b => .inr⟩
 have HGG := hid hG; have HN3 : Hid (n + 1 ≤ maxLen) := by show _ ≤ _; unfold maxLen; omega
 have HN4 : Hid ((n + 1) * 56 ≤ 140737488355328) := by show _ ≤ _; omega
 have HLEN := hid hlen; obtain ⟨i0, hi, hz0, hz1, hz2⟩ := info_ofV infoVr; clear hv1 hv0 h0 h1 hob hoo hn0 hvs hlen hnb hn hov h kv0 HG hG hGF hnp hns hw HV HR HB0 hG2 hpb; go_wp2_with fail
 go_region_held3 (fun w' => w'.cell? ⟨w.heap.size, 0, none⟩ = some (.string k) ∧ w'.cell? ⟨w.heap.size, 1, none⟩ = some (.int .u64 v.s.a) ∧ w'.cell? ⟨w.heap.size, 2, none⟩ = some (.int .u32 v.s.b) ∧ w'.cell? ⟨w.heap.size, 3, none⟩ = some (.int .u32 v.s.c) ∧ w'.cell? ⟨w.heap.size, 4, none⟩ = some (.bool v.del) ∧ w'.cell? ⟨w.heap.size, 5, none⟩ = some (.string v.val) ∧ Onl G2 w1 w')
  ((refine (fun (hO : Onl G2 w1 _) => ⟨hO.cell HNX.out d0, hO.cell HNX.out d1, hO.cell HNX.out d2, hO.cell HNX.out d3, hO.cell HNX.out d4, hO.cell HNX.out d5, hO⟩) ?_; (repeat (first | exact Onl.refl _ _ | assumption | refine Onl.drew ?_ | refine Onl.al ?_ _))))
  (first
   | (go_at_call 137; refine (HS.out w3 ⟨g, n + 1, cap', vs ++ [v]⟩ hO3).mono ?_; rintro e w4 ⟨rfl, hx, ho4, hp4⟩; have hO4 : Onl G2 w1 w4 := hO3'.trans (HM.out.2 _ _ ho4))
   | (refine step_append_lies _ (by rfl) _ _ 167 (by rfl) 0 97 i0 (vv ⟨#[]⟩ ⟨⟨0, 0, 0⟩, false, ⟨#[]⟩⟩) 6 56 Tryz.underlying167 hi hz0 hz1 hz2 rfl (by decide) (.slice ga n cap) n (flatV k vs) (by simp [Act.eval]) (HO.out _ (by (repeat (first | exact Below.refl _ _ | assumption | refine Below.drew ?_ | refine Below.al ?_ _ | refine Below.setCell ?_ (by first | exact Nat.le_refl _ | (simp; omega) | (simp; done)) _ | refine Below.on ?_ (by assumption))))) ⟨w1.heap.size, 0, none⟩ 1 1 (vcs k v).toList (by simp [Act.eval]) rfl (lit_cells _ k v) (lit_one k v) (by decide) HN3.out HN4.out (Nat.zero_le _) _ rfl ?_; intro g cap' w3 hown hgrow hat hlt3; have hO3 : Onl G w1 w3 := (by rw [HGG.out]; exact (Onl.of_below (by (repeat (first | exact Below.refl _ _ | assumption | refine Below.drew ?_ | refine Below.al ?_ _ | refine Below.setCell ?_ (by first | exact Nat.le_refl _ | (simp; omega) | (simp; done)) _ | refine Below.on ?_ (by assumption))))).trans (grown_onl hgrow)); have hO3' : Onl G2 w1 w3 := HM.out.1 _ _ hO3))
 go_end0
 refine ⟨⟨_, rfl⟩, HL.out _ w3 w4 ⟨g, n + 1, cap', vs ++ [v]⟩ (by (repeat (first | exact Below.refl _ _ | assumption | refine Below.drew ?_ | refine Below.al ?_ _ | refine Below.setCell ?_ (by first | exact Nat.le_refl _ | (simp; omega) | (simp; done)) _ | refine Below.on ?_ (by assumption)))) ⟨?_, ?_⟩ hgrow (hat.imp id fun e => by rw [e]; exact Nat.le_refl _) hx ho4 hp4 rfl⟩
 ·show w3.ownsRow 0 _ 6 _ (n + 1) (flatV k (vs ++ [v])); rw [flatV_snoc]; exact hown
 ·show (vs ++ [v]).length = n + 1; rw [List.length_append, HLEN.out]; rfl
end Go.Proofs.YtneojeidpfjpbaaGreatDoor.Vs
