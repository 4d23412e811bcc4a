import Derived.Test.YtogjhpknlopajaaXRef
/- The document's Decide. -/
namespace Go.Proofs.Ytogjhpknlopajaa.Lg
open Go.RowKit Go.Sort Go.Shelf Go.Lib Lk
set_option linter.unusedVariables false

theorem lit7 (w : World) (u : En) : ∀ j x, (ecs u)[j]? = some x → (w.alloc (.cells #[.int .u32 u.id.1, .int .u32 u.id.2, .int .u32 u.home, .int .i64 u.oc, .int .u64 u.w, .int .u32 u.l, .int .u32 u.n] 33)).cell? ((⟨w.heap.size, 0, none⟩ : Addr).add j) = some x := fun j x hj => by
  rw [Addr.add_lit, Nat.zero_add]
  exact cell_of_obj (MapKept.heap_alloc _ _).1 (by simpa using hj)
theorem lit7d (w : World) (u : En) : ∀ j x, (ecs u)[j]? = some x → (w.alloc (.cells #[.int .u32 u.id.1, .int .u32 u.id.2, .int .u32 u.home, .int .i64 u.oc, .int .u64 u.w, .int .u32 u.l, .int .u32 u.n] 33)).drew.cell? ((⟨w.heap.size, 0, none⟩ : Addr).add j) = some x := lit7 w u
theorem rl_more {w w4 : World} {q n c g cap : Nat} {a : Option Addr} {M : List En} {e : En} (T : Rl w q a n c M) (ho : Onl (fun b => (Value.slice a n c).ownBlock = some b) w w4) (hown : w4.ownsRow 0 33 7 (.slice (some ⟨g, 0, none⟩) (n + 1) cap) (n + 1) (M.flatMap ecs ++ ecs e)) :
    Rl (w4.setCell ⟨q, 0, none⟩ (.slice (some ⟨g, 0, none⟩) (n + 1) cap)) q (some ⟨g, 0, none⟩) (n + 1) cap (M ++ [e]) := by
  have hk4 := (ho.block q T.lt T.ne).trans T.blk
  refine ⟨?_, ?_, by rw [List.length_append, T.len]; rfl⟩
  · have := heap_setCell_same w4 q 0 _ _ (.slice (some ⟨g, 0, none⟩) (n + 1) cap) hk4
    simpa using this
  · have e1 : OwnL 0 w4 (.slice (some ⟨g, 0, none⟩) (n + 1) cap) (n + 1) (M ++ [e]) := by unfold OwnL; rw [List.flatMap_append]; simpa using hown
    refine owns_onl e1 (Onl.set (F := fun b => b = q) (Onl.refl _ _) rfl _ _) (fun b hb k => ?_)
    subst k
    obtain ⟨cur, hc⟩ := own_type e1 hb
    rw [hk4] at hc
    injection hc with hc
    injection hc with _ hc
    revert hc; decide
theorem rl_its {q n c g cap n1 H B : Nat} {a : Option Addr} {b : Nat} (hb : RItL q (some ⟨g, 0, none⟩) n1 cap b) (hat : (Value.slice a n c).ownBlock = some g ∨ g = H) (hH : B ≤ H) : RItL q a n c b ∨ B ≤ b := by
  rcases hb with rfl | e
  · exact .inl (.inl rfl)
  · have e' : g = b := by simpa [Value.ownBlock] using e
    subst e'
    rcases hat with h | h
    · exact .inl (.inr h)
    · exact .inr (by omega)
set_option maxRecDepth 8000 in
set_option maxHeartbeats 4000000 in
theorem rdecide_is {w : World} {q n c : Nat} {a : Option Addr} {M : List En} (T : Rl w q a n c M) (e : En) (hn : n + 1 ≤ 3518437208883) :
    Calls Try.prog 59 #[.pointer (some ⟨q, 0, none⟩), .agg #[.int .u32 e.id.1, .int .u32 e.id.2, .int .u32 e.home, .int .i64 e.oc, .int .u64 e.w, .int .u32 e.l, .int .u32 e.n]] w fun r w' => ∃ (a' : Option Addr) (n' c' : Nat) (f : En) (x : Int), r = .returned (.tuple #[.agg #[.int .u32 f.id.1, .int .u32 f.id.2, .int .u32 f.home, .int .i64 f.oc, .int .u64 f.w, .int .u32 f.l, .int .u32 f.n], .int .i64 x]) ∧
      Hid (f = decE M e) ∧ Hid (x = decX M e) ∧ Hid (Rl w' q a' n' c' (decM M e)) ∧ Hid (∀ b, RItL q a' n' c' b → RItL q a n c b ∨ w.heap.size ≤ b) ∧ Hid (Onl (RItL q a n c) w w') := by
  obtain ⟨wx, hwx⟩ : ∃ wx, wx = (w.alloc (.cells #[.int .u32 e.id.1, .int .u32 e.id.2, .int .u32 e.home, .int .i64 e.oc, .int .u64 e.w, .int .u32 e.l, .int .u32 e.n] 33)).alloc (.cells #[.int .u32 0, .int .u32 0, .int .u32 0, .int .i64 0, .int .u64 0, .int .u32 0, .int .u32 0] 33) := ⟨_, rfl⟩
  have hbx : Below w.heap.size w wx := by rw [hwx]; exact Below.al (Below.al (Below.refl _ _) _) _
  have hblk : wx.heap[w.heap.size]? = some (.cells #[.int .u32 e.id.1, .int .u32 e.id.2, .int .u32 e.home, .int .i64 e.oc, .int .u64 e.w, .int .u32 e.l, .int .u32 e.n] 33) := by
    rw [hwx, (MapKept.heap_alloc _ _).2 _ (by simp)]; exact (MapKept.heap_alloc _ _).1
  have hz : wx.heap[w.heap.size + 1]? = some (.cells #[.int .u32 0, .int .u32 0, .int .u32 0, .int .i64 0, .int .u64 0, .int .u32 0, .int .u32 0] 33) := by
    rw [hwx, show w.heap.size + 1 = (w.alloc (.cells #[.int .u32 e.id.1, .int .u32 e.id.2, .int .u32 e.home, .int .i64 e.oc, .int .u64 e.w, .int .u32 e.l, .int .u32 e.n] 33)).heap.size by simp]
    exact (MapKept.heap_alloc _ _).1
  have x0 : ((w.alloc (.cells #[.int .u32 e.id.1, .int .u32 e.id.2, .int .u32 e.home, .int .i64 e.oc, .int .u64 e.w, .int .u32 e.l, .int .u32 e.n] 33)).alloc (.cells #[.int .u32 0, .int .u32 0, .int .u32 0, .int .i64 0, .int .u64 0, .int .u32 0, .int .u32 0] 33)).cell? ⟨w.heap.size, 0, none⟩ = some (.int .u32 e.id.1) := by rw [← hwx]; exact cell_of_obj hblk rfl
  have x1 : ((w.alloc (.cells #[.int .u32 e.id.1, .int .u32 e.id.2, .int .u32 e.home, .int .i64 e.oc, .int .u64 e.w, .int .u32 e.l, .int .u32 e.n] 33)).alloc (.cells #[.int .u32 0, .int .u32 0, .int .u32 0, .int .i64 0, .int .u64 0, .int .u32 0, .int .u32 0] 33)).cell? ⟨w.heap.size, 1, none⟩ = some (.int .u32 e.id.2) := by rw [← hwx]; exact cell_of_obj hblk rfl
  have x2 : ((w.alloc (.cells #[.int .u32 e.id.1, .int .u32 e.id.2, .int .u32 e.home, .int .i64 e.oc, .int .u64 e.w, .int .u32 e.l, .int .u32 e.n] 33)).alloc (.cells #[.int .u32 0, .int .u32 0, .int .u32 0, .int .i64 0, .int .u64 0, .int .u32 0, .int .u32 0] 33)).cell? ⟨w.heap.size, 2, none⟩ = some (.int .u32 e.home) := by rw [← hwx]; exact cell_of_obj hblk rfl
  have x3 : ((w.alloc (.cells #[.int .u32 e.id.1, .int .u32 e.id.2, .int .u32 e.home, .int .i64 e.oc, .int .u64 e.w, .int .u32 e.l, .int .u32 e.n] 33)).alloc (.cells #[.int .u32 0, .int .u32 0, .int .u32 0, .int .i64 0, .int .u64 0, .int .u32 0, .int .u32 0] 33)).cell? ⟨w.heap.size, 3, none⟩ = some (.int .i64 e.oc) := by rw [← hwx]; exact cell_of_obj hblk rfl
  have x4 : ((w.alloc (.cells #[.int .u32 e.id.1, .int .u32 e.id.2, .int .u32 e.home, .int .i64 e.oc, .int .u64 e.w, .int .u32 e.l, .int .u32 e.n] 33)).alloc (.cells #[.int .u32 0, .int .u32 0, .int .u32 0, .int .i64 0, .int .u64 0, .int .u32 0, .int .u32 0] 33)).cell? ⟨w.heap.size, 4, none⟩ = some (.int .u64 e.w) := by rw [← hwx]; exact cell_of_obj hblk rfl
  have x5 : ((w.alloc (.cells #[.int .u32 e.id.1, .int .u32 e.id.2, .int .u32 e.home, .int .i64 e.oc, .int .u64 e.w, .int .u32 e.l, .int .u32 e.n] 33)).alloc (.cells #[.int .u32 0, .int .u32 0, .int .u32 0, .int .i64 0, .int .u64 0, .int .u32 0, .int .u32 0] 33)).cell? ⟨w.heap.size, 5, none⟩ = some (.int .u32 e.l) := by rw [← hwx]; exact cell_of_obj hblk rfl
  have x6 : ((w.alloc (.cells #[.int .u32 e.id.1, .int .u32 e.id.2, .int .u32 e.home, .int .i64 e.oc, .int .u64 e.w, .int .u32 e.l, .int .u32 e.n] 33)).alloc (.cells #[.int .u32 0, .int .u32 0, .int .u32 0, .int .i64 0, .int .u64 0, .int .u32 0, .int .u32 0] 33)).cell? ⟨w.heap.size, 6, none⟩ = some (.int .u32 e.n) := by rw [← hwx]; exact cell_of_obj hblk rfl
  obtain ⟨u, hu⟩ : ∃ u, mayB e = u := ⟨_, rfl⟩
  have MAY := hid (fun W => refmay_is hu W)
  have HU := hid hu
  have HT := hid T
  have HBX := hid hbx
  have HZ := hid hz
  have HK := hid hblk
  have HKB : Hid (∀ W, W.heap[w.heap.size]? = wx.heap[w.heap.size]? → BoxE W w.heap.size e) := fun W hW => by
    have h := hW.trans hblk
    exact ⟨cell_of_obj h rfl, cell_of_obj h rfl, cell_of_obj h rfl, cell_of_obj h rfl, cell_of_obj h rfl, cell_of_obj h rfl, cell_of_obj h rfl⟩
  have hsx : w.heap.size + 1 < wx.heap.size := by rw [hwx]; simp
  clear T hbx hz hblk hu
  go_enter Try.func59, Try.ntmps59
  cases u with
  | false =>
    have H0 : Hid (decE M e = En.zero ∧ decX M e = 1 ∧ decM M e = M) := by
      have := HU.out
      exact ⟨by simp [decE, this], by simp [decX, this], by simp [decM, this]⟩
    go_wp2_with (go_at_call 31; refine (MAY.out _).mono ?_; rintro r w1 ⟨rfl, hb1⟩; rw [← hwx] at hb1; have hz3 := (hb1.block _ hsx).trans HZ.out; have f3 : ∀ o, w1.frozen? ⟨w.heap.size + 1, o, none⟩ = false := (fun o => by simp [World.frozen?, hz3]); have HH := hid hz3; have r0 : w1.cell? ⟨w.heap.size + 1, 0, none⟩ = some (.int .u32 0) := cell_of_obj hz3 rfl; have r1 : w1.cell? ⟨w.heap.size + 1, 1, none⟩ = some (.int .u32 0) := cell_of_obj hz3 rfl; have r2 : w1.cell? ⟨w.heap.size + 1, 2, none⟩ = some (.int .u32 0) := cell_of_obj hz3 rfl; have r3 : w1.cell? ⟨w.heap.size + 1, 3, none⟩ = some (.int .i64 0) := cell_of_obj hz3 rfl; have r4 : w1.cell? ⟨w.heap.size + 1, 4, none⟩ = some (.int .u64 0) := cell_of_obj hz3 rfl; have r5 : w1.cell? ⟨w.heap.size + 1, 5, none⟩ = some (.int .u32 0) := cell_of_obj hz3 rfl; have r6 : w1.cell? ⟨w.heap.size + 1, 6, none⟩ = some (.int .u32 0) := cell_of_obj hz3 rfl; have HB1 := hid hb1; clear hz3 hb1 x0 x1 x2 x3 x4 x5 x6)
    go_wp2_with fail
    obtain ⟨w8, hw8⟩ : ∃ w8, w8 = (((((((w1).setCell ⟨w.heap.size + 1, 0, none⟩ (.int .u32 0)).setCell ⟨w.heap.size + 1, 1, none⟩ (.int .u32 0)).setCell ⟨w.heap.size + 1, 2, none⟩ (.int .u32 0)).setCell ⟨w.heap.size + 1, 3, none⟩ (.int .i64 0)).setCell ⟨w.heap.size + 1, 4, none⟩ (.int .u64 0)).setCell ⟨w.heap.size + 1, 5, none⟩ (.int .u32 0)).setCell ⟨w.heap.size + 1, 6, none⟩ (.int .u32 0) := ⟨_, rfl⟩
    obtain ⟨hk8, ho8, hs8⟩ := stored (z := En.zero) (u := En.zero) HH.out hw8
    rw [← hw8]
    clear hw8
    have t0 : w8.cell? ⟨w.heap.size + 1, 0, none⟩ = some (.int .u32 0) := cell_of_obj hk8 rfl
    have t1 : w8.cell? ⟨w.heap.size + 1, 1, none⟩ = some (.int .u32 0) := cell_of_obj hk8 rfl
    have t2 : w8.cell? ⟨w.heap.size + 1, 2, none⟩ = some (.int .u32 0) := cell_of_obj hk8 rfl
    have t3 : w8.cell? ⟨w.heap.size + 1, 3, none⟩ = some (.int .i64 0) := cell_of_obj hk8 rfl
    have t4 : w8.cell? ⟨w.heap.size + 1, 4, none⟩ = some (.int .u64 0) := cell_of_obj hk8 rfl
    have t5 : w8.cell? ⟨w.heap.size + 1, 5, none⟩ = some (.int .u32 0) := cell_of_obj hk8 rfl
    have t6 : w8.cell? ⟨w.heap.size + 1, 6, none⟩ = some (.int .u32 0) := cell_of_obj hk8 rfl
    have HOL : Hid (Onl (fun b => b = w.heap.size + 1) w1 w8) := ho8
    clear ho8
    refine bodyPost_ret (v := .tuple #[.agg #[.int .u32 0, .int .u32 0, .int .u32 0, .int .i64 0, .int .u64 0, .int .u32 0, .int .u32 0], .int .i64 1]) (by simp [results, Try.results59, go_sem, t0, t1, t2, t3, t4, t5, t6]) rfl ?_
    have hb8 : Below w.heap.size w w8 := (Below.on HBX.out HB1.out).trans (HOL.out.below (B := w.heap.size) (fun k hk => by omega) (Below.on HBX.out HB1.out).size)
    exact ⟨a, n, c, En.zero, 1, rfl, H0.out.1.symm, H0.out.2.1.symm, by rw [H0.out.2.2]; exact HT.out.later hb8, fun b hb => .inl hb, Onl.of_below hb8⟩
  | true =>
    go_wp2_with (go_at_call 31; refine (MAY.out _).mono ?_; rintro r w1 ⟨rfl, hb1⟩; rw [← hwx] at hb1; have HB1 := hid hb1; obtain ⟨p0, p1, p2, p3, p4, p5, p6⟩ := HKB.out w1 (hb1.block _ (by omega)); clear hb1 x0 x1 x2 x3 x4 x5 x6)
    have HB01 : Hid (Below w.heap.size w w1) := Below.on HBX.out HB1.out
    have OUT := hid (routcome_is (HT.out.later HB01.out) e.id)
    refine OUT.out.mono ?_
    rintro r w2 ⟨f, ok, rfl, H1, H2, H3⟩
    have HB2 : Hid (Below wx.heap.size wx w2) := Below.on HB1.out H3.out
    have HB02 : Hid (Below w.heap.size w w2) := Below.on HBX.out HB2.out
    clear OUT p0 p1 p2 p3 p4 p5 p6 hwx
    cases ok with
    | false =>
      have hno : outM M e.id = none := by
        have := H1.out
        cases ho : outM M e.id with
        | none => rfl
        | some g => rw [ho] at this; cases this
      have H0 : Hid (decE M e = e ∧ decX M e = 0 ∧ decM M e = M ++ [e]) := by
        have := HU.out
        exact ⟨by simp [decE, this, hno], by simp [decX, this, hno, agrB_self], by simp [decM, this, hno]⟩
      obtain ⟨i0, hi, hz0, hz1, hz2⟩ := info_of infoEn
      clear H1 H2 hno
      go_upto_region 6 with fail
      obtain ⟨w3, hw3⟩ : ∃ w3, w3 = w2.alloc (.cells #[.int .u32 f.id.1, .int .u32 f.id.2, .int .u32 f.home, .int .i64 f.oc, .int .u64 f.w, .int .u32 f.l, .int .u32 f.n] 33) := ⟨_, rfl⟩
      have hb3 : Below w2.heap.size w2 w3 := by rw [hw3]; exact Below.al (Below.refl _ _) _
      rw [← hw3]
      clear hw3
      have HB3 : Hid (Below wx.heap.size wx w3) := Below.on HB2.out hb3
      have HB03 : Hid (Below w.heap.size w w3) := Below.on HBX.out HB3.out
      have T3 := HT.out.later HB03.out
      have c0 := T3.c0
      obtain ⟨z0, z1, z2, z3, z4, z5, z6⟩ := HKB.out w3 (HB3.out.block _ (by omega))
      have HT3 := hid T3
      have hlt3 := T3.lt
      have HGq := hid T3.ne
      have HFZ := hid T3.loose
      have HN3 : Hid (n + 1 ≤ maxLen) := by show _ ≤ _; unfold maxLen; omega
      have HN4 : Hid ((n + 1) * 40 ≤ 140737488355328) := by show _ ≤ _; omega
      have HOW : Hid (∀ W, Below w3.heap.size w3 W → W.ownsRow 0 33 7 (.slice a n c) n (M.flatMap ecs)) := fun W hb => owns_keep HT3.out.own fun g hg => hb.block g (HT3.out.own.lt g hg).2
      clear hb3 T3
      go_cut [] (fun wE => ∃ (a' : Option Addr) (n' c' : Nat), Hid (Rl wE q a' n' c' (M ++ [e])) ∧ Hid (∀ b, RItL q a' n' c' b → RItL q a n c b ∨ w3.heap.size ≤ b) ∧ Hid (Onl (RItL q a n c) w3 wE))
      case first =>
       go_region_law ((refine step_append_lies _ (by rfl) _ _ 22 (by rfl) 0 33 i0 (En.val En.zero) 7 40 Try.underlying22 hi hz0 hz1 hz2 rfl (by decide) (.slice a n c) n (M.flatMap ecs) (by simp [Act.eval]) (HOW.out _ (by (repeat (first | with_reducible exact Below.refl _ _ | with_reducible assumption | with_reducible refine Below.drew ?_ | with_reducible refine Below.al ?_ _ | with_reducible refine Below.setCell ?_ (by first | exact Nat.le_refl _ | (simp; omega) | (simp; done)) _ | with_reducible refine Below.on ?_ (by assumption))))) ⟨w3.heap.size, 0, none⟩ 1 1 (ecs e) (by simp [Act.eval]) rfl (by first | exact lit7 _ e | exact lit7d _ e) (ecs_one e) (by decide) HN3.out HN4.out (Nat.zero_le _) _ rfl ?_; intro g cap w4 hown hgrow hat hlt4; have hO4' : Onl (fun b => (Value.slice a n c).ownBlock = some b) w3 w4 := (Onl.of_below (by (repeat (first | with_reducible exact Below.refl _ _ | with_reducible assumption | with_reducible refine Below.drew ?_ | with_reducible refine Below.al ?_ _ | with_reducible refine Below.setCell ?_ (by first | exact Nat.le_refl _ | (simp; omega) | (simp; done)) _ | with_reducible refine Below.on ?_ (by assumption))))).trans (grown_onl hgrow); have k4 := hO4'.cell HGq.out c0; have f4 : ∀ o, w4.frozen? ⟨q, o, none⟩ = false := hO4'.loose HGq.out hlt3 HFZ.out; have HGR := hid hgrow; have HOWN := hid hown; have HAT := hid hat; have HO4 := hid hO4'; clear hown hgrow hat hO4'))
       all_goals (try go_wp2_with fail)
       all_goals go_meet
       all_goals refine ⟨some ⟨g, 0, none⟩, n + 1, cap, hid ?_, hid ?_, hid ?_⟩
       all_goals first
         | exact rl_more HT3.out HO4.out HOWN.out
         | exact fun b hb => rl_its hb HAT.out (by simp)
         | exact Onl.set (HO4.out.mono fun k hk => .inr hk) (.inl rfl) _ _
      case rest =>
        obtain ⟨a', n', c', HRE, HIE, HOE⟩ := hcut
        rename World => wE
        clear c0 z0 z1 z2 z3 z4 z5 z6
        have nb0 : ¬ RItL q a n c w.heap.size := fun k => by have := HT.out.its_lt k; omega
        have nb1 : ¬ RItL q a n c (w.heap.size + 1) := fun k => by have := HT.out.its_lt k; omega
        have hsz3 : wx.heap.size ≤ w3.heap.size := HB3.out.size
        obtain ⟨z0, z1, z2, z3, z4, z5, z6⟩ := HKB.out wE ((HOE.out.block _ (by omega) nb0).trans (HB3.out.block _ (by omega)))
        have hz3 : wE.heap[w.heap.size + 1]? = some (.cells #[.int .u32 0, .int .u32 0, .int .u32 0, .int .i64 0, .int .u64 0, .int .u32 0, .int .u32 0] 33) := (HOE.out.block _ (by omega) nb1).trans ((HB3.out.block _ hsx).trans HZ.out)
        have f3 : ∀ o, wE.frozen? ⟨w.heap.size + 1, o, none⟩ = false := fun o => by simp [World.frozen?, hz3]
        have HH := hid hz3
        have r0 : wE.cell? ⟨w.heap.size + 1, 0, none⟩ = some (.int .u32 0) := cell_of_obj hz3 rfl
        have r1 : wE.cell? ⟨w.heap.size + 1, 1, none⟩ = some (.int .u32 0) := cell_of_obj hz3 rfl
        have r2 : wE.cell? ⟨w.heap.size + 1, 2, none⟩ = some (.int .u32 0) := cell_of_obj hz3 rfl
        have r3 : wE.cell? ⟨w.heap.size + 1, 3, none⟩ = some (.int .i64 0) := cell_of_obj hz3 rfl
        have r4 : wE.cell? ⟨w.heap.size + 1, 4, none⟩ = some (.int .u64 0) := cell_of_obj hz3 rfl
        have r5 : wE.cell? ⟨w.heap.size + 1, 5, none⟩ = some (.int .u32 0) := cell_of_obj hz3 rfl
        have r6 : wE.cell? ⟨w.heap.size + 1, 6, none⟩ = some (.int .u32 0) := cell_of_obj hz3 rfl
        clear hz3
        go_wp2_with fail
        obtain ⟨w8, hw8⟩ : ∃ w8, w8 = (((((((wE).setCell ⟨w.heap.size + 1, 0, none⟩ (.int .u32 e.id.1)).setCell ⟨w.heap.size + 1, 1, none⟩ (.int .u32 e.id.2)).setCell ⟨w.heap.size + 1, 2, none⟩ (.int .u32 e.home)).setCell ⟨w.heap.size + 1, 3, none⟩ (.int .i64 e.oc)).setCell ⟨w.heap.size + 1, 4, none⟩ (.int .u64 e.w)).setCell ⟨w.heap.size + 1, 5, none⟩ (.int .u32 e.l)).setCell ⟨w.heap.size + 1, 6, none⟩ (.int .u32 e.n) := ⟨_, rfl⟩
        obtain ⟨hk8, ho8, hs8⟩ := stored (z := En.zero) (u := e) HH.out hw8
        rw [← hw8]
        clear hw8
        have t0 : w8.cell? ⟨w.heap.size + 1, 0, none⟩ = some (.int .u32 e.id.1) := cell_of_obj hk8 rfl
        have t1 : w8.cell? ⟨w.heap.size + 1, 1, none⟩ = some (.int .u32 e.id.2) := cell_of_obj hk8 rfl
        have t2 : w8.cell? ⟨w.heap.size + 1, 2, none⟩ = some (.int .u32 e.home) := cell_of_obj hk8 rfl
        have t3 : w8.cell? ⟨w.heap.size + 1, 3, none⟩ = some (.int .i64 e.oc) := cell_of_obj hk8 rfl
        have t4 : w8.cell? ⟨w.heap.size + 1, 4, none⟩ = some (.int .u64 e.w) := cell_of_obj hk8 rfl
        have t5 : w8.cell? ⟨w.heap.size + 1, 5, none⟩ = some (.int .u32 e.l) := cell_of_obj hk8 rfl
        have t6 : w8.cell? ⟨w.heap.size + 1, 6, none⟩ = some (.int .u32 e.n) := cell_of_obj hk8 rfl
        have HOL : Hid (Onl (fun b => b = w.heap.size + 1) wE w8) := ho8
        clear ho8
        refine bodyPost_ret (v := .tuple #[.agg #[.int .u32 e.id.1, .int .u32 e.id.2, .int .u32 e.home, .int .i64 e.oc, .int .u64 e.w, .int .u32 e.l, .int .u32 e.n], .int .i64 0]) (by simp [results, Try.results59, go_sem, t0, t1, t2, t3, t4, t5, t6]) rfl ?_
        have HOw : Onl (RItL q a n c) w wE := (Onl.of_below HB03.out).trans HOE.out
        have hq1 : ∀ b, RItL q a' n' c' b → ¬ b = w.heap.size + 1 := fun b hb k => by
          rcases HIE.out b hb with h | h
          · exact nb1 (k ▸ h)
          · omega
        refine ⟨a', n', c', e, 0, rfl, H0.out.1.symm, H0.out.2.1.symm, by rw [H0.out.2.2]; exact HRE.out.onl HOL.out hq1, fun b hb => ?_, HOw.fresh HOL.out (fun i hi => .inr (by omega))⟩
        rcases HIE.out b hb with h | h
        · exact .inl h
        · exact .inr (by have := HBX.out.size; omega)
    | true =>
      obtain ⟨g, ho⟩ : ∃ g, outM M e.id = some g := by
        have := H1.out
        cases ho : outM M e.id with
        | none => rw [ho] at this; cases this
        | some g => exact ⟨g, rfl⟩
      obtain ⟨z, hz⟩ : ∃ z, agrB e f = z := ⟨_, rfl⟩
      have hfg : f = g := by have := H2.out; rw [ho] at this; exact this
      have H0 : Hid (decE M e = f ∧ decX M e = (if z then 0 else 110) ∧ decM M e = M) := by
        have := HU.out
        refine ⟨by simp [decE, this, ho, hfg], ?_, by simp [decM, this, ho]⟩
        simp only [decX, this, ho, Option.getD_some, ← hfg, hz, if_true]
      have AGR := hid (fun W => refagree_is hz W)
      have HFin : Hid (∀ w8, Below w.heap.size w w8 → Rl w8 q a n c (decM M e) ∧ Onl (RItL q a n c) w w8) := fun w8 hb8 => ⟨by rw [H0.out.2.2]; exact HT.out.later hb8, Onl.of_below hb8⟩
      obtain ⟨w3, hw3⟩ : ∃ w3, w3 = w2.alloc (.cells #[.int .u32 f.id.1, .int .u32 f.id.2, .int .u32 f.home, .int .i64 f.oc, .int .u64 f.w, .int .u32 f.l, .int .u32 f.n] 33) := ⟨_, rfl⟩
      have hb3 : Below w2.heap.size w2 w3 := by rw [hw3]; exact Below.al (Below.refl _ _) _
      have HB3 : Hid (Below wx.heap.size wx w3) := Below.on HB2.out hb3
      have HB03 : Hid (Below w.heap.size w w3) := Below.on HBX.out HB3.out
      have bF : BoxE w3 w2.heap.size f := by rw [hw3]; exact box_new _ _
      have HBF := hid bF
      have bE := HKB.out w3 (HB3.out.block _ (by omega))
      rw [hw3] at bE bF
      obtain ⟨z0, z1, z2, z3, z4, z5, z6⟩ := bE
      obtain ⟨y0, y1, y2, y3, y4, y5, y6⟩ := bF
      clear H1 H2 ho hz hfg hb3
      cases z with
      | false =>
        go_wp2_with (go_at_call 16; refine (AGR.out _).mono ?_; rintro r w4 ⟨rfl, hb4⟩; rw [← hw3] at hb4; have hz3 := (Below.on HB3.out hb4).block _ hsx |>.trans HZ.out; have f3 : ∀ o, w4.frozen? ⟨w.heap.size + 1, o, none⟩ = false := (fun o => by simp [World.frozen?, hz3]); have HH := hid hz3; have r0 : w4.cell? ⟨w.heap.size + 1, 0, none⟩ = some (.int .u32 0) := cell_of_obj hz3 rfl; have r1 : w4.cell? ⟨w.heap.size + 1, 1, none⟩ = some (.int .u32 0) := cell_of_obj hz3 rfl; have r2 : w4.cell? ⟨w.heap.size + 1, 2, none⟩ = some (.int .u32 0) := cell_of_obj hz3 rfl; have r3 : w4.cell? ⟨w.heap.size + 1, 3, none⟩ = some (.int .i64 0) := cell_of_obj hz3 rfl; have r4 : w4.cell? ⟨w.heap.size + 1, 4, none⟩ = some (.int .u64 0) := cell_of_obj hz3 rfl; have r5 : w4.cell? ⟨w.heap.size + 1, 5, none⟩ = some (.int .u32 0) := cell_of_obj hz3 rfl; have r6 : w4.cell? ⟨w.heap.size + 1, 6, none⟩ = some (.int .u32 0) := cell_of_obj hz3 rfl; obtain ⟨p0, p1, p2, p3, p4, p5, p6⟩ := HBF.out.later hb4; have HB4 := hid hb4; clear hz3 hb4 z0 z1 z2 z3 z4 z5 z6 y0 y1 y2 y3 y4 y5 y6)
        go_wp2_with fail
        obtain ⟨w8, hw8⟩ : ∃ w8, w8 = (((((((w4).setCell ⟨w.heap.size + 1, 0, none⟩ (.int .u32 f.id.1)).setCell ⟨w.heap.size + 1, 1, none⟩ (.int .u32 f.id.2)).setCell ⟨w.heap.size + 1, 2, none⟩ (.int .u32 f.home)).setCell ⟨w.heap.size + 1, 3, none⟩ (.int .i64 f.oc)).setCell ⟨w.heap.size + 1, 4, none⟩ (.int .u64 f.w)).setCell ⟨w.heap.size + 1, 5, none⟩ (.int .u32 f.l)).setCell ⟨w.heap.size + 1, 6, none⟩ (.int .u32 f.n) := ⟨_, rfl⟩
        obtain ⟨hk8, ho8, hs8⟩ := stored (z := En.zero) (u := f) HH.out hw8
        rw [← hw8]
        clear hw8
        have t0 : w8.cell? ⟨w.heap.size + 1, 0, none⟩ = some (.int .u32 f.id.1) := cell_of_obj hk8 rfl
        have t1 : w8.cell? ⟨w.heap.size + 1, 1, none⟩ = some (.int .u32 f.id.2) := cell_of_obj hk8 rfl
        have t2 : w8.cell? ⟨w.heap.size + 1, 2, none⟩ = some (.int .u32 f.home) := cell_of_obj hk8 rfl
        have t3 : w8.cell? ⟨w.heap.size + 1, 3, none⟩ = some (.int .i64 f.oc) := cell_of_obj hk8 rfl
        have t4 : w8.cell? ⟨w.heap.size + 1, 4, none⟩ = some (.int .u64 f.w) := cell_of_obj hk8 rfl
        have t5 : w8.cell? ⟨w.heap.size + 1, 5, none⟩ = some (.int .u32 f.l) := cell_of_obj hk8 rfl
        have t6 : w8.cell? ⟨w.heap.size + 1, 6, none⟩ = some (.int .u32 f.n) := cell_of_obj hk8 rfl
        have HOL : Hid (Onl (fun b => b = w.heap.size + 1) w4 w8) := ho8
        clear ho8
        refine bodyPost_ret (v := .tuple #[.agg #[.int .u32 f.id.1, .int .u32 f.id.2, .int .u32 f.home, .int .i64 f.oc, .int .u64 f.w, .int .u32 f.l, .int .u32 f.n], .int .i64 110]) (by simp [results, Try.results59, go_sem, t0, t1, t2, t3, t4, t5, t6]) rfl ?_
        have hb8 : Below w.heap.size w w8 := (Below.on HB03.out HB4.out).trans (HOL.out.below (B := w.heap.size) (fun k hk => by omega) (Below.on HB03.out HB4.out).size)
        exact ⟨a, n, c, f, 110, rfl, H0.out.1.symm, H0.out.2.1.symm, (HFin.out w8 hb8).1, fun b hb => .inl hb, (HFin.out w8 hb8).2⟩
      | true =>
        go_wp2_with (go_at_call 16; refine (AGR.out _).mono ?_; rintro r w4 ⟨rfl, hb4⟩; rw [← hw3] at hb4; have hz3 := (Below.on HB3.out hb4).block _ hsx |>.trans HZ.out; have f3 : ∀ o, w4.frozen? ⟨w.heap.size + 1, o, none⟩ = false := (fun o => by simp [World.frozen?, hz3]); have HH := hid hz3; have r0 : w4.cell? ⟨w.heap.size + 1, 0, none⟩ = some (.int .u32 0) := cell_of_obj hz3 rfl; have r1 : w4.cell? ⟨w.heap.size + 1, 1, none⟩ = some (.int .u32 0) := cell_of_obj hz3 rfl; have r2 : w4.cell? ⟨w.heap.size + 1, 2, none⟩ = some (.int .u32 0) := cell_of_obj hz3 rfl; have r3 : w4.cell? ⟨w.heap.size + 1, 3, none⟩ = some (.int .i64 0) := cell_of_obj hz3 rfl; have r4 : w4.cell? ⟨w.heap.size + 1, 4, none⟩ = some (.int .u64 0) := cell_of_obj hz3 rfl; have r5 : w4.cell? ⟨w.heap.size + 1, 5, none⟩ = some (.int .u32 0) := cell_of_obj hz3 rfl; have r6 : w4.cell? ⟨w.heap.size + 1, 6, none⟩ = some (.int .u32 0) := cell_of_obj hz3 rfl; obtain ⟨p0, p1, p2, p3, p4, p5, p6⟩ := HBF.out.later hb4; have HB4 := hid hb4; clear hz3 hb4 z0 z1 z2 z3 z4 z5 z6 y0 y1 y2 y3 y4 y5 y6)
        go_wp2_with fail
        obtain ⟨w8, hw8⟩ : ∃ w8, w8 = (((((((w4).setCell ⟨w.heap.size + 1, 0, none⟩ (.int .u32 f.id.1)).setCell ⟨w.heap.size + 1, 1, none⟩ (.int .u32 f.id.2)).setCell ⟨w.heap.size + 1, 2, none⟩ (.int .u32 f.home)).setCell ⟨w.heap.size + 1, 3, none⟩ (.int .i64 f.oc)).setCell ⟨w.heap.size + 1, 4, none⟩ (.int .u64 f.w)).setCell ⟨w.heap.size + 1, 5, none⟩ (.int .u32 f.l)).setCell ⟨w.heap.size + 1, 6, none⟩ (.int .u32 f.n) := ⟨_, rfl⟩
        obtain ⟨hk8, ho8, hs8⟩ := stored (z := En.zero) (u := f) HH.out hw8
        rw [← hw8]
        clear hw8
        have t0 : w8.cell? ⟨w.heap.size + 1, 0, none⟩ = some (.int .u32 f.id.1) := cell_of_obj hk8 rfl
        have t1 : w8.cell? ⟨w.heap.size + 1, 1, none⟩ = some (.int .u32 f.id.2) := cell_of_obj hk8 rfl
        have t2 : w8.cell? ⟨w.heap.size + 1, 2, none⟩ = some (.int .u32 f.home) := cell_of_obj hk8 rfl
        have t3 : w8.cell? ⟨w.heap.size + 1, 3, none⟩ = some (.int .i64 f.oc) := cell_of_obj hk8 rfl
        have t4 : w8.cell? ⟨w.heap.size + 1, 4, none⟩ = some (.int .u64 f.w) := cell_of_obj hk8 rfl
        have t5 : w8.cell? ⟨w.heap.size + 1, 5, none⟩ = some (.int .u32 f.l) := cell_of_obj hk8 rfl
        have t6 : w8.cell? ⟨w.heap.size + 1, 6, none⟩ = some (.int .u32 f.n) := cell_of_obj hk8 rfl
        have HOL : Hid (Onl (fun b => b = w.heap.size + 1) w4 w8) := ho8
        clear ho8
        refine bodyPost_ret (v := .tuple #[.agg #[.int .u32 f.id.1, .int .u32 f.id.2, .int .u32 f.home, .int .i64 f.oc, .int .u64 f.w, .int .u32 f.l, .int .u32 f.n], .int .i64 0]) (by simp [results, Try.results59, go_sem, t0, t1, t2, t3, t4, t5, t6]) rfl ?_
        have hb8 : Below w.heap.size w w8 := (Below.on HB03.out HB4.out).trans (HOL.out.below (B := w.heap.size) (fun k hk => by omega) (Below.on HB03.out HB4.out).size)
        exact ⟨a, n, c, f, 0, rfl, H0.out.1.symm, H0.out.2.1.symm, (HFin.out w8 hb8).1, fun b hb => .inl hb, (HFin.out w8 hb8).2⟩
end Go.Proofs.Ytogjhpknlopajaa.Lg
