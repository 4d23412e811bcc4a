import Derived.Test.YtdllhkjdckcgmaaDoorIState
namespace Go.Proofs.YtdllhkjdckcgmaaDoor
open Go.RowKit Go.Sort
set_option linter.unusedVariables false

theorem op_new (w : World) (op : Ao) : (w.alloc (.cells (opC op) 33)).heap[w.heap.size]? = some (.cells (opC op) 33 (0, 0)) := World.alloc_heap_new w _
theorem Foot.not_new {w : World} {B L o x d : Nat} {v : Value} {log : List Ch} (h : PairAt w B L o x d v log) : ¬ Foot x d v w.heap.size := fun hk => by have := h.foot_lt hk; omega
theorem LT.not_foot {w : World} {B L o x d : Nat} {v : Value} {log : List Ch} (hL : LT w L) (h : PairAt w B L o x d v log) : ¬ Foot x d v L := fun hk => by
  rcases hk with e | e
  · exact hL.ne_xi h.xi e.symm
  · exact hL.ne_ri h.ri e
/-- both indexes were changed alike -/
theorem both {w w0 w1 w2 : World} {B L o x d : Nat} {v v' : Value} {log log' : List Ch} (hL : LT w0 L) (hp : PairAt w0 B L o x d v log) (hw : Below w.heap.size w w0) (hB : B ≤ w.heap.size) (hlt : ∀ k, Foot x d v k → k < w.heap.size) (hLw : L < w.heap.size)
    (hx1 : Xi w1 x (ixL log')) (ho1 : Onl (fun b => b = x) w0 w1) (hr2 : Ri w2 d v' log') (ho2 : Onl (Ri.has d v) w1 w2) (hv : ∀ g, v'.ownBlock = some g → v.ownBlock = some g ∨ w1.heap.size ≤ g) :
    LT w2 L ∧ PairAt w2 B L o x d v' log' ∧ Moved L o x d v x d v' w w2 := by
  have hxd : ¬ Ri.has d v x := hp.xi.ne_ri hp.ri
  have hri1 : Ri w1 d v log := hp.ri.keep ho1 (fun k hk e => hxd (e ▸ hk))
  have hnF := LT.not_foot hL hp
  have oF : Onl (Foot x d v) w0 w2 := (ho1.mono (fun k e => .inl e)).trans (ho2.mono (fun k e => .inr e))
  have kp2 : Kp w0 w2 := (hp.xi.kp ho1).trans (hri1.kp ho2)
  have hsz : w.heap.size ≤ w1.heap.size := Nat.le_trans hw.size ho1.size
  refine ⟨hL.keep (oF.block L hL.lt hnF), ⟨oF.cell hnF hp.cx, oF.cell hnF hp.cd, hx1.keep (hri1.kp ho2) (ho2.block x hx1.lt hxd), hr2, fun k hk => ?_⟩, ⟨?_, (Kp.of_below hw).trans kp2, fun k hk => ?_, fun j _ _ => ?_⟩⟩
  · rcases hk with rfl | rfl | hk
    · exact hp.bx _ (.inl rfl)
    · exact hp.bx _ (.inr (.inl rfl))
    · rcases hv k hk with e | e
      · exact hp.bx _ (.inr (.inr e))
      · omega
  · exact (Onl.of_below hw).trans (oF.mono (fun k hk => .inl hk))
  · rcases hk with rfl | rfl | hk
    · exact .inl (.inl rfl)
    · exact .inl (.inr (.inl rfl))
    · rcases hv k hk with e | e
      · exact .inl (.inr (.inr e))
      · exact .inr (by omega)
  · have h1 : w2.heap[L]? = w.heap[L]? := (oF.block L hL.lt hnF).trans (hw.block L hLw)
    exact World.cell?_of_block (a := ⟨L, j, none⟩) h1

set_option maxHeartbeats 4000000 in
theorem changed_Set {w : World} {B L o x d : Nat} {v : Value} {log : List Ch} {op : Ao} (hk : op.k = 2) (hL : LT w L) (hp : PairAt w B L o x d v log) (hB : B ≤ w.heap.size) (hl : (log.length + 2) * 64 ≤ 140737488355328) :
    Calls Tryd.prog 7 #[.pointer (some ⟨L, o, none⟩), opV op] w fun e w' => ∃ x' d' v', e = .returned (.bool true) ∧ LT w' L ∧ PairAt w' B L o x' d' v' (chgO op log) ∧ Moved L o x d v x' d' v' w w' := by
  have hch : chgO op log = log ++ [⟨op.key, op.v, false⟩] := by unfold chgO; rw [if_neg (by omega), if_pos hk]
  rw [hch]
  obtain ⟨w0, hw0⟩ : ∃ w0, w0 = w.alloc (.cells (opC op) 33) := ⟨_, rfl⟩
  have hb0 : Below w.heap.size w w0 := by rw [hw0]; exact Below.al (Below.refl _ _) _
  have hbo : w0.heap[w.heap.size]? = some (.cells (opC op) 33 (0, 0)) := by rw [hw0]; exact op_new w op
  obtain ⟨b0, hb0e⟩ : ∃ b0, b0 = w.heap.size := ⟨_, rfl⟩
  rw [← hb0e] at hbo
  have q0 : w0.cell? ⟨b0, 0, none⟩ = some (.int .i64 2) := by rw [← hk]; exact cell_of_obj hbo rfl
  have q2 : w0.cell? ⟨b0, 2, none⟩ = some (.string op.key) := cell_of_obj hbo rfl
  have q4 : w0.cell? ⟨b0, 4, none⟩ = some (.int .i64 op.v) := cell_of_obj hbo rfl
  have hL0 := hL.later hb0
  have hp0 := hp.later hb0
  have HNL : Hid (¬ Foot x d v L) := LT.not_foot hL hp
  have HNB : Hid (¬ Foot x d v b0) := by show ¬ _; rw [hb0e]; exact Foot.not_new hp
  have cx := hp0.cx
  have cd := hp0.cd
  obtain ⟨u, hu⟩ : ∃ u, (getL log op.key).isNone = u := ⟨_, rfl⟩
  have hlx : (ixL log).length + 1 ≤ 1152921504606846976 := by have := ixL_len log; omega
  have SE : Hid (∀ W', Below w0.heap.size w0 W' → Calls Tryd.prog 5 #[.pointer (some ⟨x, 0, none⟩), .string op.key, .int .i64 op.v] W' fun e w' => e = .returned (.bool u) ∧ Hid (Xi w' x (ixL (log ++ [⟨op.key, op.v, false⟩]))) ∧ Hid (Onl (fun b => b = x) w0 w') ∧ Onl (Foot x d v) w0 w') := fun W' hb =>
    (set_is (hp0.xi.later hb) op.key op.v hlx).mono fun e w' ⟨he, hx, ho⟩ => ⟨by rw [he, ixL_get, hu], by show Xi _ _ _; rw [ixL_one]; exact hx, (Onl.of_below hb).trans ho, (Onl.of_below hb).trans (ho.mono fun k e => .inl e)⟩
  have RE : Hid (∀ w1 W', Onl (fun b => b = x) w0 w1 → Below w1.heap.size w1 W' → Calls Tryd.prog 6 #[.pointer (some ⟨d, 0, none⟩), .string op.key, .int .i64 op.v] W' fun e w' => ∃ v', e = .returned (.bool u) ∧ Hid (Ri w' d v' (log ++ [⟨op.key, op.v, false⟩])) ∧ Hid (Onl (Ri.has d v) w1 w') ∧ Hid (∀ g, v'.ownBlock = some g → v.ownBlock = some g ∨ w1.heap.size ≤ g) ∧ Onl (Foot x d v) w0 w') := fun w1 W' ho1 hb =>
    (refset_is ((hp0.ri.keep ho1 (fun k hk e => hp0.xi.ne_ri hp0.ri (e ▸ hk))).later hb) op.key op.v hl).mono fun e w' ⟨v', he, hr, ho, hv⟩ => ⟨v', by rw [he, hu], hr, (Onl.of_below hb).trans ho, fun g hg => (hv g hg).imp id (Nat.le_trans hb.size), (ho1.mono fun k e => .inl e).trans ((Onl.of_below hb).trans (ho.mono fun k hk => .inr hk))⟩
  have HL0 := hid hL0
  have HP0 := hid hp0
  have HBW := hid hb0
  have HB := hid hB
  have HLT : Hid (∀ k, Foot x d v k → k < w.heap.size) := fun k hk => hp.foot_lt hk
  have HLW : Hid (L < w.heap.size) := hL.lt
  have p1 : (op.k == 1) = false := by rw [hk]; rfl
  have p2 : (op.k == 2) = true := by rw [hk]; rfl
  have p4 : (op.k == 4) = false := by rw [hk]; rfl
  clear hL hp hB hl hch hbo hL0 hp0 hb0 hlx hu hk q0
  go_enter Tryd.func7, Tryd.ntmps7
  go_wp2_with fail
  rw [← hw0, ← hb0e]
  clear hw0 hb0e
  go_region_held3 (fun w' => w'.cell? ⟨L, o, none⟩ = some (.pointer (some ⟨x, 0, none⟩)) ∧ w'.cell? ⟨b0, 2, none⟩ = some (.string op.key) ∧ w'.cell? ⟨b0, 4, none⟩ = some (.int .i64 op.v) ∧ Onl (Foot x d v) w0 w')
    ((refine (fun (hO : Onl (Foot x d v) w0 _) => ⟨hO.cell HNL.out cx, hO.cell HNB.out q2, hO.cell HNB.out q4, hO⟩) ?_; (repeat (first | assumption | exact Onl.refl _ _ | refine Onl.drew ?_))))
    (first | (go_at_call 5; refine (SE.out _ (Below.drew (Below.refl _ _))).mono ?_; rintro e w1 ⟨rfl, hx1, ho1, hf1⟩))
  go_wp2_with fail
  go_region_held3 (fun w' => w'.cell? ⟨L, o + 1, none⟩ = some (.pointer (some ⟨d, 0, none⟩)) ∧ w'.cell? ⟨b0, 2, none⟩ = some (.string op.key) ∧ w'.cell? ⟨b0, 4, none⟩ = some (.int .i64 op.v) ∧ Onl (Foot x d v) w0 w')
    ((refine (fun (hO : Onl (Foot x d v) w0 _) => ⟨hO.cell HNL.out cd, hO.cell HNB.out q2, hO.cell HNB.out q4, hO⟩) ?_; (repeat (first | assumption | exact Onl.refl _ _ | refine Onl.drew ?_))))
    (first | (go_at_call 6; refine (RE.out _ _ ho1.out (Below.drew (Below.refl _ _))).mono ?_; rintro e w2 ⟨v', rfl, hr2, ho2, hv2, hf2⟩))
  go_wp2_with fail
  obtain ⟨y1, y2, y3⟩ := both HL0.out HP0.out HBW.out HB.out HLT.out HLW.out hx1.out ho1.out hr2.out ho2.out hv2.out
  go_ret
  exact ⟨x, d, v', retB' (by simp), y1, y2, y3⟩

set_option maxHeartbeats 4000000 in
theorem changed_Delete {w : World} {B L o x d : Nat} {v : Value} {log : List Ch} {op : Ao} (hk : op.k = 4) (hL : LT w L) (hp : PairAt w B L o x d v log) (hB : B ≤ w.heap.size) (hl : (log.length + 2) * 64 ≤ 140737488355328) :
    Calls Tryd.prog 7 #[.pointer (some ⟨L, o, none⟩), opV op] w fun e w' => ∃ x' d' v', e = .returned (.bool true) ∧ LT w' L ∧ PairAt w' B L o x' d' v' (chgO op log) ∧ Moved L o x d v x' d' v' w w' := by
  have hch : chgO op log = log ++ [⟨op.key, 0, true⟩] := by unfold chgO; rw [if_neg (by omega), if_neg (by omega), if_pos hk]
  rw [hch]
  obtain ⟨w0, hw0⟩ : ∃ w0, w0 = w.alloc (.cells (opC op) 33) := ⟨_, rfl⟩
  have hb0 : Below w.heap.size w w0 := by rw [hw0]; exact Below.al (Below.refl _ _) _
  have hbo : w0.heap[w.heap.size]? = some (.cells (opC op) 33 (0, 0)) := by rw [hw0]; exact op_new w op
  obtain ⟨b0, hb0e⟩ : ∃ b0, b0 = w.heap.size := ⟨_, rfl⟩
  rw [← hb0e] at hbo
  have q0 : w0.cell? ⟨b0, 0, none⟩ = some (.int .i64 4) := by rw [← hk]; exact cell_of_obj hbo rfl
  have q2 : w0.cell? ⟨b0, 2, none⟩ = some (.string op.key) := cell_of_obj hbo rfl
  have q4 : w0.cell? ⟨b0, 4, none⟩ = some (.int .i64 op.v) := cell_of_obj hbo rfl
  have hL0 := hL.later hb0
  have hp0 := hp.later hb0
  have HNL : Hid (¬ Foot x d v L) := LT.not_foot hL hp
  have HNB : Hid (¬ Foot x d v b0) := by show ¬ _; rw [hb0e]; exact Foot.not_new hp
  have cx := hp0.cx
  have cd := hp0.cd
  obtain ⟨u, hu⟩ : ∃ u, (getL log op.key).isSome = u := ⟨_, rfl⟩
  have hlx : (ixL log).length + 1 ≤ 1152921504606846976 := by have := ixL_len log; omega
  have SE : Hid (∀ W', Below w0.heap.size w0 W' → Calls Tryd.prog 22 #[.pointer (some ⟨x, 0, none⟩), .string op.key] W' fun e w' => e = .returned (.bool u) ∧ Hid (Xi w' x (ixL (log ++ [⟨op.key, 0, true⟩]))) ∧ Hid (Onl (fun b => b = x) w0 w') ∧ Onl (Foot x d v) w0 w') := fun W' hb =>
    (del_is (hp0.xi.later hb) op.key hlx).mono fun e w' ⟨he, hx, ho⟩ => ⟨by rw [he, ixL_get, hu], by show Xi _ _ _; rw [ixL_gone]; exact hx, (Onl.of_below hb).trans ho, (Onl.of_below hb).trans (ho.mono fun k e => .inl e)⟩
  have RE : Hid (∀ w1 W', Onl (fun b => b = x) w0 w1 → Below w1.heap.size w1 W' → Calls Tryd.prog 23 #[.pointer (some ⟨d, 0, none⟩), .string op.key] W' fun e w' => ∃ v', e = .returned (.bool u) ∧ Hid (Ri w' d v' (log ++ [⟨op.key, 0, true⟩])) ∧ Hid (Onl (Ri.has d v) w1 w') ∧ Hid (∀ g, v'.ownBlock = some g → v.ownBlock = some g ∨ w1.heap.size ≤ g) ∧ Onl (Foot x d v) w0 w') := fun w1 W' ho1 hb =>
    (refdel_is ((hp0.ri.keep ho1 (fun k hk e => hp0.xi.ne_ri hp0.ri (e ▸ hk))).later hb) op.key hl).mono fun e w' ⟨v', he, hr, ho, hv⟩ => ⟨v', by rw [he, hu], hr, (Onl.of_below hb).trans ho, fun g hg => (hv g hg).imp id (Nat.le_trans hb.size), (ho1.mono fun k e => .inl e).trans ((Onl.of_below hb).trans (ho.mono fun k hk => .inr hk))⟩
  have HL0 := hid hL0
  have HP0 := hid hp0
  have HBW := hid hb0
  have HB := hid hB
  have HLT : Hid (∀ k, Foot x d v k → k < w.heap.size) := fun k hk => hp.foot_lt hk
  have HLW : Hid (L < w.heap.size) := hL.lt
  have p1 : (op.k == 1) = false := by rw [hk]; rfl
  have p2 : (op.k == 2) = false := by rw [hk]; rfl
  have p4 : (op.k == 4) = true := by rw [hk]; rfl
  clear hL hp hB hl hch hbo hL0 hp0 hb0 hlx hu hk q0
  go_enter Tryd.func7, Tryd.ntmps7
  go_wp2_with fail
  rw [← hw0, ← hb0e]
  clear hw0 hb0e
  go_region_held3 (fun w' => w'.cell? ⟨L, o, none⟩ = some (.pointer (some ⟨x, 0, none⟩)) ∧ w'.cell? ⟨b0, 2, none⟩ = some (.string op.key) ∧ Onl (Foot x d v) w0 w')
    ((refine (fun (hO : Onl (Foot x d v) w0 _) => ⟨hO.cell HNL.out cx, hO.cell HNB.out q2, hO⟩) ?_; (repeat (first | assumption | exact Onl.refl _ _ | refine Onl.drew ?_))))
    (first | (go_at_call 22; refine (SE.out _ (Below.drew (Below.refl _ _))).mono ?_; rintro e w1 ⟨rfl, hx1, ho1, hf1⟩))
  go_wp2_with fail
  go_region_held3 (fun w' => w'.cell? ⟨L, o + 1, none⟩ = some (.pointer (some ⟨d, 0, none⟩)) ∧ w'.cell? ⟨b0, 2, none⟩ = some (.string op.key) ∧ Onl (Foot x d v) w0 w')
    ((refine (fun (hO : Onl (Foot x d v) w0 _) => ⟨hO.cell HNL.out cd, hO.cell HNB.out q2, hO⟩) ?_; (repeat (first | assumption | exact Onl.refl _ _ | refine Onl.drew ?_))))
    (first | (go_at_call 23; refine (RE.out _ _ ho1.out (Below.drew (Below.refl _ _))).mono ?_; rintro e w2 ⟨v', rfl, hr2, ho2, hv2, hf2⟩))
  go_wp2_with fail
  obtain ⟨y1, y2, y3⟩ := both HL0.out HP0.out HBW.out HB.out HLT.out HLW.out hx1.out ho1.out hr2.out ho2.out hv2.out
  go_ret
  exact ⟨x, d, v', retB' (by simp), y1, y2, y3⟩

set_option maxHeartbeats 4000000 in
theorem changed_New {w : World} {B L o x d : Nat} {v : Value} {log : List Ch} {op : Ao} (hk : op.k = 1) (hL : LT w L) (hp : PairAt w B L o x d v log) (hB : B ≤ w.heap.size) :
    Calls Tryd.prog 7 #[.pointer (some ⟨L, o, none⟩), opV op] w fun e w' => ∃ x' d' v', e = .returned (.bool true) ∧ LT w' L ∧ PairAt w' B L o x' d' v' (chgO op log) ∧ Moved L o x d v x' d' v' w w' := by
  have hch : chgO op log = [] := by unfold chgO; rw [if_pos hk]
  rw [hch]
  obtain ⟨w0, hw0⟩ : ∃ w0, w0 = w.alloc (.cells (opC op) 33) := ⟨_, rfl⟩
  have hb0 : Below w.heap.size w w0 := by rw [hw0]; exact Below.al (Below.refl _ _) _
  have hbo : w0.heap[w.heap.size]? = some (.cells (opC op) 33 (0, 0)) := by rw [hw0]; exact op_new w op
  obtain ⟨b0, hb0e⟩ : ∃ b0, b0 = w.heap.size := ⟨_, rfl⟩
  rw [← hb0e] at hbo
  have q0 : w0.cell? ⟨b0, 0, none⟩ = some (.int .i64 1) := by rw [← hk]; exact cell_of_obj hbo rfl
  have MA := hid (made_is (hL.later hb0) (hp.later hb0) (Nat.le_trans hB hb0.size))
  have HBW := hid hb0
  have HLW : Hid (L < w.heap.size) := hL.lt
  have p1 : (op.k == 1) = true := by rw [hk]; rfl
  clear hL hp hB hch hbo hb0 hk q0 hb0e
  subst hw0
  go_enter Tryd.func7, Tryd.ntmps7
  go_wp2_with (go_at_call 21; refine MA.out.mono ?_; rintro e w1 ⟨x', d', rfl, l1, p1, m1⟩)
  go_ret
  exact ⟨x', d', _, rfl, l1, p1, ⟨(Onl.of_below HBW.out).trans m1.onl, (Kp.of_below HBW.out).trans m1.kp, fun k hk => (m1.foot k hk).imp id (Nat.le_trans HBW.out.size), fun j h1 h2 => (m1.rest j h1 h2).trans (HBW.out.cell (p := ⟨L, j, none⟩) HLW.out)⟩⟩
set_option maxHeartbeats 4000000 in
theorem changed_none {w : World} {B L o x d : Nat} {v : Value} {log : List Ch} {op : Ao} (h1 : op.k ≠ 1) (h2 : op.k ≠ 2) (h4 : op.k ≠ 4) (hL : LT w L) (hp : PairAt w B L o x d v log) :
    Calls Tryd.prog 7 #[.pointer (some ⟨L, o, none⟩), opV op] w fun e w' => ∃ x' d' v', e = .returned (.bool true) ∧ LT w' L ∧ PairAt w' B L o x' d' v' (chgO op log) ∧ Moved L o x d v x' d' v' w w' := by
  have hch : chgO op log = log := by unfold chgO; rw [if_neg h1, if_neg h2, if_neg h4]
  rw [hch]
  have hb0 : Below w.heap.size w (w.alloc (.cells (opC op) 33)) := Below.al (Below.refl _ _) _
  have p1 : (op.k == 1) = false := by simpa using h1
  have p2 : (op.k == 2) = false := by simpa using h2
  have p4 : (op.k == 4) = false := by simpa using h4
  have HB := hid hb0
  have HL := hid hL
  have HP := hid hp
  clear h1 h2 h4 hch hb0 hL hp
  go_enter Tryd.func7, Tryd.ntmps7
  go_wp2_with fail
  go_ret
  exact ⟨x, d, v, rfl, HL.out.later HB.out, HP.out.later HB.out, ⟨Onl.of_below HB.out, Kp.of_below HB.out, fun k hk => .inl hk, fun j _ _ => HB.out.cell (p := ⟨L, j, none⟩) HL.out.lt⟩⟩
theorem changed_is {w : World} {B L o x d : Nat} {v : Value} {log : List Ch} (op : Ao) (hL : LT w L) (hp : PairAt w B L o x d v log) (hB : B ≤ w.heap.size) (hl : (log.length + 2) * 64 ≤ 140737488355328) :
    Calls Tryd.prog 7 #[.pointer (some ⟨L, o, none⟩), opV op] w fun e w' => ∃ x' d' v', e = .returned (.bool true) ∧ LT w' L ∧ PairAt w' B L o x' d' v' (chgO op log) ∧ Moved L o x d v x' d' v' w w' := by
  by_cases h1 : op.k = 1
  · exact changed_New h1 hL hp hB
  · by_cases h2 : op.k = 2
    · exact changed_Set h2 hL hp hB hl
    · by_cases h4 : op.k = 4
      · exact changed_Delete h4 hL hp hB hl
      · exact changed_none h1 h2 h4 hL hp

end Go.Proofs.YtdllhkjdckcgmaaDoor
