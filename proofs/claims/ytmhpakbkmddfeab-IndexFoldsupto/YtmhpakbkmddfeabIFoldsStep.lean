import Derived.Test.YtmhpakbkmddfeabIFoldedS
namespace Go.Proofs.Ytmhpakbkmddfeab
open Go.RowKit Go.Sort
set_option linter.unusedVariables false

theorem OpAt.not_foot {w : World} {B L o x d q : Nat} {v : Value} {log : List Ch} {op : Ao} (h : OpAt w q op) (hp : PairAt w B L o x d v log) : ¬ Foot x d v q := by
  have hq : w.heap[q]? = some (.cells (opC op) 31 (0, 0)) := h
  rintro (e | e | e)
  · obtain ⟨u, hb⟩ := hp.xi.box
    subst e
    have h1 := hq.symm.trans hb
    simp at h1
  · subst e
    have h1 := hq.symm.trans hp.ri.box
    simp at h1
  · obtain ⟨hl2, ⟨rfl, _⟩ | ⟨g2, cap2, cur2, rfl, _, hgb2, _⟩⟩ := hp.ri.own
    · simp [Value.ownBlock] at e
    · have e3 : g2 = q := by simpa [Value.ownBlock] using e
      subst e3
      rw [hq] at hgb2
      simp at hgb2
theorem OpAt.not_arr {w : World} {L q : Nat} {op : Ao} (h : OpAt w q op) (hL : LT w L) : q ≠ L := fun e => by
  obtain ⟨cs, hc, _⟩ := hL
  subst e
  have hq : w.heap[q]? = some (.cells (opC op) 31 (0, 0)) := h
  rw [hq] at hc
  simp at hc
/-- a step is done -/
structure StepG (op : Ao) (q B L n : Nat) (w w' : World) : Prop where
  box : OpAt w' q op
  two : ∃ a' b', Two w' B L a' b' ∧ GoodK n a' ∧ GoodK n b'
  below : Below B w w'
theorem two_step {w : World} {B L o n q : Nat} {a b : List Ch} (h : Two w B L a b) (ga : GoodK n a) (gb : GoodK n b) (ho : o = 0 ∨ o = 2) {op : Ao} (hq : OpAt w q op) (hB : B ≤ w.heap.size) {f : Nat} {args : Array Value} {e' : Ending}
    (hc : ∀ (x d : Nat) (v : Value) (l : List Ch), LT w L → PairAt w B L o x d v l → GoodK n l → Calls Try.prog f args w fun e w' => ∃ x' d' v' l', e = e' ∧ LT w' L ∧ PairAt w' B L o x' d' v' l' ∧ Moved L o x d v x' d' v' w w' ∧ GoodK (n + 1) l') :
    Calls Try.prog f args w fun e w' => e = e' ∧ StepG op q B L (n + 1) w w' := by
  obtain ⟨x0, d0, v0, x1, d1, v1, h0, h1, ha⟩ := h.two
  have hLl := h.lt.lt
  have hql := hq.lt
  rcases ho with rfl | rfl
  · refine (hc x0 d0 v0 a h.lt h0 ga).mono ?_
    rintro e w' ⟨x', d', v', l', he, hlt, hp, hm, hg⟩
    refine ⟨he, (hm.onl.block _ hql ?_).trans hq, ⟨l', b, ⟨hlt, h.low, x', d', v', x1, d1, v1, hp, h1.other hm h.lt (by omega) (fun k hk hk' => ha k hk' hk), ?_⟩, hg, gb.up⟩, ?_⟩
    · rintro (hk | hk)
      · exact hq.not_foot h0 hk
      · exact hq.not_arr h.lt hk
    · intro k hk hk'
      rcases hm.foot k hk with hk | hk
      · exact ha k hk hk'
      · have := h1.foot_lt hk'; omega
    · exact hm.onl.below (fun k hk => hk.elim (h0.bx k) (fun e => by rw [e]; exact h.low)) hB
  · refine (hc x1 d1 v1 b h.lt h1 gb).mono ?_
    rintro e w' ⟨x', d', v', l', he, hlt, hp, hm, hg⟩
    refine ⟨he, (hm.onl.block _ hql ?_).trans hq, ⟨a, l', ⟨hlt, h.low, x0, d0, v0, x', d', v', h0.other hm h.lt (by omega) (fun k hk hk' => ha k hk hk'), hp, ?_⟩, ga.up, hg⟩, ?_⟩
    · rintro (hk | hk)
      · exact hq.not_foot h1 hk
      · exact hq.not_arr h.lt hk
    · intro k hk' hk
      rcases hm.foot k hk with hk | hk
      · exact ha k hk' hk
      · have := h0.foot_lt hk'; omega
    · exact hm.onl.below (fun k hk => hk.elim (h1.bx k) (fun e => by rw [e]; exact h.low)) hB
theorem Moved.of_below {L o x d : Nat} {v : Value} {w w' : World} (hL : L < w.heap.size) (hb : Below w.heap.size w w') : Moved L o x d v x d v w w' :=
  ⟨Onl.of_below hb, Kp.of_below hb, fun k hk => .inl hk, fun j _ _ => World.cell?_of_block (a := ⟨L, j, none⟩) (hb.block L hL)⟩
theorem folded_any {w : World} {B L o x d n : Nat} {v : Value} {log : List Ch} (op : Ao) (hL : LT w L) (hp : PairAt w B L o x d v log) (hB : B ≤ w.heap.size) (g : GoodK n log) (hn : n ≤ 300000) :
    Calls Try.prog 7 #[.pointer (some ⟨L, o, none⟩), opV op] w fun e w' => ∃ x' d' v' l', e = .returned (.bool true) ∧ LT w' L ∧ PairAt w' B L o x' d' v' l' ∧ Moved L o x d v x' d' v' w w' ∧ GoodK (n + 1) l' := by
  by_cases hst : 0 < op.st
  · refine (folded_stir hst hL hp hB (g.room hn) (Nat.le_trans g.ix hn) (fun e he => by have := g.entry he; omega)).mono ?_
    rintro e w' ⟨v', he, hL', hp', hm⟩
    exact ⟨x, d, v', _, he, hL', hp', hm, g.fold op.key op.hi⟩
  · refine (folded_gather hst hp (g.room hn)).mono ?_
    rintro e w' ⟨he, hb⟩
    exact ⟨x, d, v, log, he, hL.later hb, hp.later hb, Moved.of_below hL.lt hb, g.up⟩
theorem changed_any {w : World} {B L o x d n : Nat} {v : Value} {log : List Ch} (op : Ao) (hL : LT w L) (hp : PairAt w B L o x d v log) (hB : B ≤ w.heap.size) (g : GoodK n log) (hn : n ≤ 300000) (hk : op.key.size ≤ 1048576) :
    Calls Try.prog 6 #[.pointer (some ⟨L, o, none⟩), opV op] w fun e w' => ∃ x' d' v' l', e = .returned (.bool true) ∧ LT w' L ∧ PairAt w' B L o x' d' v' l' ∧ Moved L o x d v x' d' v' w w' ∧ GoodK (n + 1) l' := by
  refine (changed_is op hL hp hB (room_of (Nat.add_le_add_left (by decide) _) (g.room hn))).mono ?_
  rintro e w' ⟨x', d', v', he, hL', hp', hm⟩
  exact ⟨x', d', v', _, he, hL', hp', hm, g.chg op hk⟩
theorem folds_chain {w : World} {B L o n : Nat} {a b : List Ch} (h : Two w B L a b) (ga : GoodK n a) (gb : GoodK n b) (ho : o = 0 ∨ o = 2) (op : Ao) (hk : op.key.size ≤ 1048576) (hn : n + 1 ≤ 300000) (hB : B ≤ w.heap.size) :
    Calls Try.prog 6 #[.pointer (some ⟨L, o, none⟩), opV op] (w.alloc (.cells (opC op) 31)) fun e w' => e = .returned (.bool true) ∧ Hid (StepG op w.heap.size B L (n + 1) w w') ∧ (∃ y, w'.cell? ⟨L, o, none⟩ = some (pt y)) ∧
      Hid (Calls Try.prog 7 #[.pointer (some ⟨L, o, none⟩), opV op] w' fun e w2 => e = .returned (.bool true) ∧ Hid (StepG op w.heap.size B L (n + 1 + 1) w w2)) := by
  have hb0 : Below w.heap.size w (w.alloc (.cells (opC op) 31)) := Below.al (Below.refl _ _) _
  refine (two_step (h.later hb0) ga gb ho (op_new w op) (Nat.le_trans hB hb0.size) (fun x d v l hL hp g => changed_any op hL hp (Nat.le_trans hB hb0.size) g (by omega) hk)).mono ?_
  rintro e w' ⟨he, hs⟩
  obtain ⟨a', b', ht', ha', hb'⟩ := hs.two
  obtain ⟨y, d', v', l', hp', hl'⟩ := ht'.at ho
  have hB' : B ≤ w'.heap.size := Nat.le_trans hB (Nat.le_trans hb0.size hs.below.size)
  refine ⟨he, ⟨hs.box, hs.two, (hb0.mono hB).trans hs.below⟩, ⟨y, hp'.cx⟩, ?_⟩
  refine (two_step ht' ha' hb' ho hs.box hB' (fun x d v l hL hp g => folded_any op hL hp hB' g (by omega))).mono ?_
  rintro e2 w2 ⟨he2, hs2⟩
  exact ⟨he2, hs2.box, hs2.two, ((hb0.mono hB).trans hs.below).trans hs2.below⟩

end Go.Proofs.Ytmhpakbkmddfeab
