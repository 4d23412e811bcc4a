import Derived.Test.YtdllhkjdckcgmaaDoorLEnt
import Derived.Test.YtdllhkjdckcgmaaDoorIAsked
namespace Go.Proofs.YtdllhkjdckcgmaaDoor
open Go.RowKit Go.Sort
set_option linter.unusedVariables false

/-- a block of another type is no part of a pair -/
theorem PairAt.not_foot {w : World} {B L o x d q : Nat} {v : Value} {log : List Ch} {cur : Array Value} {t : TypeId} (hq : w.heap[q]? = some (.cells cur t (0, 0))) (ht : t = 9 ∨ t = 44 ∨ t = 33) (hp : PairAt w B L o x d v log) : ¬ Foot x d v q := by
  rintro (e | e | e)
  · obtain ⟨u, hb⟩ := hp.xi.box
    subst e
    have h1 := hq.symm.trans hb
    rcases ht with rfl | rfl | rfl <;> simp at h1
  · subst e
    have h1 := hq.symm.trans hp.ri.box
    rcases ht with rfl | rfl | rfl <;> simp at h1
  · obtain ⟨hl2, ⟨rfl, _⟩ | ⟨g2, cap2, cur2, rfl, _, hgb2, _⟩⟩ := hp.ri.own
    · simp [Value.ownBlock] at e
    · have e3 : g2 = q := by simpa [Value.ownBlock] using e
      subst e3
      rw [hq] at hgb2
      rcases ht with rfl | rfl | rfl <;> simp at hgb2
theorem LT.not_type {w : World} {L q : Nat} {cur : Array Value} {t : TypeId} (hq : w.heap[q]? = some (.cells cur t (0, 0))) (ht : t = 9 ∨ t = 44 ∨ t = 33) (hL : LT w L) : q ≠ L := fun e => by
  obtain ⟨cs, hc, _⟩ := hL
  subst e
  rw [hq] at hc
  rcases ht with rfl | rfl | rfl <;> simp at hc
/-- a step is done -/
structure StepL (op : Ao) (q B L n : Nat) (w w' : World) : Prop where
  box : OpAt w' q op
  two : ∃ a' b', Two w' B L a' b' ∧ a'.length ≤ n ∧ b'.length ≤ n
  below : Below B w w'
  keep : KpL w w'
theorem moved_keeps {w w' : World} {B L o x d x' d' : Nat} {v v' : Value} {log : List Ch} (hp : PairAt w B L o x d v log) (hL : LT w L) (hm : Moved L o x d v x' d' v' w w') : KpL w w' := fun k cur t ht hk => by
  refine hm.onl.block k (Array.getElem?_eq_some_iff.1 hk).1 ?_
  have ht' : t = 9 ∨ t = 44 ∨ t = 33 := ht.imp id .inl
  rintro (h | h)
  · exact hp.not_foot hk ht' h
  · exact LT.not_type hk ht' hL h
theorem two_stepL {w : World} {B L o n q : Nat} {a b : List Ch} (h : Two w B L a b) (ga : a.length ≤ n) (gb : b.length ≤ n) (ho : o = 0 ∨ o = 2) {op : Ao} (hq : OpAt w q op) (hB : B ≤ w.heap.size) {f : Nat} {args : Array Value} {e' : Ending}
    (hc : ∀ (x d : Nat) (v : Value) (l : List Ch), LT w L → PairAt w B L o x d v l → l.length ≤ n → Calls Tryd.prog f args w fun e w' => ∃ x' d' v' l', e = e' ∧ LT w' L ∧ PairAt w' B L o x' d' v' l' ∧ Moved L o x d v x' d' v' w w' ∧ l'.length ≤ n + 1) :
    Calls Tryd.prog f args w fun e w' => e = e' ∧ StepL op q B L (n + 1) w w' := by
  obtain ⟨x0, d0, v0, x1, d1, v1, h0, h1, ha⟩ := h.two
  have hLl := h.lt.lt
  have hql := hq.lt
  rcases ho with rfl | rfl
  · refine (hc x0 d0 v0 a h.lt h0 ga).mono ?_
    rintro e w' ⟨x', d', v', l', he, hlt, hp, hm, hg⟩
    refine ⟨he, (hm.onl.block _ hql ?_).trans hq, ⟨l', b, ⟨hlt, h.low, x', d', v', x1, d1, v1, hp, h1.other hm h.lt (by omega) (fun k hk hk' => ha k hk' hk), ?_⟩, hg, by omega⟩, ?_, moved_keeps h0 h.lt hm⟩
    · rintro (hk | hk)
      · exact h0.not_foot hq (.inr (.inr rfl)) hk
      · exact LT.not_type hq (.inr (.inr rfl)) h.lt hk
    · intro k hk hk'
      rcases hm.foot k hk with hk | hk
      · exact ha k hk hk'
      · have := h1.foot_lt hk'; omega
    · exact hm.onl.below (fun k hk => hk.elim (h0.bx k) (fun e => by rw [e]; exact h.low)) hB
  · refine (hc x1 d1 v1 b h.lt h1 gb).mono ?_
    rintro e w' ⟨x', d', v', l', he, hlt, hp, hm, hg⟩
    refine ⟨he, (hm.onl.block _ hql ?_).trans hq, ⟨a, l', ⟨hlt, h.low, x0, d0, v0, x', d', v', h0.other hm h.lt (by omega) (fun k hk hk' => ha k hk hk'), hp, ?_⟩, by omega, hg⟩, ?_, moved_keeps h1 h.lt hm⟩
    · rintro (hk | hk)
      · exact h1.not_foot hq (.inr (.inr rfl)) hk
      · exact LT.not_type hq (.inr (.inr rfl)) h.lt hk
    · intro k hk' hk
      rcases hm.foot k hk with hk | hk
      · exact ha k hk' hk
      · have := h0.foot_lt hk'; omega
    · exact hm.onl.below (fun k hk => hk.elim (h1.bx k) (fun e => by rw [e]; exact h.low)) hB
theorem lists_changed {w : World} {B L o n q : Nat} {a b : List Ch} (h : Two w B L a b) (ga : a.length ≤ n) (gb : b.length ≤ n) (ho : o = 0 ∨ o = 2) {op : Ao} (hq : OpAt w q op) (hB : B ≤ w.heap.size) (hn : n ≤ 1000000) :
    Calls Tryd.prog 7 #[.pointer (some ⟨L, o, none⟩), opV op] w fun e w' => e = .returned (.bool true) ∧ StepL op q B L (n + 1) w w' :=
  two_stepL h ga gb ho hq hB fun x d v l hL hp hl => (changed_is op hL hp hB (by omega)).mono fun e w' ⟨x', d', v', he, hL', hp', hm⟩ => ⟨x', d', v', _, he, hL', hp', hm, Nat.le_trans (chgO_len op l) (by omega)⟩
theorem lists_asked {w : World} {B L o n : Nat} {a b : List Ch} (h : Two w B L a b) (ga : a.length ≤ n) (gb : b.length ≤ n) (ho : o = 0 ∨ o = 2) (op : Ao) (hn : n ≤ 1000000) (hs : op.key.size ≤ 1048576) :
    Calls Tryd.prog 8 #[.pointer (some ⟨L, o, none⟩), opV op] w fun e w' => e = .returned (.bool true) ∧ Below w.heap.size w w' := by
  obtain ⟨x, d, v, l, hp, hl⟩ := h.at ho
  have hl' : l.length ≤ n := by rcases hl with rfl | rfl <;> assumption
  exact asked_is op hp (by omega) (by omega)

end Go.Proofs.YtdllhkjdckcgmaaDoor
