import Derived.Test.YtdllhkjdckcgmaaDoorIFresh
namespace Go.Proofs.YtdllhkjdckcgmaaDoor
open Go.RowKit Go.Sort
set_option linter.unusedVariables false

/-- a step lies in a block -/
def OpAt (w : World) (b : Nat) (op : Ao) : Prop := w.heap[b]? = some (.cells (opC op) 33 (0, 0))
theorem OpAt.other {w : World} {b B : Nat} {op : Ao} (h : OpAt w b op) (hne : b ≠ B) (u : Value) : OpAt (w.setCell ⟨B, 0, none⟩ u) b op := (Below.heap_setCell _ _ _ _ hne).trans h
theorem OpAt.lt {w : World} {b : Nat} {op : Ao} (h : OpAt w b op) : b < w.heap.size := (Array.getElem?_eq_some_iff.1 h).1
theorem OpAt.c0 {w : World} {b : Nat} {op : Ao} (h : OpAt w b op) : w.cell? ⟨b, 0, none⟩ = some (.int .i64 op.k) := cell_of_obj h rfl
theorem OpAt.c1 {w : World} {b : Nat} {op : Ao} (h : OpAt w b op) : w.cell? ⟨b, 1, none⟩ = some (.int .i64 op.pl) := cell_of_obj h rfl
theorem OpAt.c2 {w : World} {b : Nat} {op : Ao} (h : OpAt w b op) : w.cell? ⟨b, 2, none⟩ = some (.string op.key) := cell_of_obj h rfl
theorem OpAt.c3 {w : World} {b : Nat} {op : Ao} (h : OpAt w b op) : w.cell? ⟨b, 3, none⟩ = some (.string op.hi) := cell_of_obj h rfl
theorem OpAt.c4 {w : World} {b : Nat} {op : Ao} (h : OpAt w b op) : w.cell? ⟨b, 4, none⟩ = some (.int .i64 op.v) := cell_of_obj h rfl
theorem OpAt.c5 {w : World} {b : Nat} {op : Ao} (h : OpAt w b op) : w.cell? ⟨b, 5, none⟩ = some (.int .i64 op.st) := cell_of_obj h rfl
theorem OpAt.later {w w' : World} {b : Nat} {op : Ao} (h : OpAt w b op) (hb : Below w.heap.size w w') : OpAt w' b op := (hb.block b h.lt).trans h

/-- two pairs apart from each other in one array -/
structure Two (w : World) (B L : Nat) (a b : List Ch) : Prop where
  lt : LT w L
  low : B ≤ L
  two : ∃ x0 d0 v0 x1 d1 v1, PairAt w B L 0 x0 d0 v0 a ∧ PairAt w B L 2 x1 d1 v1 b ∧ ∀ k, Foot x0 d0 v0 k → ¬ Foot x1 d1 v1 k
theorem Two.later {w w' : World} {B L : Nat} {a b : List Ch} (h : Two w B L a b) (hb : Below w.heap.size w w') : Two w' B L a b := by
  obtain ⟨x0, d0, v0, x1, d1, v1, h0, h1, ha⟩ := h.two
  exact ⟨h.lt.later hb, h.low, x0, d0, v0, x1, d1, v1, h0.later hb, h1.later hb, ha⟩
/-- two fresh pairs -/
theorem Two.fresh {w : World} {B L x0 d0 x1 d1 : Nat} (h0 : FreshAt w B x0 d0) (h1 : FreshAt w B x1 d1) (hx : x0 < x1 ∧ x0 < d1 ∧ d0 < x1 ∧ d0 < d1) (hF : Four w L (pt x0) (pt d0) (pt x1) (pt d1)) (hL : B ≤ L) : Two w B L [] [] := by
  refine ⟨hF.lT, hL, x0, d0, nilS, x1, d1, nilS, ⟨hF.c0, hF.c1, h0.1, h0.2.1, ?_⟩, ⟨hF.c2, hF.c3, h1.1, h1.2.1, ?_⟩, ?_⟩
  · intro k hk
    have := h0.2.2.1; have := h0.2.2.2.1
    rcases hk with rfl | rfl | hk
    · omega
    · omega
    · simp [Value.ownBlock] at hk
  · intro k hk
    have := h1.2.2.1; have := h1.2.2.2.1
    rcases hk with rfl | rfl | hk
    · omega
    · omega
    · simp [Value.ownBlock] at hk
  · intro k hk hk'
    rcases hk with rfl | rfl | hk
    · rcases hk' with rfl | rfl | hk'
      · omega
      · omega
      · simp [Value.ownBlock] at hk'
    · rcases hk' with rfl | rfl | hk'
      · omega
      · omega
      · simp [Value.ownBlock] at hk'
    · simp [Value.ownBlock] at hk
/-- the pair at one of the places -/
theorem Two.at {w : World} {B L o : Nat} {a b : List Ch} (h : Two w B L a b) (ho : o = 0 ∨ o = 2) : ∃ x d v l, PairAt w B L o x d v l ∧ (l = a ∨ l = b) := by
  obtain ⟨x0, d0, v0, x1, d1, v1, h0, h1, ha⟩ := h.two
  rcases ho with rfl | rfl
  · exact ⟨x0, d0, v0, a, h0, .inl rfl⟩
  · exact ⟨x1, d1, v1, b, h1, .inr rfl⟩
/-- a call that moves one pair: what it does to both -/
structure Step (op : Ao) (q B L : Nat) (a b : List Ch) (w w' : World) : Prop where
  box : OpAt w' q op
  two : ∃ a' b', Two w' B L a' b' ∧ a'.length ≤ a.length + 1 ∧ b'.length ≤ b.length + 1
  below : Below B w w'
theorem two_moved {w : World} {B L o : Nat} {a b : List Ch} (h : Two w B L a b) (ho : o = 0 ∨ o = 2) (op : Ao) (hB : B ≤ w.heap.size) {f : Nat} {args : Array Value} {e' : Ending}
    (hc : ∀ (W : World) (x d : Nat) (v : Value) (l : List Ch), LT W L → PairAt W B L o x d v l → l = a ∨ l = b → Below w.heap.size w W → B ≤ W.heap.size → OpAt W w.heap.size op → Calls Tryd.prog f args W fun e w' => ∃ x' d' v' l', e = e' ∧ LT w' L ∧ PairAt w' B L o x' d' v' l' ∧ Moved L o x d v x' d' v' W w' ∧ l'.length ≤ l.length + 1) :
    Calls Tryd.prog f args (w.alloc (.cells (opC op) 33)) fun e w' => e = e' ∧ Step op w.heap.size B L a b w w' := by
  have hb0 : Below w.heap.size w (w.alloc (.cells (opC op) 33)) := Below.al (Below.refl _ _) _
  have hop : OpAt (w.alloc (.cells (opC op) 33)) w.heap.size op := op_new w op
  obtain ⟨x0, d0, v0, x1, d1, v1, h0, h1, ha⟩ := h.two
  have h2 := h.later hb0
  have hs : (w.alloc (.cells (opC op) 33)).heap.size = w.heap.size + 1 := World.size_alloc _ _
  have hLl := h.lt.lt
  rcases ho with rfl | rfl
  · refine (hc _ x0 d0 v0 a h2.lt (h0.later hb0) (.inl rfl) hb0 (by omega) hop).mono ?_
    rintro e w' ⟨x', d', v', l', he, hlt, hp, hm, hll⟩
    refine ⟨he, (hm.onl.block _ (by omega) ?_).trans hop, ⟨l', b, ⟨hlt, h.low, x', d', v', x1, d1, v1, hp, (h1.later hb0).other hm h2.lt (by omega) (fun k hk hk' => ha k hk' hk), ?_⟩, hll, by omega⟩, ?_⟩
    · rintro (hk | hk)
      · have := h0.foot_lt hk; omega
      · omega
    · intro k hk hk'
      rcases hm.foot k hk with hk | hk
      · exact ha k hk hk'
      · have := h1.foot_lt hk'; omega
    · exact (hb0.mono hB).trans (hm.onl.below (fun k hk => hk.elim (h0.bx k) (fun e => by rw [e]; exact h.low)) (by omega))
  · refine (hc _ x1 d1 v1 b h2.lt (h1.later hb0) (.inr rfl) hb0 (by omega) hop).mono ?_
    rintro e w' ⟨x', d', v', l', he, hlt, hp, hm, hll⟩
    refine ⟨he, (hm.onl.block _ (by omega) ?_).trans hop, ⟨a, l', ⟨hlt, h.low, x0, d0, v0, x', d', v', (h0.later hb0).other hm h2.lt (by omega) (fun k hk hk' => ha k hk hk'), hp, ?_⟩, by omega, hll⟩, ?_⟩
    · rintro (hk | hk)
      · have := h1.foot_lt hk; omega
      · omega
    · intro k hk' hk
      rcases hm.foot k hk with hk | hk
      · exact ha k hk' hk
      · have := h0.foot_lt hk'; omega
    · exact (hb0.mono hB).trans (hm.onl.below (fun k hk => hk.elim (h1.bx k) (fun e => by rw [e]; exact h.low)) (by omega))
theorem two_changed {w : World} {B L o : Nat} {a b : List Ch} (h : Two w B L a b) (ho : o = 0 ∨ o = 2) (op : Ao) (hB : B ≤ w.heap.size) (hl : (a.length + 2) * 64 ≤ 140737488355328 ∧ (b.length + 2) * 64 ≤ 140737488355328) :
    Calls Tryd.prog 7 #[.pointer (some ⟨L, o, none⟩), opV op] (w.alloc (.cells (opC op) 33)) fun e w' => e = .returned (.bool true) ∧ Step op w.heap.size B L a b w w' :=
  two_moved h ho op hB fun W x d v l hL hp hll hb hB' _ => (changed_is op hL hp hB' (by rcases hll with rfl | rfl; exact hl.1; exact hl.2)).mono fun e w' ⟨x', d', v', he, hL', hp', hm⟩ => ⟨x', d', v', _, he, hL', hp', hm, chgO_len op l⟩

end Go.Proofs.YtdllhkjdckcgmaaDoor
