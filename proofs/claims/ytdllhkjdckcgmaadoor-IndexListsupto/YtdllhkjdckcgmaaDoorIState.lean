import Derived.Test.YtdllhkjdckcgmaaDoorIRefs
import Derived.Test.YtdllhkjdckcgmaaDoorIOps
import Derived.Test.YtdllhkjdckcgmaaDoorIKeys
namespace Go.Proofs.YtdllhkjdckcgmaaDoor
open Go.RowKit Go.Sort
set_option linter.unusedVariables false

theorem Ri.kp {w w' : World} {d : Nat} {v : Value} {log : List Ch} (h : Ri w d v log) (ho : Onl (Ri.has d v) w w') : Kp w w' :=
  Kp.of_onl ho fun b cs t z hf hb ht => by
    rcases hf with rfl | hf
    · rw [show w.heap[b]? = _ from h.box] at hb
      cases hb
      exact not_ixt (by rfl) ht
    · exact row_not h.own (not_ixt (by rfl)) ht hb hf.symm
theorem Xi.ne_ri {w : World} {x d : Nat} {l : List En} {v : Value} {log : List Ch} (h : Xi w x l) (k : Ri w d v log) : ¬ Ri.has d v x := by
  obtain ⟨u, hb⟩ := h.box
  rintro (e | e)
  · subst e
    have h1 := hb.symm.trans k.box
    simp at h1
  · have := hb.not_row (by decide) k.own
    exact this e.symm
/-- the blocks of a pair: the index, the document's index, its log -/
def Foot (x d : Nat) (v : Value) (k : Nat) : Prop := k = x ∨ Ri.has d v k
/-- the array of pairs -/
def LT (w : World) (L : Nat) : Prop := ∃ cs : Array Value, w.heap[L]? = some (.cells cs 27 (0, 0)) ∧ cs.size = 4
theorem LT.lt {w : World} {L : Nat} (h : LT w L) : L < w.heap.size := by obtain ⟨cs, h, _⟩ := h; exact (Array.getElem?_eq_some_iff.1 h).1
theorem LT.keep {w w' : World} {L : Nat} (h : LT w L) (hb : w'.heap[L]? = w.heap[L]?) : LT w' L := by obtain ⟨cs, h, hs⟩ := h; exact ⟨cs, hb.trans h, hs⟩
theorem LT.set {w : World} {L : Nat} (h : LT w L) (j : Nat) (u : Value) : LT (w.setCell ⟨L, j, none⟩ u) L := by
  obtain ⟨cs, h, hs⟩ := h
  exact ⟨cs.setIfInBounds j u, heap_setCell_same w L j cs _ u h, by simpa using hs⟩
theorem LT.frozen {w : World} {L : Nat} (h : LT w L) (j : Nat) : w.frozen? ⟨L, j, none⟩ = false := by
  obtain ⟨cs, h, _⟩ := h
  simp only [World.frozen?, h]; rfl
theorem LT.kp {w : World} {L : Nat} (h : LT w L) (j : Nat) (u : Value) : Kp w (w.setCell ⟨L, j, none⟩ u) :=
  Kp.of_onl (F := fun b => b = L) (Onl.set (F := fun b => b = L) (Onl.refl _ _) rfl _ _) fun b cs t z hf hb ht => by
    subst hf
    obtain ⟨cs', h, _⟩ := h
    rw [h] at hb; cases hb
    exact not_ixt (by rfl) ht
theorem LT.ne_xi {w : World} {L x : Nat} {l : List En} (h : LT w L) (k : Xi w x l) : x ≠ L := fun e => by
  subst e
  obtain ⟨u, hb⟩ := k.box
  obtain ⟨cs, h, hs⟩ := h
  have h1 := hb.symm.trans h
  simp at h1
theorem LT.ne_ri {w : World} {L d : Nat} {v : Value} {log : List Ch} (h : LT w L) (k : Ri w d v log) : ¬ Ri.has d v L := by
  obtain ⟨cs, h, hs⟩ := h
  rintro (e | e)
  · subst e
    have h1 := (show w.heap[L]? = _ from k.box).symm.trans h
    simp at h1
  · rcases k.own.2 with ⟨rfl, _⟩ | ⟨g, cap, cur, rfl, _, hgb, _⟩
    · simp [Value.ownBlock] at e
    · obtain rfl : g = L := by simpa [Value.ownBlock] using e
      rw [h] at hgb
      simp at hgb
/-- a pair at place o of the array: both indexes hold what the log says -/
structure PairAt (w : World) (B L o x d : Nat) (v : Value) (log : List Ch) : Prop where
  cx : w.cell? ⟨L, o, none⟩ = some (.pointer (some ⟨x, 0, none⟩))
  cd : w.cell? ⟨L, o + 1, none⟩ = some (.pointer (some ⟨d, 0, none⟩))
  xi : Xi w x (ixL log)
  ri : Ri w d v log
  bx : ∀ k, Foot x d v k → B ≤ k
theorem PairAt.foot_lt {w : World} {B L o x d : Nat} {v : Value} {log : List Ch} (h : PairAt w B L o x d v log) {k : Nat} (hk : Foot x d v k) : k < w.heap.size := by
  rcases hk with rfl | rfl | hk
  · exact h.xi.lt
  · exact h.ri.lt
  · exact (h.ri.own.lt k hk).2
/-- what a call that changes one pair does to the rest -/
structure Moved (L o x d : Nat) (v : Value) (x' d' : Nat) (v' : Value) (w w' : World) : Prop where
  onl : Onl (fun k => Foot x d v k ∨ k = L) w w'
  kp : Kp w w'
  foot : ∀ k, Foot x' d' v' k → Foot x d v k ∨ w.heap.size ≤ k
  rest : ∀ j, j ≠ o → j ≠ o + 1 → w'.cell? ⟨L, j, none⟩ = w.cell? ⟨L, j, none⟩
theorem PairAt.other {w w' : World} {B L o x d : Nat} {v : Value} {log : List Ch} {o2 x2 d2 : Nat} {v2 : Value} {x' d' : Nat} {v' : Value} (h : PairAt w B L o x d v log) (m : Moved L o2 x2 d2 v2 x' d' v' w w') (hL : LT w L) (ho : o ≠ o2 ∧ o ≠ o2 + 1 ∧ o + 1 ≠ o2)
    (ha : ∀ k, Foot x d v k → ¬ Foot x2 d2 v2 k) : PairAt w' B L o x d v log := by
  have hn : ∀ k, Foot x d v k → ¬ (Foot x2 d2 v2 k ∨ k = L) := fun k hk hh => hh.elim (ha k hk) (fun e => by
    subst e
    rcases hk with e | e
    · exact hL.ne_xi h.xi e.symm
    · exact hL.ne_ri h.ri e)
  exact ⟨by rw [m.rest o ho.1 ho.2.1]; exact h.cx, by rw [m.rest (o + 1) (by omega) (by omega)]; exact h.cd, h.xi.keep m.kp (m.onl.block x h.xi.lt (hn x (.inl rfl))), h.ri.keep m.onl (fun k hk => hn k (.inr hk)), h.bx⟩
theorem PairAt.later {w w' : World} {B L o x d : Nat} {v : Value} {log : List Ch} (h : PairAt w B L o x d v log) (hb : Below w.heap.size w w') : PairAt w' B L o x d v log :=
  ⟨cell_later hb h.cx, cell_later hb h.cd, h.xi.later hb, h.ri.later hb, h.bx⟩
theorem LT.later {w w' : World} {L : Nat} (h : LT w L) (hb : Below w.heap.size w w') : LT w' L := h.keep (hb.block L h.lt)

/-- what a step makes of a log -/
def chgO (o : Ao) (log : List Ch) : List Ch := if o.k = 1 then [] else if o.k = 2 then log ++ [⟨o.key, o.v, false⟩] else if o.k = 4 then log ++ [⟨o.key, 0, true⟩] else log
theorem chgO_len (o : Ao) (log : List Ch) : (chgO o log).length ≤ log.length + 1 := by
  unfold chgO; split
  · simp
  · split
    · simp
    · split <;> simp
abbrev opV (o : Ao) : Value := .agg #[.int .i64 o.k, .int .i64 o.pl, .string o.key, .string o.hi, .int .i64 o.v, .int .i64 o.st]
abbrev opC (o : Ao) : Array Value := #[.int .i64 o.k, .int .i64 o.pl, .string o.key, .string o.hi, .int .i64 o.v, .int .i64 o.st]
theorem Onl.step {F G : Nat → Prop} {a b c : World} (h : Onl F a b) (k : Onl G b c) (hg : ∀ i, G i → F i ∨ a.heap.size ≤ i) : Onl F a c := h.fresh k hg

set_option maxHeartbeats 4000000 in
theorem made_is {w : World} {B L o x d : Nat} {v : Value} {log : List Ch} (hL : LT w L) (hp : PairAt w B L o x d v log) (hB : B ≤ w.heap.size) :
    Calls Tryd.prog 21 #[.pointer (some ⟨L, o, none⟩)] w fun e w' => ∃ x' d', e = .returned (.bool true) ∧ LT w' L ∧ PairAt w' B L o x' d' (.slice none 0 0) [] ∧ Moved L o x d v x' d' (.slice none 0 0) w w' := by
  have cx := hp.cx
  have cd := hp.cd
  have HP := hid hp
  have HL := hid hL
  have HB := hid hB
  have NX := hid (new_is w)
  clear hL hp hB
  go_enter Tryd.func21, Tryd.ntmps21
  go_wp2_with (first
    | (go_at_call 16; refine NX.out.mono ?_; rintro e w1 ⟨rfl, hx1, hb1⟩; have l1 := HL.out.later hb1; have f1 := l1.frozen o; have y1 := cell_later hb1 cx; have l2 := l1.set o (.pointer (some ⟨w.heap.size, 0, none⟩)); have y2 : (w1.setCell ⟨L, o, none⟩ (.pointer (some ⟨w.heap.size, 0, none⟩))).cell? ⟨L, o + 1, none⟩ = some (.pointer (some ⟨d, 0, none⟩)) := (cell_setc (by simp) (cell_later hb1 cd)); have hx1 := hid hx1; have hb1 := hid hb1)
    | (go_at_call 17; refine (refnew_is _).mono ?_; rintro e w3 ⟨rfl, hr3, hb3⟩; have l3 := l2.later hb3; have f3 := l3.frozen (o + 1); have y3 := cell_later hb3 y2; have y4 : w3.cell? ⟨L, o, none⟩ = some (.pointer (some ⟨w.heap.size, 0, none⟩)) := (cell_later hb3 (World.cell?_setCell_same' _ _ _ (by rw [y1]; rfl))); have hr3 := hid hr3; have hb3 := hid hb3))
  have hs1 : w.heap.size < w1.heap.size := hx1.out.lt
  have hs3 : (w1.setCell ⟨L, o, none⟩ (.pointer (some ⟨w.heap.size, 0, none⟩))).heap.size = w1.heap.size := by simp [World.setCell]
  have hLw := HL.out.lt
  have o1 : Onl (fun k => Foot x d v k ∨ k = L) w w1 := Onl.of_below hb1.out
  have o2 := Onl.set o1 (.inr rfl) o (.pointer (some ⟨w.heap.size, 0, none⟩))
  have o3 := Onl.on o2 hb3.out
  have o4 := Onl.set o3 (.inr rfl) (o + 1) (.pointer (some ⟨w1.heap.size, 0, none⟩))
  have k4 := (((Kp.of_below hb1.out).trans (l1.kp o (.pointer (some ⟨w.heap.size, 0, none⟩)))).trans (Kp.of_below hb3.out)).trans (l3.kp (o + 1) (.pointer (some ⟨w1.heap.size, 0, none⟩)))
  have x2 : Xi (w1.setCell ⟨L, o, none⟩ (.pointer (some ⟨w.heap.size, 0, none⟩))) w.heap.size [] := hx1.out.keep (l1.kp _ _) (Below.heap_setCell _ _ _ _ (by show w.heap.size ≠ L; omega))
  have x4 := (x2.later hb3.out).keep (l3.kp (o + 1) (.pointer (some ⟨w1.heap.size, 0, none⟩))) (Below.heap_setCell _ _ _ _ (by show w.heap.size ≠ L; omega))
  have r3 := hr3.out
  rw [hs3] at r3
  have r4 : Ri (w3.setCell ⟨L, o + 1, none⟩ (.pointer (some ⟨w1.heap.size, 0, none⟩))) w1.heap.size (.slice none 0 0) [] := r3.keep (F := fun k => k = L) (Onl.set (F := fun k => k = L) (Onl.refl _ _) rfl _ _) (fun k hk e => l3.ne_ri r3 (e ▸ hk))
  go_ret
  refine ⟨w.heap.size, w1.heap.size, rfl, l3.set _ _, ⟨cell_setc (by simp) y4, World.cell?_setCell_same' _ _ _ (by rw [y3]; rfl), x4, r4, fun k hk => ?_⟩, ⟨o4, k4, fun k hk => .inr ?_, fun j h1 h2 => ?_⟩⟩
  · have := HB.out
    rcases hk with rfl | rfl | hk
    · omega
    · omega
    · simp [Value.ownBlock] at hk
  · rcases hk with rfl | rfl | hk
    · omega
    · omega
    · simp [Value.ownBlock] at hk
  · rw [World.cell?_setCell_other _ _ _ _ (by intro e; injection e with _ e _; exact h2 e.symm), hb3.out.cell (p := ⟨L, j, none⟩) (by simp [World.setCell]; omega), World.cell?_setCell_other _ _ _ _ (by intro e; injection e with _ e _; exact h1 e.symm), hb1.out.cell (p := ⟨L, j, none⟩) hLw]

end Go.Proofs.YtdllhkjdckcgmaaDoor
