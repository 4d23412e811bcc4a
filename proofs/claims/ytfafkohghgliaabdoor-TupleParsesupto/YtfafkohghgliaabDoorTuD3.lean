import Derived.Test.YtfafkohghgliaabDoorTuRoom
import Derived.Test.YtfafkohghgliaabDoorLKeep
import Derived.Laws.OwnMore
/- Rows that are written over and lengthened, for the laws. -/
namespace Go.Proofs.YtfafkohghgliaabDoor.Tu
open Go.RowKit Go.Sort Go.Proofs.YtfafkohghgliaabDoor
set_option linter.unusedVariables false
set_option linter.unusedSectionVars false
variable [DecidableEq Vl]

/-- the row lies in blocks that were made behind these -/
theorem OwnV.owner {w : World} {B : Nat} {v : Value} {l : List Vl} (h : OwnV w B v l) : ∀ g, v.ownBlock = some g → B ≤ g ∧ g < w.heap.size := fun g hg => World.ownsRow.lt h g hg
/-- a row of one's own, as a block that may be written -/
theorem OwnV.rm {w : World} {B c : Nat} {a : Option Addr} {l : List Vl} (h : OwnV w B (.slice a l.length c) l) (hn : 0 < l.length) : ∃ g, a = some ⟨g, 0, none⟩ ∧ Rm w g (nthV l) l.length ∧ B ≤ g := by
  have hr := h.row
  obtain ⟨_, ⟨e, e2⟩ | ⟨g, cap, cur, e, hB, hg, _⟩⟩ := h
  · omega
  · injection e with e1 _ e3
    subst e1 e3
    refine ⟨g, rfl, ⟨fun i hi => ?_, fun o => frozen_of_row w g o _ _ hg, (Array.getElem?_eq_some_iff.1 hg).1⟩, hB⟩
    obtain ⟨b, off, e, c0, c1, c2, c3⟩ := hr i hi
    injection e with e
    injection e with e1 e2
    subst e1 e2
    rw [Nat.zero_add] at c0 c1 c2 c3
    exact ⟨c0, c1, c2, c3⟩
theorem append_K {w : World} {ops : Array Oper} {rest : List Oper} {o : Oper} {a : Act} {Q : Exit → Act → World → Prop} (hg : o.guard = none) (s x : Operand)
    (hop : o.op = Op.call { callee := Callee.builtin Builtin.append, args := #[s, x], argTypes := #[22, 22] }) {B : Nat} {v : Value} {l : List Vl} (e : Vl) (hs : a.eval s = v) (hown : OwnV w B v l)
    {g : Nat} (hx : a.eval x = .slice (some ⟨g, 0, none⟩) 1 1) (c : CellV w g e) (hl : (l.length + 1) * 64 ≤ 140737488355328) (hB : B ≤ w.heap.size)
    (hK : ∀ v' w', OwnV w' B v' (l ++ [e]) → w.grownBy w' v.ownBlock → (v'.ownBlock = v.ownBlock ∨ ∃ k, v'.ownBlock = some k ∧ w.heap.size ≤ k) → wpList Tryd.prog ops Q rest (a.put o.dst v') w') : wpList Tryd.prog ops Q (o :: rest) a w := by
  obtain ⟨i0, hi, hz0, hz1, hz2⟩ := info_ofT infoVl
  refine wpList_append_keep _ hg s x 22 hop B 32 i0 (vlv 0 false 0 ⟨#[]⟩) 4 40 Tryd.underlying22 hi hz0 hz1 hz2 rfl (by decide) v l.length (flatV l) hs hown ⟨g, 0, none⟩ 1 1 e.cs hx rfl ?_ ?_ (by unfold maxLen; omega) (by omega) hB (by decide) ?_
  · intro j u hj
    obtain ⟨c0, c1, c2, c3⟩ := c
    match j, hj with
    | 0, hj => simp [Vl.cs] at hj; subst hj; exact c0
    | 1, hj => simp [Vl.cs] at hj; subst hj; exact c1
    | 2, hj => simp [Vl.cs] at hj; subst hj; exact c2
    | 3, hj => simp [Vl.cs] at hj; subst hj; exact c3
    | j + 4, hj => simp [Vl.cs] at hj
  · intro u hu; simp [Vl.cs] at hu; rcases hu with rfl | rfl | rfl | rfl <;> rfl
  · intro v' w' ho hgr _ hor
    refine hK v' w' ?_ hgr hor
    show w'.ownsRow B _ 4 v' (l ++ [e]).length (flatV (l ++ [e]))
    rw [flatV_snoc, List.length_append]
    exact ho
theorem flatV_set : ∀ (l : List Vl) (k : Nat) (y : Vl), flatV (l.set k y) = ((((flatV l).set (k * 4) (.int .i64 y.kd)).set (k * 4 + 1) (.bool y.fl)).set (k * 4 + 2) (.int .i64 y.n)).set (k * 4 + 3) (.string (ofNats y.s))
  | [], k, y => by simp [flatV]
  | x :: l, 0, y => rfl
  | x :: l, k + 1, y => by
    have ih := flatV_set l k y
    have e : ∀ z : List Vl, flatV (x :: z) = .int .i64 x.kd :: .bool x.fl :: .int .i64 x.n :: .string (ofNats x.s) :: flatV z := fun z => rfl
    have e2 : (k + 1) * 4 = k * 4 + 4 := by omega
    rw [List.set_cons_succ, e, e, ih, e2]
    rfl
theorem OwnV.put {w : World} {B g c : Nat} {l : List Vl} (h : OwnV w B (.slice (some ⟨g, 0, none⟩) l.length c) l) (k : Nat) (y : Vl) : OwnV (setV w g k y) B (.slice (some ⟨g, 0, none⟩) (l.set k y).length c) (l.set k y) := by
  have h0 := (World.ownsRow.stored h (k * 4) (.int .i64 y.kd)).1
  have h1 := (World.ownsRow.stored h0 (k * 4 + 1) (.bool y.fl)).1
  have h2 := (World.ownsRow.stored h1 (k * 4 + 2) (.int .i64 y.n)).1
  have h3 := (World.ownsRow.stored h2 (k * 4 + 3) (.string (ofNats y.s))).1
  show World.ownsRow _ _ _ _ _ (l.set k y).length (flatV (l.set k y))
  rw [flatV_set, List.length_set]
  exact h3
/-- three rows while the first is written over and lengthened -/
structure D3 (w wr : World) (J M n : Nat) (v v2 v3 : Value) (T : List Vl) : Prop where
  own : ∃ l : List Vl, l.length = n ∧ OwnV wr w.heap.size v l
  two : OwnV wr 0 v2 T
  tri : OwnV wr 0 v3 T
  far2 : ∀ k, v2.ownBlock = some k → J ≤ k ∧ k < M
  far3 : ∀ k, v3.ownBlock = some k → J ≤ k ∧ k < M
  far : ∀ k, v.ownBlock = some k → k < J ∨ M ≤ k
  size : M ≤ wr.heap.size
  bel : Below w.heap.size w wr
theorem D3.put {w wr : World} {J M n g c : Nat} {v2 v3 : Value} {T : List Vl} (h : D3 w wr J M n (.slice (some ⟨g, 0, none⟩) n c) v2 v3 T) (k : Nat) (y : Vl) (hg : w.heap.size ≤ g) : D3 w (setV wr g k y) J M n (.slice (some ⟨g, 0, none⟩) n c) v2 v3 T := by
  obtain ⟨l, rfl, ho⟩ := h.own
  have hf := h.far g rfl
  have ho2 : Onl (fun k => k = g) wr (setV wr g k y) := ((((Onl.refl (fun k => k = g) wr).set (p := g) rfl _ _).set (p := g) rfl _ _).set (p := g) rfl _ _).set (p := g) rfl _ _
  refine ⟨⟨l.set k y, by simp, by have := ho.put k y; rwa [List.length_set] at this⟩, owns_onl h.two ho2 (fun j hj => by have := h.far2 j hj; omega), owns_onl h.tri ho2 (fun j hj => by have := h.far3 j hj; omega), h.far2, h.far3, h.far, by simpa using h.size, ?_⟩
  exact Below.setCell (Below.setCell (Below.setCell (Below.setCell h.bel hg _) hg _) hg _) hg _
theorem D3.grow {w wr w' : World} {J M n : Nat} {v v' v2 v3 : Value} {T l : List Vl} {O : Obj} (h : D3 w wr J M n v v2 v3 T) (hl : l.length = n + 1) (ho : OwnV w' w.heap.size v' l) (hg : (wr.alloc O).grownBy w' v.ownBlock)
    (hor : v'.ownBlock = v.ownBlock ∨ ∃ k, v'.ownBlock = some k ∧ (wr.alloc O).heap.size ≤ k) (hlow : ∀ k, v.ownBlock = some k → w.heap.size ≤ k) : D3 w w' J M (n + 1) v' v2 v3 T := by
  have ho2 : Onl (fun k => v.ownBlock = some k) wr w' := (Onl.al (Onl.refl _ wr) O).trans (grown_onl hg)
  refine ⟨⟨l, hl, ho⟩, owns_onl h.two ho2 (fun j hj hk => by have := h.far2 j hj; have := h.far j hk; omega), owns_onl h.tri ho2 (fun j hj hk => by have := h.far3 j hj; have := h.far j hk; omega), h.far2, h.far3, ?_, Nat.le_trans h.size ho2.size, ?_⟩
  · intro k hk
    rcases hor with e | ⟨j, e, hj⟩
    · rw [e] at hk; exact h.far k hk
    · rw [e] at hk; injection hk with hk; subst hk
      have := h.size
      simp at hj
      right; omega
  · exact h.bel.trans (ho2.below (fun k hk => hlow k hk) h.bel.size)
theorem OwnV.zero {w : World} {B : Nat} {v : Value} {l : List Vl} (h : OwnV w B v l) : OwnV w 0 v l := h.base (Nat.zero_le _)
end Go.Proofs.YtfafkohghgliaabDoor.Tu
