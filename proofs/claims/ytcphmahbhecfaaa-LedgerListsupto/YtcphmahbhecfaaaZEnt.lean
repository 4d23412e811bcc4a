import Derived.Test.YtcphmahbhecfaaaZBase
import Derived.Test.YtcphmahbhecfaaaLKeep
import Derived.Deep.AppendLies
/- Lists of entries in blocks of their own, and a book of pairs of them (written by mk_zent.py). -/
namespace Go.Proofs.Ytcphmahbhecfaaa.Lg
open Go.RowKit Go.Sort Go.Shelf Go.Lib Lk
set_option linter.unusedVariables false

/-- a row of entries in a block of its own -/
abbrev OwnE (w : World) (B : Nat) (v : Value) (U : List En) : Prop := w.ownsRow B 36 7 v U.length (U.flatMap ecs)
theorem OwnE.later {w w' : World} {B : Nat} {v : Value} {U : List En} (h : OwnE w B v U) (hb : Below w.heap.size w w') : OwnE w' B v U := owns_keep h fun g hg => hb.block g (World.ownsRow.lt h g hg).2
theorem OwnE.base {w : World} {B B' : Nat} {v : Value} {U : List En} (h : OwnE w B v U) (hB : B' ≤ B) : OwnE w B' v U := owns_base h hB
theorem OwnE.zero {w : World} {B : Nat} {v : Value} {U : List En} (h : OwnE w B v U) : OwnE w 0 v U := owns_base h (Nat.zero_le _)
theorem grown_below {w w' : World} {row : Option Nat} {B : Nat} {a : World} (hg : w.grownBy w' row) (ha : Below B a w) (hB : B ≤ a.heap.size) (hr : ∀ k, row = some k → B ≤ k) : Below B a w' :=
  ha.trans ⟨hg.os, hg.tape, hg.output, hg.size, fun k hk => hg.block k (by have := ha.size; omega) (fun e => by have := hr k e.symm; omega)⟩
theorem grownBy_refl (w : World) (row : Option Nat) : w.grownBy w row := ⟨rfl, rfl, rfl, Nat.le_refl _, fun _ _ _ => rfl⟩
theorem grownBy_of {w w' : World} (hb : Below w.heap.size w w') (row : Option Nat) : w.grownBy w' row := ⟨hb.os, hb.tape, hb.output, hb.size, fun k hk _ => hb.block k hk⟩
theorem grownBy_trans {w w' w'' : World} {row row' : Option Nat} (h : w.grownBy w' row) (h' : w'.grownBy w'' row') (hr : row' = row ∨ ∀ k, row' = some k → w.heap.size ≤ k) : w.grownBy w'' row :=
  ⟨h'.os.trans h.os, h'.tape.trans h.tape, h'.output.trans h.output, Nat.le_trans h.size h'.size, fun k hk hne => (h'.block k (Nat.lt_of_lt_of_le hk h.size) (fun e => by
    rcases hr with hr | hr
    · exact hne (by rw [e, hr])
    · have := hr k e.symm; omega)).trans (h.block k hk hne)⟩
theorem newsE (w : World) (x : En) : ∀ (j : Nat) (u : Value), (ecs x)[j]? = some u → (w.alloc (.cells #[.int .u32 x.id.1, .int .u32 x.id.2, .int .u32 x.home, .int .i64 x.oc, .int .u64 x.w, .int .u32 x.l, .int .u32 x.n] 36)).cell? ((⟨w.heap.size, 0, none⟩ : Addr).add j) = some u := fun j u hj => by
  rw [Addr.add_lit, Nat.zero_add]
  exact cell_of_obj (MapKept.heap_alloc _ _).1 (by simpa using hj)
/-- append to a row of entries -/
theorem append_E {w : World} {ops : Array Oper} {rest : List Oper} {o : Oper} {a : Act} {Q : Exit → Act → World → Prop} (hg : o.guard = none) (s x : Operand)
    (hop : o.op = Op.call { callee := Callee.builtin Builtin.append, args := #[s, x], argTypes := #[22, 22] }) {B : Nat} {v : Value} {U : List En} (t : En) (hs : a.eval s = v) (hown : OwnE w B v U)
    {g : Nat} (hx : a.eval x = .slice (some ⟨g, 0, none⟩) 1 1) (c : ∀ (j : Nat) (u : Value), (ecs t)[j]? = some u → w.cell? ((⟨g, 0, none⟩ : Addr).add j) = some u) (hl : (U.length + 1) * 64 ≤ 140737488355328) (hB : B ≤ w.heap.size)
    (hK : ∀ v' w', OwnE w' B v' (U ++ [t]) → w.grownBy w' v.ownBlock → OwnE w' B v U → (v'.ownBlock = v.ownBlock ∨ ∃ k, v'.ownBlock = some k ∧ w.heap.size ≤ k) → wpList Try.prog ops Q rest (a.put o.dst v') w') : wpList Try.prog ops Q (o :: rest) a w := by
  obtain ⟨i0, hi, hz0, hz1, hz2⟩ := info_of infoEn
  refine wpList_append_keep _ hg s x 22 hop B 36 i0 (En.val En.zero) 7 40 Try.underlying22 hi hz0 hz1 hz2 rfl (by decide) v U.length (U.flatMap ecs) hs hown ⟨g, 0, none⟩ 1 1 (ecs t) hx rfl c (ecs_one t) (by unfold maxLen; omega) (by omega) hB (by decide) ?_
  intro v' w' ho hgr hk hn
  refine hK v' w' ?_ hgr hk hn
  show w'.ownsRow B _ 7 v' (U ++ [t]).length ((U ++ [t]).flatMap ecs)
  rw [List.length_append, List.flatMap_append]
  simpa using ho

/-- a list and what must stand in it -/
abbrev En2 := Value × Value
def Ent (w : World) (e : En2) : Prop := ∃ U : List En, U.length ≤ 2000000 ∧ OwnE w 0 e.1 U ∧ OwnE w 0 e.2 U
/-- a row lies elsewhere -/
def Off (row : Option Nat) (e : En2) : Prop := (e.1.ownBlock = none ∨ e.1.ownBlock ≠ row) ∧ (e.2.ownBlock = none ∨ e.2.ownBlock ≠ row)
theorem Ent.kept {w w' : World} {e : En2} {row : Option Nat} (h : Ent w e) (hg : w.grownBy w' row) (ho : Off row e) : Ent w' e := by
  obtain ⟨T, hT, h1, h2⟩ := h
  exact ⟨T, hT, World.ownsRow.kept h1 hg ho.1, World.ownsRow.kept h2 hg ho.2⟩
theorem Ent.later {w w' : World} {e : En2} (h : Ent w e) (hb : Below w.heap.size w w') : Ent w' e := by
  obtain ⟨T, hT, h1, h2⟩ := h
  exact ⟨T, hT, h1.later hb, h2.later hb⟩
def flatW2 (l : List En2) : List Value := l.flatMap fun e => [e.1, e.2]
theorem flatW2_append (l m : List En2) : flatW2 (l ++ m) = flatW2 l ++ flatW2 m := by simp [flatW2]
theorem flatW2_len (l : List En2) : (flatW2 l).length = l.length * 2 := by
  induction l with
  | nil => rfl
  | cons e l ih => simp only [flatW2, List.flatMap_cons, List.length_append, List.length_cons, List.length_nil] at ih ⊢; omega
def nthW2 (l : List En2) (i : Nat) : En2 := (l[i]?).getD (.slice none 0 0, .slice none 0 0)
theorem nthW2_take {l : List En2} {i : Nat} (h : i < l.length) : l.take (i + 1) = l.take i ++ [nthW2 l i] := by
  rw [List.take_add_one, nthW2, List.getElem?_eq_getElem h]; rfl
theorem nthW2_mem {l : List En2} {i : Nat} (h : i < l.length) : nthW2 l i ∈ l := by
  rw [nthW2, List.getElem?_eq_getElem h]; exact List.getElem_mem h
theorem flatW2_at (l : List En2) (i : Nat) (h : i < l.length) : (flatW2 l)[i * 2]? = some (nthW2 l i).1 ∧ (flatW2 l)[i * 2 + 1]? = some (nthW2 l i).2 := by
  have e : l = l.take i ++ nthW2 l i :: l.drop (i + 1) := by
    have h1 := List.take_append_drop (i + 1) l
    rw [nthW2_take h, List.append_assoc] at h1
    exact h1.symm
  have e2 : flatW2 l = flatW2 (l.take i) ++ ((nthW2 l i).1 :: (nthW2 l i).2 :: flatW2 (l.drop (i + 1))) := by
    conv => lhs; rw [e]
    rw [flatW2_append]; rfl
  have hl : (flatW2 (l.take i)).length = i * 2 := by rw [flatW2_len, List.length_take, Nat.min_eq_left (by omega)]
  constructor
  · rw [e2, List.getElem?_append_right (by omega), hl]; simp
  · rw [e2, List.getElem?_append_right (by omega), hl]; simp
abbrev OwnW2 (w : World) (B : Nat) (v : Value) (l : List En2) : Prop := w.ownsRow B 58 2 v l.length (flatW2 l)
theorem OwnW2.later {w w' : World} {B : Nat} {v : Value} {l : List En2} (h : OwnW2 w B v l) (hb : Below w.heap.size w w') : OwnW2 w' B v l := owns_keep h fun g hg => hb.block g (World.ownsRow.lt h g hg).2
/-- the cells of a row of pairs -/
def RowW2 (w : World) (a : Option Addr) (l : List En2) : Prop := ∀ i, i < l.length → ∃ b, a = some ⟨b, 0, none⟩ ∧ w.cell? ⟨b, i * 2, none⟩ = some (nthW2 l i).1 ∧ w.cell? ⟨b, i * 2 + 1, none⟩ = some (nthW2 l i).2
theorem RowW2.later {w w' : World} {a : Option Addr} {l : List En2} (h : RowW2 w a l) (hb : Below w.heap.size w w') : RowW2 w' a l := fun i hi => by
  obtain ⟨b, e, h0, h1⟩ := h i hi
  exact ⟨b, e, cell_later hb h0, cell_later hb h1⟩
theorem OwnW2.row {w : World} {B : Nat} {v : Value} {l : List En2} (h : OwnW2 w B v l) : ∃ a c, v = .slice a l.length c ∧ RowW2 w a l := by
  have h' := h
  obtain ⟨hl, ⟨rfl, h0⟩ | ⟨g, cap, cur, rfl, _⟩⟩ := h'
  · exact ⟨none, 0, by rw [h0], fun i hi => by omega⟩
  · refine ⟨_, cap, rfl, fun i hi => ⟨g, rfl, ?_, ?_⟩⟩
    · rw [World.ownsRow.cellAt h (i * 2) (by omega)]; exact (flatW2_at l i hi).1
    · rw [World.ownsRow.cellAt h (i * 2 + 1) (by omega)]; exact (flatW2_at l i hi).2

theorem infoHeld : (Try.prog.info? 58).map (fun i => (i.zero, i.size, i.bytes)) = some (some (.agg #[.slice none 0 0, .slice none 0 0]), 2, 48) := by kernel_rfl
/-- append to a row of pairs -/
theorem append_W2 {w : World} {ops : Array Oper} {rest : List Oper} {o : Oper} {a : Act} {Q : Exit → Act → World → Prop} (hg : o.guard = none) (s x : Operand)
    (hop : o.op = Op.call { callee := Callee.builtin Builtin.append, args := #[s, x], argTypes := #[28, 28] }) {B : Nat} {v : Value} {l : List En2} (e : En2) (hs : a.eval s = v) (hown : OwnW2 w B v l)
    {g : Nat} (hx : a.eval x = .slice (some ⟨g, 0, none⟩) 1 1) (c0 : w.cell? ⟨g, 0, none⟩ = some e.1) (c1 : w.cell? ⟨g, 1, none⟩ = some e.2) (o0 : e.1.oneCell' = true) (o1 : e.2.oneCell' = true) (hl : (l.length + 1) * 64 ≤ 140737488355328) (hB : B ≤ w.heap.size)
    (hK : ∀ v' w', OwnW2 w' B v' (l ++ [e]) → w.grownBy w' v.ownBlock → (v'.ownBlock = v.ownBlock ∨ ∃ k, v'.ownBlock = some k ∧ w.heap.size ≤ k) → wpList Try.prog ops Q rest (a.put o.dst v') w') : wpList Try.prog ops Q (o :: rest) a w := by
  obtain ⟨i0, hi, hz0, hz1, hz2⟩ := info_of infoHeld
  refine wpList_append_keep _ hg s x 28 hop B 58 i0 _ 2 48 Try.underlying28 hi hz0 hz1 hz2 rfl (by decide) v l.length (flatW2 l) hs hown ⟨g, 0, none⟩ 1 1 [e.1, e.2] hx rfl ?_ ?_ (by unfold maxLen; omega) (by omega) hB (by decide) ?_
  · intro j u hj
    match j, hj with
    | 0, hj => simp at hj; subst hj; exact c0
    | 1, hj => simp at hj; subst hj; exact c1
    | j + 2, hj => simp at hj
  · intro u hu
    simp at hu
    rcases hu with rfl | rfl
    · exact o0
    · exact o1
  · intro v' w' ho hgr _ hn
    refine hK v' w' ?_ hgr hn
    show w'.ownsRow B _ 2 v' (l ++ [e]).length (flatW2 (l ++ [e]))
    rw [List.length_append, flatW2_append]
    exact ho
theorem new2v (w : World) (a b : Value) (t : TypeId) : (w.alloc (.cells #[a, b] t)).cell? ⟨w.heap.size, 0, none⟩ = some a ∧ (w.alloc (.cells #[a, b] t)).cell? ⟨w.heap.size, 1, none⟩ = some b := by
  have h := World.alloc_heap_new w (.cells #[a, b] t)
  exact ⟨cell_of_obj h rfl, cell_of_obj h rfl⟩
/-- rows of different types lie apart -/
theorem rows_apart {w : World} {b1 b2 n1 n2 s1 s2 : Nat} {e1 e2 : TypeId} {v1 v2 : Value} {xs ys : List Value} (h1 : w.ownsRow b1 e1 s1 v1 n1 xs) (h2 : w.ownsRow b2 e2 s2 v2 n2 ys) (hne : e1 ≠ e2) : v1.ownBlock = none ∨ v1.ownBlock ≠ v2.ownBlock := by
  obtain ⟨_, ⟨rfl, _⟩ | ⟨g, cap, cur, rfl, _, hg, _⟩⟩ := h1
  · exact .inl rfl
  · right
    obtain ⟨_, ⟨rfl, _⟩ | ⟨g', cap', cur', rfl, _, hg', _⟩⟩ := h2
    · simp [Value.ownBlock]
    · simp only [Value.ownBlock]
      intro e
      injection e with e
      subst e
      rw [hg] at hg'
      injection hg' with hg'
      injection hg' with _ e _
      exact hne e
end Go.Proofs.Ytcphmahbhecfaaa.Lg
