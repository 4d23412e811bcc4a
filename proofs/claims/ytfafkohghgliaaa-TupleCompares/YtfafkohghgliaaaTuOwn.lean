import Derived.Test.YtfafkohghgliaaaTuRow
import Derived.Laws.AppendOwn
import Derived.RangeFuncRecord
/- Rows of values of one's own. -/
namespace Go.Proofs.Ytfafkohghgliaaa.Tu
open Go.RowKit Go.Sort Go.Proofs.Ytfafkohghgliaaa
set_option linter.unusedVariables false
set_option linter.unusedSectionVars false
variable [DecidableEq Vl]

def Vl.cs (v : Vl) : List Value := [.int .i64 v.kd, .bool v.fl, .int .i64 v.n, .string (ofNats v.s)]
def flatV (l : List Vl) : List Value := l.flatMap Vl.cs
theorem flatV_snoc (l : List Vl) (e : Vl) : flatV (l ++ [e]) = flatV l ++ e.cs := by simp [flatV]
theorem flatV_len (l : List Vl) : (flatV l).length = l.length * 4 := by
  induction l with
  | nil => rfl
  | cons v vs ih =>
    have e : flatV (v :: vs) = v.cs ++ flatV vs := rfl
    rw [e, List.length_append, ih]
    show 4 + _ = (vs.length + 1) * 4
    omega
theorem flatV_get : ∀ (l : List Vl) (i o : Nat), i < l.length → o < 4 → (flatV l)[i * 4 + o]? = (nthV l i).cs[o]?
  | [], i, o, h, _ => by simp at h
  | v :: vs, i, o, h, ho => by
    show (v.cs ++ flatV vs)[i * 4 + o]? = _
    have hc : v.cs.length = 4 := rfl
    cases i with
    | zero => rw [List.getElem?_append_left (by rw [hc]; omega)]; simp [nthV]
    | succ i =>
      have e : (i + 1) * 4 + o - v.cs.length = i * 4 + o := by rw [hc]; omega
      rw [List.getElem?_append_right (by rw [hc]; omega), e, flatV_get vs i o (by simpa using h) ho]
      simp [nthV]
/-- a row of values of one's own -/
def OwnV (w : World) (B : Nat) (v : Value) (l : List Vl) : Prop := w.ownsRow B 29 4 v l.length (flatV l)
theorem OwnV.later {w w' : World} {B : Nat} {v : Value} {l : List Vl} (h : OwnV w B v l) (hb : Below w.heap.size w w') : OwnV w' B v l := owns_keep h fun g hg => hb.block g (World.ownsRow.lt h g hg).2
theorem OwnV.nil (w : World) (B : Nat) : OwnV w B (.slice none 0 0) [] := World.ownsRow_nil _ _ _ _
theorem OwnV.base {w : World} {B B' : Nat} {v : Value} {l : List Vl} (h : OwnV w B v l) (hB : B' ≤ B) : OwnV w B' v l := by
  obtain ⟨h1, h2 | ⟨g, cap, cur, hv, hg, r⟩⟩ := h
  · exact ⟨h1, .inl h2⟩
  · exact ⟨h1, .inr ⟨g, cap, cur, hv, Nat.le_trans hB hg, r⟩⟩
theorem OwnV.slice {w : World} {B : Nat} {v : Value} {l : List Vl} (h : OwnV w B v l) : ∃ a c, v = .slice a l.length c := owns_slice h
theorem OwnV.row {w : World} {B c : Nat} {a : Option Addr} {l : List Vl} (h : OwnV w B (.slice a l.length c) l) : RowV w a l := fun i hi => by
  have h' := h
  obtain ⟨_, ⟨e, e2⟩ | ⟨g, cap, cur, e, _, hg, _⟩⟩ := h'
  · omega
  · injection e with e1 _ e3
    subst e1 e3
    have hc : ∀ o, o < 4 → w.cell? ⟨g, i * 4 + o, none⟩ = (nthV l i).cs[o]? := fun o ho => by
      have hlt : i * 4 + o < (flatV l).length := by rw [flatV_len]; omega
      have := World.ownsRow.cells h rfl (i * 4 + o) _ (List.getElem?_eq_getElem hlt)
      rw [Addr.add_lit, Nat.zero_add] at this
      rw [this, ← flatV_get l i o hi ho, List.getElem?_eq_getElem hlt]
    exact ⟨g, 0, rfl, by rw [Nat.zero_add]; exact hc 0 (by omega), by rw [Nat.zero_add]; exact hc 1 (by omega), by rw [Nat.zero_add]; exact hc 2 (by omega), by rw [Nat.zero_add]; exact hc 3 (by omega)⟩
theorem infoVl : (Try.prog.info? 29).map (fun i => (i.zero, i.size, i.bytes)) = some (some (vlv 0 false 0 ⟨#[]⟩), 4, 40) := by kernel_rfl
theorem info_ofT {P : Program} {t : TypeId} {z : Value} {n m : Nat} (h : (P.info? t).map (fun i => (i.zero, i.size, i.bytes)) = some (some z, n, m)) : ∃ i, P.info? t = some i ∧ i.zero = some z ∧ i.size = n ∧ i.bytes = m := by
  obtain ⟨i, hi, he⟩ := Option.map_eq_some_iff.1 h
  simp only [Prod.mk.injEq] at he
  exact ⟨i, hi, he.1, he.2.1, he.2.2⟩
/-- a value's cells -/
def CellV (w : World) (g : Nat) (x : Vl) : Prop := w.cell? ⟨g, 0, none⟩ = some (.int .i64 x.kd) ∧ w.cell? ⟨g, 1, none⟩ = some (.bool x.fl) ∧ w.cell? ⟨g, 2, none⟩ = some (.int .i64 x.n) ∧ w.cell? ⟨g, 3, none⟩ = some (.string (ofNats x.s))
theorem newV (w : World) (x : Vl) (t : TypeId) : CellV (w.alloc (.cells #[.int .i64 x.kd, .bool x.fl, .int .i64 x.n, .string (ofNats x.s)] t)) w.heap.size x := by
  have h := World.alloc_heap_new w (.cells #[.int .i64 x.kd, .bool x.fl, .int .i64 x.n, .string (ofNats x.s)] t)
  exact ⟨by simp only [World.cell?, h]; rfl, by simp only [World.cell?, h]; rfl, by simp only [World.cell?, h]; rfl, by simp only [World.cell?, h]; rfl⟩
theorem append_V {w : World} {ops : Array Oper} {rest : List Oper} {o : Oper} {a : Act} {Q : Exit → Act → World → Prop} (hg : o.guard = none) (s x : Operand)
    (hop : o.op = Op.call { callee := Callee.builtin Builtin.append, args := #[s, x], argTypes := #[22, 22] }) {B : Nat} {v : Value} {l : List Vl} (e : Vl) (hs : a.eval s = v) (hown : OwnV w B v l)
    {g : Nat} (hx : a.eval x = .slice (some ⟨g, 0, none⟩) 1 1) (c : CellV w g e) (hl : (l.length + 1) * 64 ≤ 140737488355328) (hB : B ≤ w.heap.size)
    (hK : ∀ v' w', OwnV w' B v' (l ++ [e]) → w.grownBy w' v.ownBlock → wpList Try.prog ops Q rest (a.put o.dst v') w') : wpList Try.prog ops Q (o :: rest) a w := by
  obtain ⟨i0, hi, hz0, hz1, hz2⟩ := info_ofT infoVl
  refine wpList_append_own _ hg s x 22 hop B 29 i0 (vlv 0 false 0 ⟨#[]⟩) 4 40 Try.underlying22 hi hz0 hz1 hz2 rfl (by decide) v l.length (flatV l) hs hown ⟨g, 0, none⟩ 1 1 e.cs hx rfl ?_ ?_ (by unfold maxLen; omega) (by omega) hB ?_
  · intro j u hj
    obtain ⟨c0, c1, c2, c3⟩ := c
    match j, hj with
    | 0, hj => simp [Vl.cs] at hj; subst hj; exact c0
    | 1, hj => simp [Vl.cs] at hj; subst hj; exact c1
    | 2, hj => simp [Vl.cs] at hj; subst hj; exact c2
    | 3, hj => simp [Vl.cs] at hj; subst hj; exact c3
    | j + 4, hj => simp [Vl.cs] at hj
  · intro u hu; simp [Vl.cs] at hu; rcases hu with rfl | rfl | rfl | rfl <;> rfl
  · intro v' w' ho hgr _
    refine hK v' w' ?_ hgr
    show w'.ownsRow B _ 4 v' (l ++ [e]).length (flatV (l ++ [e]))
    rw [flatV_snoc, List.length_append]
    exact ho
theorem OwnV.grown {w w' : World} {B : Nat} {v : Value} {l : List Vl} {a : World} (h : OwnV w B v l) (hg : w.grownBy w' v.ownBlock) (ha : Below B a w) (hB : B ≤ a.heap.size) : Below B a w' :=
  Below.grown ha hg (Nat.le_trans hB ha.size) (fun g hv => (World.ownsRow.lt h g hv).1)
end Go.Proofs.Ytfafkohghgliaaa.Tu
