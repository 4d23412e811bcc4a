import Derived.Test.YtfafkohghgliaabDoorTuRow
import Derived.Laws.AppendOwn
import Derived.Lib.AppendStr
import Derived.Lib.Builder
import Derived.RangeFuncRecord
/- Rows of bytes of one's own, as the program makes them. -/
namespace Go.Proofs.YtfafkohghgliaabDoor.Tu
open Go.RowKit Go.Sort Go.Proofs.YtfafkohghgliaabDoor
set_option linter.unusedVariables false
set_option linter.unusedSectionVars false
variable [DecidableEq Vl]

def bc (l : List Nat) : List Value := l.map fun (b : Nat) => Value.int .u8 (b : Int)
theorem bc_len (l : List Nat) : (bc l).length = l.length := List.length_map _
theorem bc_app (a b : List Nat) : bc (a ++ b) = bc a ++ bc b := by simp [bc]
theorem bc_one (l : List Nat) : ∀ u ∈ bc l, u.oneCell' = true := by
  intro u hu
  obtain ⟨x, _, rfl⟩ := List.mem_map.1 hu
  rfl
theorem bc_get {l : List Nat} {i : Nat} (h : i < l.length) : (bc l)[i]? = some (.int .u8 (l[i] : Int)) := by simp [bc, h]
theorem infoU8 : (Tryd.prog.info? 5).map (fun i => (i.zero, i.size, i.bytes)) = some (some (.int .u8 0), 1, 1) := by kernel_rfl
/-- a row of bytes of one's own -/
def OwnB (w : World) (B : Nat) (v : Value) (l : List Nat) : Prop := w.ownsRow B 5 1 v l.length (bc l)
theorem OwnB.nil (w : World) (B : Nat) : OwnB w B (.slice none 0 0) [] := World.ownsRow_nil _ _ _ _
theorem OwnB.later {w w' : World} {B : Nat} {v : Value} {l : List Nat} (h : OwnB w B v l) (hb : Below w.heap.size w w') : OwnB w' B v l := owns_keep h fun g hg => hb.block g (World.ownsRow.lt h g hg).2
theorem OwnB.slice {w : World} {B : Nat} {v : Value} {l : List Nat} (h : OwnB w B v l) : ∃ a c, v = .slice a l.length c := owns_slice h
theorem OwnB.apart {w : World} {B : Nat} {v : Value} {l : List Nat} {r : Nat} {cs : Array Value} {T : TypeId} {fr : Nat × Nat} (h : OwnB w B v l) (hr : w.heap[r]? = some (.cells cs T fr)) (hT : T ≠ 5) : some r ≠ v.ownBlock := by
  obtain ⟨_, ⟨rfl, _⟩ | ⟨g, cap, cur, rfl, _, hg, _⟩⟩ := h
  · intro e; cases e
  · intro e
    injection e with e
    rw [e] at hr
    rw [hg] at hr
    injection hr with hr
    injection hr with _ h2
    exact hT h2.symm
theorem OwnB.grown {w w' a : World} {B : Nat} {v : Value} {l : List Nat} (h : OwnB w B v l) (hg : w.grownBy w' v.ownBlock) (ha : Below B a w) (hB : B ≤ a.heap.size) : Below B a w' :=
  Below.grown ha hg (Nat.le_trans hB ha.size) (fun g hv => (World.ownsRow.lt h g hv).1)
theorem OwnB.keeps {w w' : World} {B : Nat} {v : Value} {l : List Nat} {r : Nat} {cs : Array Value} {T : TypeId} {fr : Nat × Nat} (h : OwnB w B v l) (hg : w.grownBy w' v.ownBlock) (hr : w.heap[r]? = some (.cells cs T fr)) (hT : T ≠ 5) : w'.heap[r]? = some (.cells cs T fr) := by
  have hlt : r < w.heap.size := (Array.getElem?_eq_some_iff.1 hr).1
  rw [hg.block r hlt (h.apart hr hT)]
  exact hr
/-- append(b, s...) of bytes that lie somewhere -/
theorem append_B {w : World} {ops : Array Oper} {rest : List Oper} {o : Oper} {a : Act} {Q : Exit → Act → World → Prop} (hg : o.guard = none) (s x : Operand)
    (hop : o.op = Op.call { callee := Callee.builtin Builtin.append, args := #[s, x], argTypes := #[50, 50] }) {B : Nat} {v : Value} {l : List Nat} (t : List Nat) (hs : a.eval s = v) (hown : OwnB w B v l)
    {g p m c : Nat} (hx : a.eval x = .slice (some ⟨g, p, none⟩) m c) (hm : m = t.length) (hc : ∀ i, (hi : i < t.length) → w.cell? ⟨g, p + i, none⟩ = some (.int .u8 (t[i] : Int))) (hl : l.length + t.length ≤ 140737488355328) (hB : B ≤ w.heap.size)
    (hK : ∀ v' w', OwnB w' B v' (l ++ t) → w.grownBy w' v.ownBlock → wpList Tryd.prog ops Q rest (a.put o.dst v') w') : wpList Tryd.prog ops Q (o :: rest) a w := by
  obtain ⟨i0, hi, hz⟩ := Option.map_eq_some_iff.1 infoU8
  simp only [Prod.mk.injEq] at hz
  obtain ⟨hz0, hz1, hz2⟩ := hz
  subst hm
  refine wpList_append_own _ hg s x 50 hop B 5 i0 (.int .u8 0) 1 1 Tryd.underlying50 hi hz0 hz1 hz2 rfl (by decide) v l.length (bc l) hs hown ⟨g, p, none⟩ t.length c (bc t) hx (by rw [bc_len, Nat.mul_one]) ?_ (bc_one t) (by unfold maxLen; omega) (by omega) hB ?_
  · intro j u hj
    have hjl : j < t.length := by
      have := (List.getElem?_eq_some_iff.1 hj).1; rwa [bc_len] at this
    rw [bc_get hjl] at hj
    rw [Addr.add_lit, hc j hjl]
    exact hj
  · intro v' w' ho hgr _
    refine hK v' w' ?_ hgr
    show w'.ownsRow B _ 1 v' (l ++ t).length (bc (l ++ t))
    rw [bc_app, List.length_append]
    exact ho
theorem strCells_bc {t : List Nat} (ht : B8 t) : Lib.strCells (ofNats t) = bc t := by
  have h := nums_ofNats ht
  unfold nums at h
  rw [Lib.strCells, bc]
  conv => rhs; rw [← h]
  rw [List.map_map]
  rfl
/-- append(b, s...) of a text -/
theorem append_S {w : World} {ops : Array Oper} {rest : List Oper} {o : Oper} {a : Act} {Q : Exit → Act → World → Prop} (hg : o.guard = none) (s x : Operand)
    (hop : o.op = Op.call { callee := Callee.builtin Builtin.append, args := #[s, x], argTypes := #[50, 9] }) {B : Nat} {v : Value} {l : List Nat} (t : List Nat) (ht : B8 t) (hs : a.eval s = v) (hown : OwnB w B v l)
    (hx : a.eval x = .string (ofNats t)) (hl : l.length + t.length ≤ 140737488355328) (hB : B ≤ w.heap.size)
    (hK : ∀ v' w', OwnB w' B v' (l ++ t) → w.grownBy w' v.ownBlock → wpList Tryd.prog ops Q rest (a.put o.dst v') w') : wpList Tryd.prog ops Q (o :: rest) a w := by
  obtain ⟨i0, hi, hz⟩ := Option.map_eq_some_iff.1 infoU8
  simp only [Prod.mk.injEq] at hz
  obtain ⟨hz0, hz1, hz2⟩ := hz
  have hsz := ofNats_size t
  refine Lib.wpList_append_own_string _ hg s x 50 9 hop B 5 i0 Tryd.underlying50 Tryd.underlying9 hi hz0 hz1 hz2 v l.length (bc l) hs hown (ofNats t) hx (by rw [hsz]; unfold maxLen; omega) (by rw [hsz]; omega) hB ?_
  intro v' w' ho hgr _
  refine hK v' w' ?_ hgr
  show w'.ownsRow B _ 1 v' (l ++ t).length (bc (l ++ t))
  rw [bc_app, List.length_append, ← strCells_bc ht]
  rw [hsz] at ho
  exact ho
theorem OwnB.cell {w : World} {B : Nat} {g n c : Nat} {l : List Nat} (h : OwnB w B (.slice (some ⟨g, 0, none⟩) n c) l) (i : Nat) (hi : i < l.length) : w.cell? ⟨g, i, none⟩ = some (.int .u8 (l[i] : Int)) := by
  obtain ⟨e, hcap⟩ : n = l.length ∧ True := by
    obtain ⟨a, c', e⟩ := h.slice
    injection e with _ e2 _
    exact ⟨e2, trivial⟩
  subst e
  have := World.ownsRow.cells h rfl i _ (bc_get hi)
  rwa [Addr.add_lit, Nat.zero_add] at this
/-- string(b) -/
theorem OwnB.convert {w : World} {B : Nat} {v : Value} {l : List Nat} (h : OwnB w B v l) : (convert 50 9 v).run Tryd.prog w = .ok (.string (ofNats l)) w := by
  have h' := h
  obtain ⟨_, ⟨rfl, h0⟩ | ⟨g, cap, cur, rfl, _⟩⟩ := h'
  · obtain rfl : l = [] := List.eq_nil_of_length_eq_zero h0
    exact run_convert_bytes_nil w 50 5 Tryd.underlying50 Tryd.underlying5 0 0 9 Tryd.underlying9
  · have hcv := run_convert_bytes_arg (P := Tryd.prog) w 50 5 Tryd.underlying50 Tryd.underlying5 g 0 l.length cap (l.map Int.ofNat) (by rw [List.length_map]) (fun i hi => by
        have hil : i < l.length := by omega
        have hc := h.cell i hil
        rw [Nat.zero_add, hc]
        simp [List.getD, hil]) 9 Tryd.underlying9
    rw [strOfNums_nats] at hcv
    exact hcv
end Go.Proofs.YtfafkohghgliaabDoor.Tu
