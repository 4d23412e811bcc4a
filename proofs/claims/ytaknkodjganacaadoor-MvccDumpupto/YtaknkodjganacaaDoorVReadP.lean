import Derived.Test.YtaknkodjganacaaDoorVLen
/- Rows of pairs; what a read answers. -/
namespace Go.Proofs.YtaknkodjganacaaDoor.Vs
open Go.RowKit Go.Sort Go.Shelf
set_option linter.unusedVariables false

abbrev pv (k x : ByteArray) : Value := .agg #[.string k, .string x]
def flatP (l : Prs) : List Value := l.flatMap fun e => [.string e.1, .string e.2]
theorem flatP_snoc (l : Prs) (e : ByteArray × ByteArray) : flatP (l ++ [e]) = flatP l ++ [.string e.1, .string e.2] := by simp [flatP]
theorem flatP_len (l : Prs) : (flatP l).length = l.length * 2 := by
  induction l with
  | nil => rfl
  | cons v vs ih => simp only [flatP, List.flatMap_cons, List.length_append, List.length_cons, List.length_nil] at ih ⊢; omega
theorem flatP_get : ∀ (l : Prs) (i o : Nat), i < l.length → o < 2 → (flatP l)[i * 2 + o]? = [Value.string (nth2 l i).1, .string (nth2 l i).2][o]?
  | [], i, o, h, _ => by simp at h
  | v :: vs, i, o, h, ho => by
    show ([Value.string v.1, .string v.2] ++ flatP vs)[i * 2 + o]? = _
    cases i with
    | zero => rw [List.getElem?_append_left (by simp; omega)]; simp [nth2]
    | succ i =>
      have e : (i + 1) * 2 + o - [Value.string v.1, .string v.2].length = i * 2 + o := by simp; omega
      rw [List.getElem?_append_right (by simp; omega), e, flatP_get vs i o (by simpa using h) ho]
      simp [nth2]
/-- a row of pairs of one's own -/
def OwnP (w : World) (B : Nat) (v : Value) (l : Prs) : Prop := w.ownsRow B 61 2 v l.length (flatP l)
theorem OwnP.later {w w' : World} {B : Nat} {v : Value} {l : Prs} (h : OwnP w B v l) (hb : Below w.heap.size w w') : OwnP w' B v l := owns_keep h fun g hg => hb.block g (World.ownsRow.lt h g hg).2
theorem OwnP.nil (w : World) (B : Nat) : OwnP w B (.slice none 0 0) [] := World.ownsRow_nil _ _ _ _
theorem OwnP.base {w : World} {B B' : Nat} {v : Value} {l : Prs} (h : OwnP w B v l) (hB : B' ≤ B) : OwnP w B' v l := by
  obtain ⟨h1, h2 | ⟨g, cap, cur, hv, hg, r⟩⟩ := h
  · exact ⟨h1, .inl h2⟩
  · exact ⟨h1, .inr ⟨g, cap, cur, hv, Nat.le_trans hB hg, r⟩⟩
theorem OwnP.slice {w : World} {B : Nat} {v : Value} {l : Prs} (h : OwnP w B v l) : ∃ a c, v = .slice a l.length c := owns_slice h
theorem OwnP.row {w : World} {B c : Nat} {a : Option Addr} {l : Prs} (h : OwnP w B (.slice a l.length c) l) : Row2 w a l := fun i hi => by
  have h' := h
  obtain ⟨_, ⟨e, e2⟩ | ⟨g, cap, cur, e, _, hg, _⟩⟩ := h'
  · omega
  · injection e with e1 _ e3
    subst e1 e3
    have hc : ∀ o, o < 2 → w.cell? ⟨g, i * 2 + o, none⟩ = [Value.string (nth2 l i).1, .string (nth2 l i).2][o]? := fun o ho => by
      rw [World.ownsRow.cellAt h _ (by omega), flatP_get l i o hi ho]
    exact ⟨g, 0, rfl, by rw [Nat.zero_add]; exact hc 0 (by omega), by rw [Nat.zero_add]; exact hc 1 (by omega)⟩
theorem OwnP.not {F : Nat → Prop} {w : World} {p B : Nat} {M : Mst} {mk : Sp} {v : Value} {l : Prs} (h : OwnP w B v l) (hs : Sto F w p M mk) : ∀ g, v.ownBlock = some g → ¬ F g := fun g hg => by
  obtain ⟨_, ⟨rfl, _⟩ | ⟨g', cap, cur, rfl, _, hgb, _⟩⟩ := h
  · simp [Value.ownBlock] at hg
  · obtain rfl : g' = g := by simpa [Value.ownBlock] using hg
    exact hs.not hgb (by rintro (e | e) <;> exact absurd e (by decide))
/-- the store changes, the row stays -/
theorem OwnP.onl {F : Nat → Prop} {w w' : World} {p B : Nat} {M : Mst} {mk : Sp} {v : Value} {l : Prs} (h : OwnP w B v l) (hs : Sto F w p M mk) (ho : Onl F w w') : OwnP w' B v l := owns_onl h ho (h.not hs)
theorem infoPr : (Tryd.prog.info? 61).map (fun i => (i.zero, i.size, i.bytes)) = some (some (pv ⟨#[]⟩ ⟨#[]⟩), 2, 32) := by kernel_rfl
theorem new2P (w : World) (k v : ByteArray) (t : TypeId) : (w.alloc (.cells #[.string k, .string v] t)).cell? ⟨w.heap.size, 0, none⟩ = some (.string k) ∧ (w.alloc (.cells #[.string k, .string v] t)).cell? ⟨w.heap.size, 1, none⟩ = some (.string v) := by
  have h := World.alloc_heap_new w (.cells #[.string k, .string v] t)
  exact ⟨by simp only [World.cell?, h]; rfl, by simp only [World.cell?, h]; rfl⟩
theorem append_P {w : World} {ops : Array Oper} {rest : List Oper} {o : Oper} {a : Act} {Q : Exit → Act → World → Prop} (hg : o.guard = none) (s x : Operand)
    (hop : o.op = Op.call { callee := Callee.builtin Builtin.append, args := #[s, x], argTypes := #[48, 48] }) {B : Nat} {v : Value} {l : Prs} (e : ByteArray × ByteArray) (hs : a.eval s = v) (hown : OwnP w B v l)
    {g : Nat} (hx : a.eval x = .slice (some ⟨g, 0, none⟩) 1 1) (c : w.cell? ⟨g, 0, none⟩ = some (.string e.1) ∧ w.cell? ⟨g, 1, none⟩ = some (.string e.2)) (hl : (l.length + 1) * 64 ≤ 140737488355328) (hB : B ≤ w.heap.size)
    (hK : ∀ v' w', OwnP w' B v' (l ++ [e]) → w.grownBy w' v.ownBlock → wpList Tryd.prog ops Q rest (a.put o.dst v') w') : wpList Tryd.prog ops Q (o :: rest) a w := by
  obtain ⟨i0, hi, hz0, hz1, hz2⟩ := info_ofV infoPr
  refine wpList_append_own _ hg s x 48 hop B 61 i0 (pv ⟨#[]⟩ ⟨#[]⟩) 2 32 Tryd.underlying48 hi hz0 hz1 hz2 rfl (by decide) v l.length (flatP l) hs hown ⟨g, 0, none⟩ 1 1 [.string e.1, .string e.2] hx rfl ?_ ?_ (by unfold maxLen; omega) (by omega) hB ?_
  · intro j u hj
    match j, hj with
    | 0, hj => simp at hj; subst hj; exact c.1
    | 1, hj => simp at hj; subst hj; exact c.2
    | j + 2, hj => simp at hj
  · intro u hu; simp at hu; rcases hu with rfl | rfl <;> rfl
  · intro v' w' ho hgr _
    refine hK v' w' ?_ hgr
    show w'.ownsRow B _ 2 v' (l ++ [e]).length (flatP (l ++ [e]))
    rw [flatP_snoc, List.length_append]
    exact ho
theorem OwnP.grown {w w' : World} {B : Nat} {v : Value} {l : Prs} {a : World} (h : OwnP w B v l) (hg : w.grownBy w' v.ownBlock) (ha : Below B a w) (hB : B ≤ a.heap.size) : Below B a w' :=
  Below.grown ha hg (Nat.le_trans hB ha.size) (fun g hv => (World.ownsRow.lt h g hv).1)

/-- what Read answers -/
def rdE (M : Mst) (mk : Sp) (lo hi : ByteArray) (t : Sp) : Int := if t.lt mk then 90 else if 512 < (readM M lo hi t).length then 142 else 0
def rdL (M : Mst) (mk : Sp) (lo hi : ByteArray) (t : Sp) : Prs := if rdE M mk lo hi t = 0 then readM M lo hi t else []
def rdOf (l : List En) (t : Sp) : Prs := readAll (abs l) t
theorem rdOf_snoc (l : List En) (e : En) (t : Sp) : rdOf (l ++ [e]) t = rdOf l t ++ ((valAt e.2.vs t).map fun x => (e.1, x)).toList := by
  unfold rdOf readAll abs
  rw [List.map_append, List.filterMap_append]
  cases h : valAt e.2.vs t <;> simp [h]
theorem rdOf_some {l : List En} {e : En} {t : Sp} {x : ByteArray} (h : valAt e.2.vs t = some x) : rdOf (l ++ [e]) t = rdOf l t ++ [(e.1, x)] := by rw [rdOf_snoc, h]; rfl
theorem rdOf_none {l : List En} {e : En} {t : Sp} (h : valAt e.2.vs t = none) : rdOf (l ++ [e]) t = rdOf l t := by rw [rdOf_snoc, h]; simp
theorem rdOf_range (m : List En) (lo hi : ByteArray) (t : Sp) : rdOf (rangeX m lo hi) t = readM (abs m) lo hi t := by unfold rdOf readM; rw [abs_range]
theorem rdOf_prefix {l m : List En} (h : l <+: m) (t : Sp) : (rdOf l t).length ≤ (rdOf m t).length := by
  obtain ⟨r, rfl⟩ := h
  unfold rdOf readAll abs
  rw [List.map_append, List.filterMap_append, List.length_append]; omega
theorem below_keepsFrom {W W' : World} (B : Nat) (h : Below W.heap.size W W') : KeepsFrom B W W' :=
  ⟨h.size, fun k o _ hk _ => (h.block k (Array.getElem?_eq_some_iff.1 hk).1).trans hk⟩
end Go.Proofs.YtaknkodjganacaaDoor.Vs
