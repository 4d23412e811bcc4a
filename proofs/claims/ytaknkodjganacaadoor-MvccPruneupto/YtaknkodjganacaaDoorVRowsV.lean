import Derived.Test.YtaknkodjganacaaDoorVKv
import Derived.Test.YtaknkodjganacaaDoorVDrop
/- Rows of versions. -/
namespace Go.Proofs.YtaknkodjganacaaDoor.Vs
open Go.RowKit Go.Sort Go.Shelf
set_option linter.unusedVariables false

def flatK (l : List Kv) : List Value := l.flatMap fun e => [.string e.1, .int .u64 e.2.s.a, .int .u32 e.2.s.b, .int .u32 e.2.s.c, .bool e.2.del, .string e.2.val]
theorem flatK_append (l m : List Kv) : flatK (l ++ m) = flatK l ++ flatK m := by simp [flatK]
theorem flatK_chain (k : ByteArray) (vs : List Ver) : flatK (vs.map fun v => (k, v)) = flatV k vs := by
  unfold flatK flatV; rw [List.flatMap_map]
theorem flatK_len (l : List Kv) : (flatK l).length = l.length * 6 := by
  induction l with
  | nil => rfl
  | cons v vs ih => simp only [flatK, List.flatMap_cons, List.length_append, List.length_cons, List.length_nil] at ih ⊢; omega
theorem flatK_get : ∀ (l : List Kv) (i o : Nat), i < l.length → o < 6 → (flatK l)[i * 6 + o]? = [Value.string (nthK l i).1, .int .u64 (nthK l i).2.s.a, .int .u32 (nthK l i).2.s.b, .int .u32 (nthK l i).2.s.c, .bool (nthK l i).2.del, .string (nthK l i).2.val][o]?
  | [], i, o, h, _ => by simp at h
  | v :: vs, i, o, h, ho => by
    show ([Value.string v.1, .int .u64 v.2.s.a, .int .u32 v.2.s.b, .int .u32 v.2.s.c, .bool v.2.del, .string v.2.val] ++ flatK vs)[i * 6 + o]? = _
    cases i with
    | zero => rw [List.getElem?_append_left (by simp; omega)]; simp [nthK]
    | succ i =>
      have e : (i + 1) * 6 + o - [Value.string v.1, .int .u64 v.2.s.a, .int .u32 v.2.s.b, .int .u32 v.2.s.c, .bool v.2.del, .string v.2.val].length = i * 6 + o := by simp; omega
      rw [List.getElem?_append_right (by simp; omega), e, flatK_get vs i o (by simpa using h) ho]
      simp [nthK]
theorem flatK_one (l : List Kv) : ∀ u ∈ flatK l, u.oneCell' = true := fun u hu => by
  obtain ⟨v, _, hv⟩ := List.mem_flatMap.1 hu
  simp at hv
  rcases hv with rfl | rfl | rfl | rfl | rfl | rfl <;> rfl
/-- a row of versions -/
def RowV (w : World) (a : Option Addr) (l : List Kv) : Prop := ∀ i, i < l.length → ∃ b off, a = some ⟨b, off, none⟩ ∧ VerAt w b (off + i * 6) (nthK l i).1 (nthK l i).2
theorem RowV.later {w w' : World} {a : Option Addr} {l : List Kv} (h : RowV w a l) (hb : Below w.heap.size w w') : RowV w' a l := fun i hi => by
  obtain ⟨b, off, e, c⟩ := h i hi
  exact ⟨b, off, e, c.later hb⟩
theorem VerAt.onl {F : Nat → Prop} {w w' : World} {g o : Nat} {k : ByteArray} {v : Ver} (h : VerAt w g o k v) (ho : Onl F w w') (hg : ¬ F g) : VerAt w' g o k v :=
  ⟨ho.cell hg h.c0, ho.cell hg h.c1, ho.cell hg h.c2, ho.cell hg h.c3, ho.cell hg h.c4, ho.cell hg h.c5⟩
theorem RowV.onl {F : Nat → Prop} {w w' : World} {a : Option Addr} {l : List Kv} (h : RowV w a l) (ho : Onl F w w') (hF : ∀ b off, a = some ⟨b, off, none⟩ → ¬ F b) : RowV w' a l := fun i hi => by
  obtain ⟨b, off, e, c⟩ := h i hi
  exact ⟨b, off, e, c.onl ho (hF b off e)⟩
/-- a row of versions of one's own -/
def OwnV (w : World) (B : Nat) (v : Value) (l : List Kv) : Prop := w.ownsRow B 46 6 v l.length (flatK l)
theorem OwnV.later {w w' : World} {B : Nat} {v : Value} {l : List Kv} (h : OwnV w B v l) (hb : Below w.heap.size w w') : OwnV w' B v l := owns_keep h fun g hg => hb.block g (World.ownsRow.lt h g hg).2
theorem OwnV.nil (w : World) (B : Nat) : OwnV w B (.slice none 0 0) [] := World.ownsRow_nil _ _ _ _
theorem OwnV.base {w : World} {B B' : Nat} {v : Value} {l : List Kv} (h : OwnV w B v l) (hB : B' ≤ B) : OwnV w B' v l := by
  obtain ⟨h1, h2 | ⟨g, cap, cur, hv, hg, r⟩⟩ := h
  · exact ⟨h1, .inl h2⟩
  · exact ⟨h1, .inr ⟨g, cap, cur, hv, Nat.le_trans hB hg, r⟩⟩
theorem OwnV.slice {w : World} {B : Nat} {v : Value} {l : List Kv} (h : OwnV w B v l) : ∃ a c, v = .slice a l.length c := owns_slice h
theorem OwnV.row {w : World} {B c : Nat} {a : Option Addr} {l : List Kv} (h : OwnV w B (.slice a l.length c) l) : RowV w a l := fun i hi => by
  have h' := h
  obtain ⟨_, ⟨e, e2⟩ | ⟨g, cap, cur, e, _, hg, _⟩⟩ := h'
  · omega
  · injection e with e1 _ e3
    subst e1 e3
    have hc : ∀ o, o < 6 → w.cell? ⟨g, i * 6 + o, none⟩ = [Value.string (nthK l i).1, .int .u64 (nthK l i).2.s.a, .int .u32 (nthK l i).2.s.b, .int .u32 (nthK l i).2.s.c, .bool (nthK l i).2.del, .string (nthK l i).2.val][o]? := fun o ho => by
      rw [World.ownsRow.cellAt h _ (by omega), flatK_get l i o hi ho]
    refine ⟨g, 0, rfl, ?_⟩
    rw [Nat.zero_add]
    exact ⟨hc 0 (by omega), hc 1 (by omega), hc 2 (by omega), hc 3 (by omega), hc 4 (by omega), hc 5 (by omega)⟩
/-- the row lies outside of what changes, for it is newer -/
theorem OwnV.low {w : World} {B : Nat} {a : Option Addr} {n c : Nat} {l : List Kv} (h : OwnV w B (.slice a n c) l) : ∀ b off, a = some ⟨b, off, none⟩ → B ≤ b := fun b off e => by
  obtain ⟨_, ⟨e0, _⟩ | ⟨g, cap, cur, e0, hB, _⟩⟩ := h
  · injection e0 with e1 _ _; rw [e1] at e; cases e
  · injection e0 with e1 _ _; rw [e1] at e; injection e with e; injection e with e2 _; rw [← e2]; exact hB
theorem OwnV.addr_lt {w : World} {B : Nat} {a : Option Addr} {n c : Nat} {l : List Kv} (h : OwnV w B (.slice a n c) l) : ∀ b off, a = some ⟨b, off, none⟩ → b < w.heap.size := fun b off e => by
  have h' := h
  obtain ⟨_, ⟨e0, _⟩ | ⟨g, cap, cur, e0, hB, hg, _⟩⟩ := h'
  · injection e0 with e1 _ _; rw [e1] at e; cases e
  · injection e0 with e1 _ _; rw [e1] at e; injection e with e; injection e with e2 _; rw [← e2]; exact (Array.getElem?_eq_some_iff.1 hg).1
theorem OwnV.onl {F : Nat → Prop} {w w' : World} {B : Nat} {v : Value} {l : List Kv} (h : OwnV w B v l) (ho : Onl F w w') (hF : ∀ g, v.ownBlock = some g → ¬ F g) : OwnV w' B v l := owns_onl h ho hF
theorem OwnV.grown {w w' : World} {B : Nat} {v : Value} {l : List Kv} {a : World} (h : OwnV w B v l) (hg : w.grownBy w' v.ownBlock) (ha : Below B a w) (hB : B ≤ a.heap.size) : Below B a w' :=
  Below.grown ha hg (Nat.le_trans hB ha.size) (fun g hv => (World.ownsRow.lt h g hv).1)
theorem append_V {w : World} {ops : Array Oper} {rest : List Oper} {o : Oper} {a : Act} {Q : Exit → Act → World → Prop} (hg : o.guard = none) (s x : Operand)
    (hop : o.op = Op.call { callee := Callee.builtin Builtin.append, args := #[s, x], argTypes := #[42, 42] }) {B : Nat} {v : Value} {l : List Kv} (e : Kv) (hs : a.eval s = v) (hown : OwnV w B v l)
    {g : Nat} (hx : a.eval x = .slice (some ⟨g, 0, none⟩) 1 1) (c : VerAt w g 0 e.1 e.2) (hl : (l.length + 1) * 64 ≤ 140737488355328) (hB : B ≤ w.heap.size)
    (hK : ∀ v' w', OwnV w' B v' (l ++ [e]) → w.grownBy w' v.ownBlock → wpList Tryd.prog ops Q rest (a.put o.dst v') w') : wpList Tryd.prog ops Q (o :: rest) a w := by
  obtain ⟨i0, hi, hz0, hz1, hz2⟩ := info_ofV infoVr
  refine wpList_append_own _ hg s x 42 hop B 46 i0 (vv ⟨#[]⟩ ⟨⟨0, 0, 0⟩, false, ⟨#[]⟩⟩) 6 56 Tryd.underlying42 hi hz0 hz1 hz2 rfl (by decide) v l.length (flatK l) hs hown ⟨g, 0, none⟩ 1 1 (flatK [e]) hx rfl ?_ (flatK_one _) (by unfold maxLen; omega) (by omega) hB ?_
  · intro j u hj
    have h5 := (List.getElem?_eq_some_iff.1 hj).1
    match j, hj with
    | 0, hj => simp [flatK] at hj; subst hj; exact c.c0
    | 1, hj => simp [flatK] at hj; subst hj; exact c.c1
    | 2, hj => simp [flatK] at hj; subst hj; exact c.c2
    | 3, hj => simp [flatK] at hj; subst hj; exact c.c3
    | 4, hj => simp [flatK] at hj; subst hj; exact c.c4
    | 5, hj => simp [flatK] at hj; subst hj; exact c.c5
    | j + 6, hj => simp [flatK] at hj
  · intro v' w' ho hgr _
    refine hK v' w' ?_ hgr
    show w'.ownsRow B _ 6 v' (l ++ [e]).length (flatK (l ++ [e]))
    rw [flatK_append, List.length_append]
    exact ho

/-- what is appended may be of another slice type -/
theorem append_types {P : Program} {t u e e' ty : TypeId} (ht : P.underlying t = some (.slice e)) (hu : P.underlying u = some (.slice e')) (b b' : Option Addr) (n m c c' : Nat) (w : World) :
    (Builtin.append_ #[t, u] ty #[.slice b n c, .slice b' m c']).run P w = (Builtin.append_ #[t, t] ty #[.slice b n c, .slice b' m c']).run P w := by
  simp [Builtin.append_, run_underlying ht, run_underlying hu]
theorem wpListIn_append_two {F : Fence} {n : Nat} {P : Program} (w : World) {ops : Array Oper} {rest : List Oper} {o : Oper} {a : Act} {Q : Exit → Act → World → Prop}
    (hg : o.guard = none) (s x : Operand) (t t' e' : TypeId) (hop : o.op = Op.call { callee := Callee.builtin Builtin.append, args := #[s, x], argTypes := #[t, t'] })
    (base : Nat) (e : TypeId) (i : TypeInfo) (z : Value) (size bytes : Nat) (h1 : P.underlying t = some (.slice e)) (h1' : P.underlying t' = some (.slice e')) (h2 : P.info? e = some i) (h3 : i.zero = some z) (h4 : i.size = size) (h5 : i.bytes = bytes) (h6 : z.cells.size = size) (h7 : 0 < size)
    (v : Value) (k : Nat) (xs : List Value) (hs : a.eval s = v) (hown : w.ownsRow base e size v k xs) (ad : Addr) (m c : Nat) (news : List Value) (hx : a.eval x = .slice (some ad) m c) (hn : news.length = m * size)
    (hc : ∀ j u, news[j]? = some u → w.cell? (ad.add j) = some u) (h1c : ∀ u ∈ news, u.oneCell' = true) (b1 : k + m ≤ maxLen) (b2 : (k + m) * bytes ≤ 140737488355328) (b3 : base ≤ w.heap.size)
    (hK : ∀ v' w', w'.ownsRow base e size v' (k + m) (xs ++ news) → w.grownBy w' v.ownBlock → (v' = .slice none 0 0 ↔ v = .slice none 0 0 ∧ m = 0) → wpListIn F n P ops Q rest (a.put o.dst v') w') :
    wpListIn F n P ops Q (o :: rest) a w := by
  refine wpListIn_plain hg fun K hK' => ?_
  obtain ⟨v', w', hrun, r1, r2, r3⟩ := run_append_own (P := P) w base t o.type e i z size bytes h1 h2 h3 h4 h5 h6 h7 v k xs hown ad m c news hn hc h1c b1 b2 b3
  obtain ⟨va, vc, rfl⟩ := owns_slice hown
  rw [← append_types h1 h1'] at hrun
  unfold Oper.wpIn
  refine ⟨?_, ?_⟩
  · simp [Oper.about, hop, resolve, Target.leads, Sem.run_pure]
  · rw [Oper.semAt_plain F _ _ (by rw [hop]; intro c hc'; cases hc')]
    simp [execOp, hop, resolve, invoke, builtin, hs, hx, hrun, Result.andThen]
    exact hK' _ _ (hK v' w' r1 r2 r3)
/-- what Dump has gathered -/
def dpOf (l : List En) : List Kv := dumpM (abs l)
theorem dpOf_snoc (l : List En) (e : En) : dpOf (l ++ [e]) = dpOf l ++ e.2.vs.map fun v => (e.1, v) := by simp [dpOf, dumpM, abs]
theorem dpOf_prefix {l m : List En} (h : l <+: m) : (dpOf l).length ≤ (dpOf m).length := by
  obtain ⟨r, rfl⟩ := h
  unfold dpOf dumpM abs
  rw [List.map_append, List.flatMap_append, List.length_append]; omega
end Go.Proofs.YtaknkodjganacaaDoor.Vs
