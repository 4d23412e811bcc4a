import Derived.Test.YtfdbffadajepfaaGreatB23
import Derived.Test.YtfdbffadajepfaaGreatB21
/- What a prune does to one key. -/
namespace Go.Proofs.YtfdbffadajepfaaGreat.Vs
open Go.RowKit Go.Sort
set_option linter.unusedVariables false

theorem flatV_drop (k : ByteArray) : ∀ (vs : List Ver) (n : Nat), flatV k (vs.drop n) = (flatV k vs).drop (n * 6)
  | vs, 0 => by simp
  | [], n + 1 => by simp [flatV]
  | v :: vs, n + 1 => by
    rw [List.drop_succ_cons, flatV_drop k vs n]
    show _ = ([Value.string k, .int .u64 v.s.a, .int .u32 v.s.b, .int .u32 v.s.c, .bool v.del, .string v.val] ++ flatV k vs).drop ((n + 1) * 6)
    rw [List.drop_append]
    have e : (n + 1) * 6 - [Value.string k, .int .u64 v.s.a, .int .u32 v.s.b, .int .u32 v.s.c, .bool v.del, .string v.val].length = n * 6 := by simp; omega
    have h1 : List.drop ((n + 1) * 6) [Value.string k, .int .u64 v.s.a, .int .u32 v.s.b, .int .u32 v.s.c, .bool v.del, .string v.val] = [] := List.drop_of_length_le (by simp only [List.length_cons, List.length_nil]; omega)
    rw [e, h1, List.nil_append]
theorem flatV_one (k : ByteArray) (vs : List Ver) : ∀ u ∈ flatV k vs, u.oneCell' = true := fun u hu => by
  obtain ⟨v, _, hv⟩ := List.mem_flatMap.1 hu
  simp at hv
  rcases hv with rfl | rfl | rfl | rfl | rfl | rfl <;> rfl
theorem Row.news {w : World} {k : ByteArray} {h : Hd} (r : Row w k h) (n : Nat) : ∀ j u, (flatV k (h.vs.drop n))[j]? = some u → w.cell? ((⟨h.g, n * 6, none⟩ : Addr).add j) = some u := fun j u hj => by
  have hadd : (⟨h.g, n * 6, none⟩ : Addr).add j = ⟨h.g, n * 6 + j, none⟩ := by
    unfold Addr.add
    split
    · rename_i h0; rw [h0, Nat.add_zero]
    · rfl
  rw [flatV_drop, List.getElem?_drop] at hj
  have hl := flatV_len k h.vs
  have := (List.getElem?_eq_some_iff.1 hj).1
  rw [hadd, r.own.cellAt _ (by rw [← r.len]; omega)]
  exact hj

theorem chain_nil (a : Addr) (q c : Nat) (w : World) : (binOp .eql 103 (.slice (some a) q c) (.slice none 0 0)).run Tryz.prog w = .ok (.bool false) w := by
  kernel_rfl
set_option maxRecDepth 8000 in
theorem clone_is {w : World} {k : ByteArray} {h : Hd} {n : Nat} (r : Row w k h) (hn : n < h.n) (hb : (h.n + 1) * 64 ≤ 140737488355328) :
    Calls Tryz.prog 179 #[.slice (some ⟨h.g, n * 6, none⟩) (h.n - n) (h.cap - n)] w fun e w' => ∃ hd : Hd, e = .returned (.slice (some ⟨hd.g, 0, none⟩) hd.n hd.cap) ∧ Row w' k hd ∧ hd.vs = h.vs.drop n ∧ w.heap.size ≤ hd.g ∧ Below w.heap.size w w' := by
  obtain ⟨i0, hi, hz0, hz1, hz2⟩ := info_ofV infoVr
  have hba : Below w.heap.size w (w.alloc (.cells #[] 137)) := Below.al (Below.refl _ _) _
  have HO : Hid ((w.alloc (.cells #[] 137)).ownsRow 0 137 6 (.slice (some ⟨w.heap.size, 0, none⟩) 0 0) 0 []) := World.ownsRow_made w #[] 0 (Nat.zero_le _) (Nat.zero_le _) rfl
  have HN := hid ((r.later hba).news n)
  have hlen : (flatV k (h.vs.drop n)).length = (h.n - n) * 6 := by rw [flatV_len, List.length_drop, r.len]
  have HL := hid hlen
  have HD : Hid ((h.vs.drop n).length = h.n - n) := by show _ = _; rw [List.length_drop, r.len]
  have hmax : 0 + (h.n - n) ≤ maxLen := by unfold maxLen; omega
  have hbb : (0 + (h.n - n)) * 56 ≤ 140737488355328 := by omega
  obtain ⟨q, hq⟩ : ∃ q, q = h.n - n := ⟨_, rfl⟩
  have hq0 : 0 < q := by omega
  obtain ⟨c, hc⟩ : ∃ c, c = h.cap - n := ⟨_, rfl⟩
  rw [← hq] at HL HD hmax hbb ⊢
  rw [← hc]
  have HBA := hid hba
  have HM := hid (And.intro hmax hbb)
  have hnil := chain_nil ⟨h.g, n * 6, none⟩ q c w
  clear r hn hb hq hc hlen hmax hbb hba
  go_enter Tryz.func179, Tryz.ntmps179
  go_wp2_with (at_builtin; refine wpList_append_lies _ rfl _ _ 103 rfl 0 137 i0 (vv ⟨#[]⟩ ⟨⟨0, 0, 0⟩, false, ⟨#[]⟩⟩) 6 56 Tryz.underlying103 hi hz0 hz1 hz2 rfl (by decide) (.slice (some ⟨w.heap.size, 0, none⟩) 0 0) 0 [] rfl HO.out ⟨h.g, n * 6, none⟩ q c (flatV k (h.vs.drop n)) rfl HL.out HN.out (flatV_one k _) hq0 HM.out.1 HM.out.2 (Nat.zero_le _) _ rfl ?_; intro g cap' w3 hown hgrow hat hlt3)
  go_ret
  refine ⟨⟨g, q, cap', h.vs.drop n⟩, by simp, ⟨by simpa using hown, HD.out⟩, rfl, ?_, HBA.out.trans ((grown_onl hgrow).below (fun b hb => ?_) (by simp))⟩
  · rcases hat with e | e
    · have : w.heap.size = g := by simpa [Value.ownBlock] using e
      show w.heap.size ≤ g
      omega
    · show w.heap.size ≤ g
      rw [e]; simp
  · have : w.heap.size = b := by simpa [Value.ownBlock] using hb
    omega

theorem without_is' {w : World} {k : ByteArray} {h : Hd} {n : Nat} (r : Row w k h) (hn : n < h.n) (hb : (h.n + 1) * 64 ≤ 140737488355328) :
    Calls Tryz.prog 134 #[.slice (some ⟨h.g, 0, none⟩) h.n h.cap, .int .i64 n] w fun e w' => ∃ hd : Hd, e = .returned (.slice (some ⟨hd.g, 0, none⟩) hd.n hd.cap) ∧ Row w' k hd ∧ hd.vs = h.vs.drop n ∧ w.heap.size ≤ hd.g ∧ Below w.heap.size w w' := by
  have CL := hid (clone_is r hn hb)
  have hcap : h.n ≤ h.cap ∧ h.cap ≤ maxLen := by
    obtain ⟨_, ⟨e, _⟩ | ⟨g, cap, cur, e, _, _, h1, h2, _⟩⟩ := r.own
    · cases e
    · injection e with _ _ e3; rw [e3]; exact ⟨h1, h2⟩
  obtain ⟨g, q, cap, vs⟩ := h
  simp only at CL hn hb hcap ⊢
  have hc1 := hcap.1
  have hc2 : cap ≤ 9223372036854775807 := by have := hcap.2; unfold maxLen at this; omega
  have hne : (cap = n) = False := by simp; omega
  have hne2 : (cap - n = 0) = False := by simp; omega
  clear r hcap
  go_enter Tryz.func134, Tryz.ntmps134
  go_wp2_with (go_at_call 179; refine CL.out.mono ?_; rintro e w1 ⟨hd, rfl, h1, h2, h3, h4⟩)
  go_ret
  exact ⟨hd, rfl, h1, h2, h3, h4⟩
end Go.Proofs.YtfdbffadajepfaaGreat.Vs
/- Rows of versions. -/
namespace Go.Proofs.YtfdbffadajepfaaGreat.Vs
open Go.RowKit Go.Sort Go.Shelf
set_option linter.unusedVariables false

def flatK (l : List Kv) : List Value := l.flatMap fun e => [.string e.1, .int .u64 e.2.s.a, .int .u32 e.2.s.b, .int .u32 e.2.s.c, .bool e.2.del, .string e.2.val]
theorem flatK_append (l m : List Kv) : flatK (l ++ m) = flatK l ++ flatK m := by simp [flatK]
theorem flatK_chain (k : ByteArray) (vs : List Ver) : flatK (vs.map fun v => (k, v)) = flatV k vs := by
  unfold flatK flatV; rw [List.flatMap_map]
theorem flatK_len (l : List Kv) : (flatK l).length = l.length * 6 := by
  induction l with
  | nil => rfl
  | cons v vs ih => simp only [flatK, List.flatMap_cons, List.length_append, List.length_cons, List.length_nil] at ih ⊢; omega
theorem flatK_get : ∀ (l : List Kv) (i o : Nat), i < l.length → o < 6 → (flatK l)[i * 6 + o]? = [Value.string (nthK l i).1, .int .u64 (nthK l i).2.s.a, .int .u32 (nthK l i).2.s.b, .int .u32 (nthK l i).2.s.c, .bool (nthK l i).2.del, .string (nthK l i).2.val][o]?
  | [], i, o, h, _ => by simp at h
  | v :: vs, i, o, h, ho => by
    show ([Value.string v.1, .int .u64 v.2.s.a, .int .u32 v.2.s.b, .int .u32 v.2.s.c, .bool v.2.del, .string v.2.val] ++ flatK vs)[i * 6 + o]? = _
    cases i with
    | zero => rw [List.getElem?_append_left (by simp; omega)]; simp [nthK]
    | succ i =>
      have e : (i + 1) * 6 + o - [Value.string v.1, .int .u64 v.2.s.a, .int .u32 v.2.s.b, .int .u32 v.2.s.c, .bool v.2.del, .string v.2.val].length = i * 6 + o := by simp; omega
      rw [List.getElem?_append_right (by simp; omega), e, flatK_get vs i o (by simpa using h) ho]
      simp [nthK]
theorem flatK_one (l : List Kv) : ∀ u ∈ flatK l, u.oneCell' = true := fun u hu => by
  obtain ⟨v, _, hv⟩ := List.mem_flatMap.1 hu
  simp at hv
  rcases hv with rfl | rfl | rfl | rfl | rfl | rfl <;> rfl
/-- a row of versions -/
def RowV (w : World) (a : Option Addr) (l : List Kv) : Prop := ∀ i, i < l.length → ∃ b off, a = some ⟨b, off, none⟩ ∧ VerAt w b (off + i * 6) (nthK l i).1 (nthK l i).2
theorem RowV.later {w w' : World} {a : Option Addr} {l : List Kv} (h : RowV w a l) (hb : Below w.heap.size w w') : RowV w' a l := fun i hi => by
  obtain ⟨b, off, e, c⟩ := h i hi
  exact ⟨b, off, e, c.later hb⟩
theorem VerAt.onl {F : Nat → Prop} {w w' : World} {g o : Nat} {k : ByteArray} {v : Ver} (h : VerAt w g o k v) (ho : Onl F w w') (hg : ¬ F g) : VerAt w' g o k v :=
  ⟨ho.cell hg h.c0, ho.cell hg h.c1, ho.cell hg h.c2, ho.cell hg h.c3, ho.cell hg h.c4, ho.cell hg h.c5⟩
theorem RowV.onl {F : Nat → Prop} {w w' : World} {a : Option Addr} {l : List Kv} (h : RowV w a l) (ho : Onl F w w') (hF : ∀ b off, a = some ⟨b, off, none⟩ → ¬ F b) : RowV w' a l := fun i hi => by
  obtain ⟨b, off, e, c⟩ := h i hi
  exact ⟨b, off, e, c.onl ho (hF b off e)⟩
/-- a row of versions of one's own -/
def OwnV (w : World) (B : Nat) (v : Value) (l : List Kv) : Prop := w.ownsRow B 137 6 v l.length (flatK l)
theorem OwnV.later {w w' : World} {B : Nat} {v : Value} {l : List Kv} (h : OwnV w B v l) (hb : Below w.heap.size w w') : OwnV w' B v l := owns_keep h fun g hg => hb.block g (World.ownsRow.lt h g hg).2
theorem OwnV.nil (w : World) (B : Nat) : OwnV w B (.slice none 0 0) [] := World.ownsRow_nil _ _ _ _
theorem OwnV.base {w : World} {B B' : Nat} {v : Value} {l : List Kv} (h : OwnV w B v l) (hB : B' ≤ B) : OwnV w B' v l := by
  obtain ⟨h1, h2 | ⟨g, cap, cur, hv, hg, r⟩⟩ := h
  · exact ⟨h1, .inl h2⟩
  · exact ⟨h1, .inr ⟨g, cap, cur, hv, Nat.le_trans hB hg, r⟩⟩
theorem OwnV.slice {w : World} {B : Nat} {v : Value} {l : List Kv} (h : OwnV w B v l) : ∃ a c, v = .slice a l.length c := owns_slice h
theorem OwnV.row {w : World} {B c : Nat} {a : Option Addr} {l : List Kv} (h : OwnV w B (.slice a l.length c) l) : RowV w a l := fun i hi => by
  have h' := h
  obtain ⟨_, ⟨e, e2⟩ | ⟨g, cap, cur, e, _, hg, _⟩⟩ := h'
  · omega
  · injection e with e1 _ e3
    subst e1 e3
    have hc : ∀ o, o < 6 → w.cell? ⟨g, i * 6 + o, none⟩ = [Value.string (nthK l i).1, .int .u64 (nthK l i).2.s.a, .int .u32 (nthK l i).2.s.b, .int .u32 (nthK l i).2.s.c, .bool (nthK l i).2.del, .string (nthK l i).2.val][o]? := fun o ho => by
      rw [World.ownsRow.cellAt h _ (by omega), flatK_get l i o hi ho]
    refine ⟨g, 0, rfl, ?_⟩
    rw [Nat.zero_add]
    exact ⟨hc 0 (by omega), hc 1 (by omega), hc 2 (by omega), hc 3 (by omega), hc 4 (by omega), hc 5 (by omega)⟩
/-- the row lies outside of what changes, for it is newer -/
theorem OwnV.low {w : World} {B : Nat} {a : Option Addr} {n c : Nat} {l : List Kv} (h : OwnV w B (.slice a n c) l) : ∀ b off, a = some ⟨b, off, none⟩ → B ≤ b := fun b off e => by
  obtain ⟨_, ⟨e0, _⟩ | ⟨g, cap, cur, e0, hB, _⟩⟩ := h
  · injection e0 with e1 _ _; rw [e1] at e; cases e
  · injection e0 with e1 _ _; rw [e1] at e; injection e with e; injection e with e2 _; rw [← e2]; exact hB
theorem OwnV.addr_lt {w : World} {B : Nat} {a : Option Addr} {n c : Nat} {l : List Kv} (h : OwnV w B (.slice a n c) l) : ∀ b off, a = some ⟨b, off, none⟩ → b < w.heap.size := fun b off e => by
  have h' := h
  obtain ⟨_, ⟨e0, _⟩ | ⟨g, cap, cur, e0, hB, hg, _⟩⟩ := h'
  · injection e0 with e1 _ _; rw [e1] at e; cases e
  · injection e0 with e1 _ _; rw [e1] at e; injection e with e; injection e with e2 _; rw [← e2]; exact (Array.getElem?_eq_some_iff.1 hg).1
theorem OwnV.onl {F : Nat → Prop} {w w' : World} {B : Nat} {v : Value} {l : List Kv} (h : OwnV w B v l) (ho : Onl F w w') (hF : ∀ g, v.ownBlock = some g → ¬ F g) : OwnV w' B v l := owns_onl h ho hF
theorem OwnV.grown {w w' : World} {B : Nat} {v : Value} {l : List Kv} {a : World} (h : OwnV w B v l) (hg : w.grownBy w' v.ownBlock) (ha : Below B a w) (hB : B ≤ a.heap.size) : Below B a w' :=
  Below.grown ha hg (Nat.le_trans hB ha.size) (fun g hv => (World.ownsRow.lt h g hv).1)
theorem append_V {w : World} {ops : Array Oper} {rest : List Oper} {o : Oper} {a : Act} {Q : Exit → Act → World → Prop} (hg : o.guard = none) (s x : Operand)
    (hop : o.op = Op.call { callee := Callee.builtin Builtin.append, args := #[s, x], argTypes := #[102, 102] }) {B : Nat} {v : Value} {l : List Kv} (e : Kv) (hs : a.eval s = v) (hown : OwnV w B v l)
    {g : Nat} (hx : a.eval x = .slice (some ⟨g, 0, none⟩) 1 1) (c : VerAt w g 0 e.1 e.2) (hl : (l.length + 1) * 64 ≤ 140737488355328) (hB : B ≤ w.heap.size)
    (hK : ∀ v' w', OwnV w' B v' (l ++ [e]) → w.grownBy w' v.ownBlock → wpList Tryz.prog ops Q rest (a.put o.dst v') w') : wpList Tryz.prog ops Q (o :: rest) a w := by
  obtain ⟨i0, hi, hz0, hz1, hz2⟩ := info_ofV infoVr
  refine wpList_append_own _ hg s x 102 hop B 137 i0 (vv ⟨#[]⟩ ⟨⟨0, 0, 0⟩, false, ⟨#[]⟩⟩) 6 56 Tryz.underlying102 hi hz0 hz1 hz2 rfl (by decide) v l.length (flatK l) hs hown ⟨g, 0, none⟩ 1 1 (flatK [e]) hx rfl ?_ (flatK_one _) (by unfold maxLen; omega) (by omega) hB ?_
  · intro j u hj
    have h5 := (List.getElem?_eq_some_iff.1 hj).1
    match j, hj with
    | 0, hj => simp [flatK] at hj; subst hj; exact c.c0
    | 1, hj => simp [flatK] at hj; subst hj; exact c.c1
    | 2, hj => simp [flatK] at hj; subst hj; exact c.c2
    | 3, hj => simp [flatK] at hj; subst hj; exact c.c3
    | 4, hj => simp [flatK] at hj; subst hj; exact c.c4
    | 5, hj => simp [flatK] at hj; subst hj; exact c.c5
    | j + 6, hj => simp [flatK] at hj
  · intro v' w' ho hgr _
    refine hK v' w' ?_ hgr
    show w'.ownsRow B _ 6 v' (l ++ [e]).length (flatK (l ++ [e]))
    rw [flatK_append, List.length_append]
    exact ho

/-- what is appended may be of another slice type -/
theorem append_types {P : Program} {t u e e' ty : TypeId} (ht : P.underlying t = some (.slice e)) (hu : P.underlying u = some (.slice e')) (b b' : Option Addr) (n m c c' : Nat) (w : World) :
    (Builtin.append_ #[t, u] ty #[.slice b n c, .slice b' m c']).run P w = (Builtin.append_ #[t, t] ty #[.slice b n c, .slice b' m c']).run P w := by
  simp [Builtin.append_, run_underlying ht, run_underlying hu]
theorem wpListIn_append_two {F : Fence} {n : Nat} {P : Program} (w : World) {ops : Array Oper} {rest : List Oper} {o : Oper} {a : Act} {Q : Exit → Act → World → Prop}
    (hg : o.guard = none) (s x : Operand) (t t' e' : TypeId) (hop : o.op = Op.call { callee := Callee.builtin Builtin.append, args := #[s, x], argTypes := #[t, t'] })
    (base : Nat) (e : TypeId) (i : TypeInfo) (z : Value) (size bytes : Nat) (h1 : P.underlying t = some (.slice e)) (h1' : P.underlying t' = some (.slice e')) (h2 : P.info? e = some i) (h3 : i.zero = some z) (h4 : i.size = size) (h5 : i.bytes = bytes) (h6 : z.cells.size = size) (h7 : 0 < size)
    (v : Value) (k : Nat) (xs : List Value) (hs : a.eval s = v) (hown : w.ownsRow base e size v k xs) (ad : Addr) (m c : Nat) (news : List Value) (hx : a.eval x = .slice (some ad) m c) (hn : news.length = m * size)
    (hc : ∀ j u, news[j]? = some u → w.cell? (ad.add j) = some u) (h1c : ∀ u ∈ news, u.oneCell' = true) (b1 : k + m ≤ maxLen) (b2 : (k + m) * bytes ≤ 140737488355328) (b3 : base ≤ w.heap.size)
    (hK : ∀ v' w', w'.ownsRow base e size v' (k + m) (xs ++ news) → w.grownBy w' v.ownBlock → (v' = .slice none 0 0 ↔ v = .slice none 0 0 ∧ m = 0) → wpListIn F n P ops Q rest (a.put o.dst v') w') :
    wpListIn F n P ops Q (o :: rest) a w := by
  refine wpListIn_plain hg fun K hK' => ?_
  obtain ⟨v', w', hrun, r1, r2, r3⟩ := run_append_own (P := P) w base t o.type e i z size bytes h1 h2 h3 h4 h5 h6 h7 v k xs hown ad m c news hn hc h1c b1 b2 b3
  obtain ⟨va, vc, rfl⟩ := owns_slice hown
  rw [← append_types h1 h1'] at hrun
  unfold Oper.wpIn
  refine ⟨?_, ?_⟩
  · simp [Oper.about, hop, resolve, Target.leads, Sem.run_pure]
  · rw [Oper.semAt_plain F _ _ (by rw [hop]; intro c hc'; cases hc')]
    simp [execOp, hop, resolve, invoke, builtin, hs, hx, hrun, Result.andThen]
    exact hK' _ _ (hK v' w' r1 r2 r3)
/-- what Dump has gathered -/
def dpOf (l : List En) : List Kv := dumpM (abs l)
theorem dpOf_snoc (l : List En) (e : En) : dpOf (l ++ [e]) = dpOf l ++ e.2.vs.map fun v => (e.1, v) := by simp [dpOf, dumpM, abs]
theorem dpOf_prefix {l m : List En} (h : l <+: m) : (dpOf l).length ≤ (dpOf m).length := by
  obtain ⟨r, rfl⟩ := h
  unfold dpOf dumpM abs
  rw [List.map_append, List.flatMap_append, List.length_append]; omega
end Go.Proofs.YtfdbffadajepfaaGreat.Vs
/- Dump. -/
namespace Go.Proofs.YtfdbffadajepfaaGreat.Vs
open Go.RowKit Go.Sort Go.Shelf
set_option linter.unusedVariables false
attribute [local go_sem] Oper.semAt_some

theorem Boxed.appended0 {W w1 : World} {n₀ B : Nat} {t e : TypeId} {size : Nat} {v v' : Value} {k m : Nat} {xs ys : List Value}
    (hv : Boxed W B t v) (hte : t ≠ e) (hrow : W.ownsRow n₀ e size v k xs) (hn₀ : n₀ ≤ W.heap.size) (hB : n₀ ≤ B)
    (hown' : w1.ownsRow n₀ e size v' m ys) (hgrow : W.grownBy w1 v.ownBlock) :
    Boxed w1 B t v ∧ Boxed (w1.setCell ⟨B, 0, none⟩ v') B t v' ∧ (w1.setCell ⟨B, 0, none⟩ v').ownsRow n₀ e size v' m ys ∧ KeepsOthers W (w1.setCell ⟨B, 0, none⟩ v') ∧ Below n₀ W (w1.setCell ⟨B, 0, none⟩ v') := by
  have hv1 : Boxed w1 B t v := hv.kept hgrow (hv.not_row hte hrow)
  refine ⟨hv1, hv1.set v', hown'.kept (grownBy_setCell' w1 B v') (.inr (hv1.not_row hte hown').symm), ?_, ?_⟩
  · refine (KeepsOthers.of_grownBy hgrow fun j o ej hj => ?_).trans (KeepsOthers.setCell _ _ _)
    rcases hrow.2 with ⟨rfl, _⟩ | ⟨g, cap, cur, rfl, _, hgb, _⟩
    · simp [Value.ownBlock] at ej
    · obtain rfl : g = j := by simpa [Value.ownBlock] using ej
      rw [hgb] at hj; cases hj; rfl
  · refine ((Below.refl n₀ W).grown hgrow (by omega) fun j ej => ?_).setCell (p := ⟨B, 0, none⟩) hB v'
    rcases hrow.2 with ⟨rfl, _⟩ | ⟨g, cap, cur, rfl, hb, _, _⟩
    · simp [Value.ownBlock] at ej
    · obtain rfl : g = j := by simpa [Value.ownBlock] using ej
      exact hb
theorem kp_appended0 {W w1 : World} {n₀ B : Nat} {t e : TypeId} {size : Nat} {v v' : Value} {k : Nat} {xs : List Value}
    (hv : Boxed W B t v) (hrow : W.ownsRow n₀ e size v k xs) (hgrow : W.grownBy w1 v.ownBlock) (ht : ¬ IxT t) (he : ¬ IxT e) : Kp W (w1.setCell ⟨B, 0, none⟩ v') := by
  refine ⟨Nat.le_trans hgrow.size (by simp [World.setCell]), fun b cs ty z hty hb => ?_⟩
  have hlt := (Array.getElem?_eq_some_iff.1 hb).1
  have hne : b ≠ B := fun e' => by subst e'; rw [show W.heap[b]? = _ from hv] at hb; cases hb; exact ht hty
  refine (Below.heap_setCell _ _ _ _ hne).trans ((hgrow.block b hlt (row_not hrow he hty hb)).trans hb)
def DpI (w : World) (bp : Nat) {E : List En} (pre : List (Of E)) (W : World) : Prop :=
  (∃ v, Boxed W bp 102 v ∧ W.ownsRow w.heap.size 137 6 v (dpOf (pre.map (fun x => x.1))).length (flatK (dpOf (pre.map (fun x => x.1)))) ∧ True) ∧ Below w.heap.size w W
theorem dpI_own {w : World} {bp Q : Nat} {E : List En} (hq : w.heap.size ≤ Q) : OwnFrom Q (DpI w bp (E := E)) :=
  OwnFrom.and (Own.from (holdsRow_own w.heap.size bp 102 137 6 (fun pre : List (Of E) => (dpOf (pre.map (fun x => x.1))).length) (fun pre => flatK (dpOf (pre.map (fun x => x.1)))) (fun pre _ => True)) _) (ownFrom_below (Nat.le_refl _) hq)
theorem dp_bound {E : List En} (N : Nat) (hN : ∀ e ∈ E, e.2.vs.length ≤ N) : ∀ pre : List (Of E), (dpOf (pre.map (fun x => x.1))).length ≤ pre.length * N
  | [] => by simp [dpOf, dumpM, abs]
  | x :: pre => by
    have h1 := dp_bound N hN pre
    have h2 := hN x.1 x.2
    have e : dpOf ((x :: pre).map (fun x => x.1)) = (x.1.2.vs.map fun v => (x.1.1, v)) ++ dpOf (pre.map (fun x => x.1)) := by simp [dpOf, dumpM, abs]
    rw [e, List.length_append, List.length_map, List.length_cons, Nat.add_mul, Nat.one_mul]
    omega

set_option maxRecDepth 100000 in
set_option maxHeartbeats 2000000 in
theorem dump_is {F : Nat → Prop} {w : World} {p o : Nat} {ty : TypeId} {M : Mst} {mk : Sp} (h : StoG F w p o ty M mk) (hn : countM M ≤ 1048576) :
    Calls Tryz.prog 85 #[.pointer (some ⟨p, o, none⟩)] w fun e w' => ∃ v, e = .returned v ∧ OwnV w' w.heap.size v (dumpM M) ∧ Below w.heap.size w w' := by
  obtain ⟨m, h, rfl⟩ := h
  refine (callsIn_wide (n := 5)).1 ?_
  obtain ⟨wb, hwb⟩ : ∃ wb, wb = w.alloc (.cells #[.slice none 0 0] 102) := ⟨_, rfl⟩
  have hbb : Below w.heap.size w wb := by rw [hwb]; exact Below.al (Below.refl _ _) _
  have bp : Boxed wb w.heap.size 102 (.slice none 0 0) := by rw [hwb]; exact Boxed.new _ _ _
  have RG := hid (range_is ((h.later hbb).xi) ⟨#[]⟩ ⟨#[]⟩)
  have H := hid (show _ ∧ _ ∧ _ from ⟨h, hbb, bp⟩)
  have HN := hid hn
  clear h hbb hn bp
  refine callsIn_of_wp_marks Tryz.func85 rfl trivial ?_ rfl
  simp only [Tryz.ntmps85, List.size_toArray, List.length_cons, List.length_nil, Nat.reduceAdd, Nat.reduceSub, Array.replicate_succ, Array.replicate_zero, List.push_toArray, List.append_toArray, List.nil_append, List.cons_append]
  subst hwb
  gi_wp2_with ((try refine ⟨trivial, ?_⟩); gi_at_call 42; refine (callsIn_wide.2 RG.out).mono ?_; rintro e w1 ⟨R, Bs, rfl, hit, hb1, hR, hBs⟩)
  obtain ⟨h, hbb, bp⟩ := H.out
  have bp1 : Boxed w1 w.heap.size 102 (.slice none 0 0) := (hb1.block _ bp.lt).trans bp
  have hB1 : Below w.heap.size w w1 := Below.on hbb hb1
  have hs1 := bp1.lt
  have hstops := range_stops (5 - 1) hit
  rw [rangeX_all] at hstops
  have hkeys := count_keys h.good
  rw [abs_len] at hkeys
  have hn := HN.out
  have hEn : ∀ e ∈ m, e.2.vs.length ≤ 1048576 := fun e he => by
    have := count_mem (show (e.1, e.2.vs) ∈ abs m from List.mem_map.2 ⟨_, he, rfl⟩)
    simp only at this; omega
  have HRW : Hid (∀ W, Below w.heap.size w W → ∀ z : Of m, Row W z.1.1 z.1.2) := fun W hb z => (h.row _ z.2).later hb
  clear RG hR hBs hb1 bp h hit H hbb
  apply wpIn_rangeFunc_ownG rfl (by decide) (gf := 72) (lb := #[.pointer (some ⟨R, 0, none⟩), .pointer (some ⟨Bs, 0, none⟩)]) rfl trivial (enters_of Tryz.func72 (by kernel_rfl) rfl)
    hstops kp_t kp_b (Below.refl _ _) (fun _ => rfl)
    (DpI w w.heap.size) (fun _ _ _ => False) (dpI_own (by omega)) (fun _ _ _ _ _ hs _ _ => hs)
    ⟨⟨_, bp1, World.ownsRow_nil _ _ _ _, trivial⟩, hB1⟩
  case hassign =>
    intro y z W K hK
    gi_wp2
    exact hK
  case hbody =>
    rintro y pre z W ⟨⟨u, hv, hrow, -⟩, hBw⟩ hlt
    obtain ⟨L, hL⟩ : ∃ L, dpOf (pre.map (fun x => x.1)) = L := ⟨_, rfl⟩
    have hbd := dp_bound 1048576 hEn (pre ++ [z])
    have hmapz : dpOf ((pre ++ [z]).map (fun x => x.1)) = L ++ z.1.2.vs.map fun v => (z.1.1, v) := by rw [List.map_append, ← hL]; exact dpOf_snoc _ _
    have hzr := HRW.out W hBw z
    have hzl := hzr.len
    have hsz : L.length + z.1.2.n ≤ 1099511627776 := by
      have h1 : (pre ++ [z]).length ≤ 1048576 := by rw [List.length_append, List.length_singleton]; omega
      rw [hmapz, List.length_append, List.length_map, hzl] at hbd
      exact Nat.le_trans hbd (Nat.le_trans (Nat.mul_le_mul_right _ h1) (by decide))
    rw [hL] at hrow
    have hrow : OwnV W w.heap.size u L := hrow
    obtain ⟨ua, uc, rfl⟩ := hrow.slice
    obtain ⟨n, hln⟩ : ∃ n, L.length = n := ⟨_, rfl⟩
    rw [hln] at hv hsz hrow
    have HR : Hid (W.ownsRow w.heap.size 137 6 (.slice ua n uc) n (flatK L)) := by rw [← hln]; unfold OwnV at hrow; rw [hln] at hrow ⊢; exact hrow
    have HV := hid (show _ ∧ _ from ⟨hv, hBw⟩)
    have hc := hv.cell
    have hfr := hv.frozen
    have HM : Hid (dpOf ((pre ++ [z]).map (fun x => x.1)) = L ++ z.1.2.vs.map fun v => (z.1.1, v)) := hmapz
    have HLN := hid hln
    have g1 : n + z.1.2.n ≤ maxLen := by unfold maxLen; omega
    have g2 : (n + z.1.2.n) * 56 ≤ 140737488355328 := by omega
    have HNW := hid (hzr.news 0)
    have HZL : Hid ((flatV z.1.1 (z.1.2.vs.drop 0)).length = z.1.2.n * 6) := by show _ = _; rw [List.drop_zero, flatV_len, hzl]
    have hBs' := hBw.size
    obtain ⟨i0, hi0, hz0, hz1, hz2⟩ := info_ofV infoVr
    clear hv hrow hBw hmapz hbd hL hln hzr hzl hsz
    gi_wp2_with (gi_at_builtin; refine wpListIn_append_two _ rfl _ _ 102 103 137 rfl w.heap.size 137 i0 (vv ⟨#[]⟩ ⟨⟨0, 0, 0⟩, false, ⟨#[]⟩⟩) 6 56 Tryz.underlying102 Tryz.underlying103 hi0 hz0 hz1 hz2 rfl (by decide) (.slice ua n uc) n (flatK L) rfl HR.out ⟨z.1.2.g, 0, none⟩ z.1.2.n z.1.2.cap (flatV z.1.1 (z.1.2.vs.drop 0)) rfl HZL.out (by have := HNW.out; rw [Nat.zero_mul] at this; exact this) (flatV_one _ _) g1 g2 hBs' ?_; intro v' w4 hown' hgrow _; obtain ⟨hv1, hv2, hr2, hk2, hb4⟩ := Boxed.appended0 HV.out.1 (by decide) HR.out hBs' (Nat.le_refl _) hown' hgrow; have hkp := kp_appended0 (v' := v') HV.out.1 HR.out hgrow (not_ixt rfl) (not_ixt rfl); obtain ⟨ga, gc, rfl⟩ := owns_slice hown'; have hc1 := hv1.cell; have hf1 := hv1.frozen)
    refine ⟨hk2.from _, hkp, ⟨_, hv2, ?_, trivial⟩, HV.out.2.trans hb4⟩
    rw [HM.out, flatK_append, List.length_append, List.length_map, flatK_chain, HLN.out]
    have e : z.1.2.vs.length = z.1.2.n := (HRW.out W HV.out.2 z).len
    rw [e]
    rw [List.drop_zero] at hr2
    exact hr2
  case hdone =>
    rintro D ys W hD hys ⟨⟨u, hv, hrow, -⟩, hBw⟩ hK
    rw [hys] at hrow
    have hrow : OwnV W w.heap.size u (dumpM (abs m)) := hrow
    obtain ⟨ua, uc, rfl⟩ := hrow.slice
    have hc := hv.cell
    have HR := hid hrow
    obtain ⟨n, hln⟩ : ∃ n, n = (dumpM (abs m)).length := ⟨_, rfl⟩
    rw [← hln] at hc
    have HLN := hid hln
    clear hrow hln hv
    gi_wp2
    refine ⟨by simp, .inl ⟨_, _, rfl, run_takeDeferred hK, ?_⟩⟩
    refine ⟨_, results_tmp rfl _ _ _, _, rfl, ?_, hBw.trans (belowK_b (w := w) (Nat.le_refl _) W D _ _ (by omega) hK rfl rfl)⟩
    have := HR.out
    rw [← HLN.out] at this
    exact ownsRow_putObj this _ hK rfl
  case hstop =>
    rintro D c pre W _ _ h _
    exact h.elim
end Go.Proofs.YtfdbffadajepfaaGreat.Vs
