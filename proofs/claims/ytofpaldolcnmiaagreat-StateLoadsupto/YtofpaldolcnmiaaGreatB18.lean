import Derived.Test.YtofpaldolcnmiaaGreatB17
import Derived.Test.YtofpaldolcnmiaaGreatB16
set_option linter.unusedVariables false
set_option maxHeartbeats 2000000
namespace Go.Proofs.YtofpaldolcnmiaaGreat
namespace Vs
open Go.RowKit Go.Sort
theorem flatV_drop (k : ByteArray) : ∀ (vs : List Ver) (n : Nat), flatV k (vs.drop n) = (flatV k vs).drop (n * 6)
 | vs, 0 => by simp
 | [], n + 1 => by simp [flatV]
 | v :: vs, n + 1 => by
  rw [List.drop_succ_cons, flatV_drop k vs n]; show _ = ([Value.string k, .int .u64 v.s.a, .int .u32 v.s.b, .int .u32 v.s.c, .bool v.del, .string v.val] ++ flatV k vs).drop ((n + 1) * 6)
  rw [List.drop_append]; have e : (n + 1) * 6 - [Value.string k, .int .u64 v.s.a, .int .u32 v.s.b, .int .u32 v.s.c, .bool v.del, .string v.val].length = n * 6 := by simp; omega
  have h1 : List.drop ((n + 1) * 6) [Value.string k, .int .u64 v.s.a, .int .u32 v.s.b, .int .u32 v.s.c, .bool v.del, .string v.val] = [] := List.drop_of_length_le (by simp only [List.length_cons, List.length_nil]; omega); rw [e, h1, List.nil_append]
theorem flatV_one (k : ByteArray) (vs : List Ver) : ∀ u ∈ flatV k vs, u.oneCell' = true := fun u hu => by
 obtain ⟨v, _, hv⟩ := List.mem_flatMap.1 hu; simp at hv; rcases hv with rfl | rfl | rfl | rfl | rfl | rfl <;> rfl
theorem Row.news {w : World} {k : ByteArray} {h : Hd} (r : Row w k h) (n : Nat) : ∀ j u, (flatV k (h.vs.drop n))[j]? = some u → w.cell? ((⟨h.g, n * 6, none⟩ : Addr).add j) = some u := fun j u hj => by
 have hadd : (⟨h.g, n * 6, none⟩ : Addr).add j = ⟨h.g, n * 6 + j, none⟩ := by
  unfold Addr.add; split
  ·rename_i h0; rw [h0, Nat.add_zero]
  ·rfl
 rw [flatV_drop, List.getElem?_drop] at hj; have hl := flatV_len k h.vs; have := (List.getElem?_eq_some_iff.1 hj).1; rw [hadd, r.own.cellAt _ (by rw [← r.len]; omega)]; exact hj
open Go.RowKit Go.Sort Go.Shelf
def flatK (l : List Kv) : List Value := l.flatMap fun e => [.string e.1, .int .u64 e.2.s.a, .int .u32 e.2.s.b, .int .u32 e.2.s.c, .bool e.2.del, .string e.2.val]
theorem flatK_append (l m : List Kv) : flatK (l ++ m) = flatK l ++ flatK m := by simp [flatK]
theorem flatK_chain (k : ByteArray) (vs : List Ver) : flatK (vs.map fun v => (k, v)) = flatV k vs := by
 unfold flatK flatV; rw [List.flatMap_map]
theorem flatK_get : ∀ (l : List Kv) (i o : Nat), i < l.length → o < 6 → (flatK l)[i * 6 + o]? = [Value.string (nthK l i).1, .int .u64 (nthK l i).2.s.a, .int .u32 (nthK l i).2.s.b, .int .u32 (nthK l i).2.s.c, .bool (nthK l i).2.del, .string (nthK l i).2.val][o]?
 | [], i, o, h, _ => by simp at h
 | v :: vs, i, o, h, ho => by
  show ([Value.string v.1, .int .u64 v.2.s.a, .int .u32 v.2.s.b, .int .u32 v.2.s.c, .bool v.2.del, .string v.2.val] ++ flatK vs)[i * 6 + o]? = _
  cases i with
  | zero => rw [List.getElem?_append_left (by simp; omega)]; simp [nthK]
  | succ i =>
   have e : (i + 1) * 6 + o - [Value.string v.1, .int .u64 v.2.s.a, .int .u32 v.2.s.b, .int .u32 v.2.s.c, .bool v.2.del, .string v.2.val].length = i * 6 + o := by simp; omega
   rw [List.getElem?_append_right (by simp; omega), e, flatK_get vs i o (by simpa using h) ho]; simp [nthK]
def RowV (w : World) (a : Option Addr) (l : List Kv) : Prop := ∀ i, i < l.length → ∃ b off, a = some ⟨b, off, none⟩ ∧ VerAt w b (off + i * 6) (nthK l i).1 (nthK l i).2
theorem RowV.later {w w' : World} {a : Option Addr} {l : List Kv} (h : RowV w a l) (hb : Below w.heap.size w w') : RowV w' a l := fun i hi => by
 obtain ⟨b, off, e, c⟩ := h i hi; exact ⟨b, off, e, c.later hb⟩
def OwnV (w : World) (B : Nat) (v : Value) (l : List Kv) : Prop := w.ownsRow B 108 6 v l.length (flatK l)
theorem OwnV.slice {w : World} {B : Nat} {v : Value} {l : List Kv} (h : OwnV w B v l) : ∃ a c, v = .slice a l.length c := ows h
theorem OwnV.row {w : World} {B c : Nat} {a : Option Addr} {l : List Kv} (h : OwnV w B (.slice a l.length c) l) : RowV w a l := fun i hi => by
 have h' := h; obtain ⟨_, ⟨e, e2⟩ | ⟨g, cap, cur, e, _, hg, _⟩⟩ := h'
 ·omega
 ·injection e with e1 _ e3
  subst e1 e3; have hc : ∀ o, o < 6 → w.cell? ⟨g, i * 6 + o, none⟩ = [Value.string (nthK l i).1, .int .u64 (nthK l i).2.s.a, .int .u32 (nthK l i).2.s.b, .int .u32 (nthK l i).2.s.c, .bool (nthK l i).2.del, .string (nthK l i).2.val][o]? := fun o ho => by
   rw [World.ownsRow.cellAt h _ (by omega), flatK_get l i o hi ho]
  refine ⟨g, 0, rfl, ?_⟩; rw [Nat.zero_add]; exact ⟨hc 0 (by omega), hc 1 (by omega), hc 2 (by omega), hc 3 (by omega), hc 4 (by omega), hc 5 (by omega)⟩
theorem append_types {P : Program} {t u e e' ty : TypeId} (ht : P.underlying t = some (.slice e)) (hu : P.underlying u = some (.slice e')) (b b' : Option Addr) (n m c c' : Nat) (w : World) :
  (Builtin.append_ #[t, u] ty #[.slice b n c, .slice b' m c']).run P w = (Builtin.append_ #[t, t] ty #[.slice b n c, .slice b' m c']).run P w := by
 simp [Builtin.append_, run_underlying ht, run_underlying hu]
theorem wpListIn_append_two {F : Fence} {n : Nat} {P : Program} (w : World) {ops : Array Oper} {rest : List Oper} {o : Oper} {a : Act} {Q : Exit → Act → World → Prop}
  (hg : o.guard = none) (s x : Operand) (t t' e' : TypeId) (hop : o.op = Op.call { callee := Callee.builtin Builtin.append, args := #[s, x], argTypes := #[t, t'] })
  (base : Nat) (e : TypeId) (i : TypeInfo) (z : Value) (size bytes : Nat) (h1 : P.underlying t = some (.slice e)) (h1' : P.underlying t' = some (.slice e')) (h2 : P.info? e = some i) (h3 : i.zero = some z) (h4 : i.size = size) (h5 : i.bytes = bytes) (h6 : z.cells.size = size) (h7 : 0 < size)
  (v : Value) (k : Nat) (xs : List Value) (hs : a.eval s = v) (hown : w.ownsRow base e size v k xs) (ad : Addr) (m c : Nat) (news : List Value) (hx : a.eval x = .slice (some ad) m c) (hn : news.length = m * size)
  (hc : ∀ j u, news[j]? = some u → w.cell? (ad.add j) = some u) (h1c : ∀ u ∈ news, u.oneCell' = true) (b1 : k + m ≤ maxLen) (b2 : (k + m) * bytes ≤ 140737488355328) (b3 : base ≤ w.heap.size)
  (hK : ∀ v' w', w'.ownsRow base e size v' (k + m) (xs ++ news) → w.grownBy w' v.ownBlock → (v' = .slice none 0 0 ↔ v = .slice none 0 0 ∧ m = 0) → wpListIn F n P ops Q rest (a.put o.dst v') w') :
  wpListIn F n P ops Q (o :: rest) a w := by
 refine wpListIn_plain hg fun K hK' => ?_
 obtain ⟨v', w', hrun, r1, r2, r3⟩ := run_append_own (P := P) w base t o.type e i z size bytes h1 h2 h3 h4 h5 h6 h7 v k xs hown ad m c news hn hc h1c b1 b2 b3; obtain ⟨va, vc, rfl⟩ := ows hown; rw [← append_types h1 h1'] at hrun; unfold Oper.wpIn; refine ⟨?_, ?_⟩
 ·simp [Oper.about, hop, resolve, Target.leads, Sem.run_pure]
 ·rw [Oper.semAt_plain F _ _ (by rw [hop]; intro c hc'; cases hc')]; simp [execOp, hop, resolve, invoke, builtin, hs, hx, hrun, Result.andThen]; exact hK' _ _ (hK v' w' r1 r2 r3)
def dpOf (l : List En) : List Kv := dumpM (abs l)
theorem dpOf_snoc (l : List En) (e : En) : dpOf (l ++ [e]) = dpOf l ++ e.2.vs.map fun v => (e.1, v) := by simp [dpOf, dumpM, abs]
end Vs
namespace Ig
open Go.RowKit Go.Sort
def RowG {α : Type} (enc : α → List Value) (k : Nat) (w : World) (a : Option Addr) (xs : List α) : Prop :=
 ∀ i x, xs[i]? = some x → ∃ b off, a = some ⟨b, off, none⟩ ∧ ∀ o v, (enc x)[o]? = some v → w.cell? ⟨b, off + i * k + o, none⟩ = some v
section
variable {α : Type} {enc : α → List Value} {k : Nat} {w w' : World} {a : Option Addr} {xs : List α}
theorem RowG.later (h : RowG enc k w a xs) (hb : Below w.heap.size w w') : RowG enc k w' a xs := fun i x e => by
 obtain ⟨b, off, h2, h3⟩ := h i x e; exact ⟨b, off, h2, fun o v ho => cell_later hb (h3 o v ho)⟩
theorem RowG.keep (h : RowG enc k w a xs) {c p n : Nat} (hk : Cel c p n w w') (ha : ∀ b off, a = some ⟨b, off, none⟩ → b ≠ c) : RowG enc k w' a xs := fun i x e => by
 obtain ⟨b, off, h2, h3⟩ := h i x e; exact ⟨b, off, h2, fun o v ho => hk.cell (.inl (ha b off h2)) (h3 o v ho)⟩
theorem RowG.onl {F : Nat → Prop} (h : RowG enc k w a xs) (ho : Onl F w w') (ha : ∀ b off, a = some ⟨b, off, none⟩ → ¬ F b) : RowG enc k w' a xs := fun i x e => by
 obtain ⟨b, off, h2, h3⟩ := h i x e; exact ⟨b, off, h2, fun o v hv => ho.cell (ha b off h2) (h3 o v hv)⟩
theorem fmG_get (hk : ∀ x, (enc x).length = k) : ∀ (xs : List α) (i o : Nat) (x : α), xs[i]? = some x → o < k → (xs.flatMap enc)[i * k + o]? = (enc x)[o]?
 | [], i, o, x, h, _ => by simp at h
 | y :: xs, 0, o, x, h, ho => by
  have e : y = x := by simpa using h
  subst e; rw [List.flatMap_cons, List.getElem?_append_left (by rw [hk]; omega)]; simp
 | y :: xs, i + 1, o, x, h, ho => by
  have ih := fmG_get hk xs i o x (by simpa using h) ho; rw [List.flatMap_cons, List.getElem?_append_right (by rw [hk, Nat.add_mul]; omega), show (i + 1) * k + o - (enc y).length = i * k + o by rw [hk, Nat.add_mul]; omega, ih]
theorem fmG_len (hk : ∀ x, (enc x).length = k) : ∀ xs : List α, (xs.flatMap enc).length = xs.length * k
 | [] => by simp
 | x :: xs => by rw [List.flatMap_cons, List.length_append, hk, fmG_len hk xs, List.length_cons, Nat.add_mul, Nat.one_mul, Nat.add_comm]
theorem RowG.of_own (hk : ∀ x, (enc x).length = k) (h0 : 0 < k) {B n c : Nat} {T : TypeId} (h : w.ownsRow B T k (.slice a n c) n (xs.flatMap enc)) : RowG enc k w a xs := fun i x e => by
 have hl := h.1; rw [fmG_len hk] at hl; have hi : i < xs.length := (List.getElem?_eq_some_iff.1 e).1; obtain ⟨_, ⟨e1, e2⟩ | ⟨g, cap, cur, e1, _⟩⟩ := id h
 ·exfalso
  rw [e2, Nat.zero_mul] at hl; have := Nat.mul_pos (show 0 < xs.length by omega) h0; omega
 ·injection e1 with e3 _ _
  subst e3; refine ⟨g, 0, rfl, fun o v ho => ?_⟩; have ho' : o < k := by rw [← hk x]; exact (List.getElem?_eq_some_iff.1 ho).1
  have hlt : i * k + o < n * k := by
   rw [← hl]; have := Nat.mul_le_mul_right k (show i + 1 ≤ xs.length by omega); rw [Nat.add_mul, Nat.one_mul] at this; omega
  rw [Nat.zero_add, World.ownsRow.cellAt h _ hlt, fmG_get hk xs i o x e ho', ho]
end
abbrev c2 (x : T2) : List Value := [.string x.1, .string x.2]
abbrev c3 (x : Wr) : List Value := [.string x.key, .bool x.del, .string x.val]
abbrev c6 (x : Vs.Kv) : List Value := [.string x.1, .int .u64 x.2.s.a, .int .u32 x.2.s.b, .int .u32 x.2.s.c, .bool x.2.del, .string x.2.val]
theorem row2_g {w : World} {a : Option Addr} {xs : List T2} (h : Row2 w a xs) : RowG c2 2 w a xs := fun i x e => by
 have hi : i < xs.length := (List.getElem?_eq_some_iff.1 e).1; obtain ⟨b, off, ha, h0, h1⟩ := h i hi; have hx : nth2 xs i = x := by simp [nth2, e]
 rw [hx] at h0 h1; refine ⟨b, off, ha, fun o v ho => ?_⟩; match o, ho with
 | 0, ho => rw [← Option.some.inj ho]; exact h0
 | 1, ho => rw [← Option.some.inj ho]; exact h1
theorem rowW_g {w : World} {a : Option Addr} {xs : List Wr} (h : RowW w a xs) : RowG c3 3 w a xs := fun i x e => by
 have hi : i < xs.length := (List.getElem?_eq_some_iff.1 e).1; obtain ⟨b, off, ha, h0, h1, h2⟩ := h i hi; have hx : nthW xs i = x := by simp [nthW, e]
 rw [hx] at h0 h1 h2; refine ⟨b, off, ha, fun o v ho => ?_⟩; match o, ho with
 | 0, ho => rw [← Option.some.inj ho]; exact h0
 | 1, ho => rw [← Option.some.inj ho]; exact h1
 | 2, ho => rw [← Option.some.inj ho]; exact h2
end Ig
namespace Lk
open Go.RowKit Go.Sort
theorem cells_ne {w : World} {b : Nat} {x y : Array Value} {t u : TypeId} {z z' : Nat × Nat} (h : w.heap[b]? = some (.cells x t z)) (h' : w.heap[b]? = some (.cells y u z')) : t = u := by
 rw [h] at h'; injection h' with h'
 injection h'
def Hv.typ (W : World) (v : Hv) : Prop := (∀ ad, v.ra = some ad → ∃ cur, W.heap[ad.block]? = some (.cells cur 126 (0, 0))) ∧ (∀ ad, v.wa = some ad → ∃ cur, W.heap[ad.block]? = some (.cells cur 117 (0, 0)))
theorem Hv.fresh.typ {B : Nat} {W : World} {v : Hv} (h : v.fresh B W) : v.typ W := ⟨fun ad e => own_obj h.r (by rw [e]; rfl), fun ad e => own_obj h.w (by rw [e]; rfl)⟩
def Foreign (w : World) (F : Nat → Prop) : Prop := ∀ b, F b → (∀ cur, w.heap[b]? ≠ some (.cells cur 126 (0, 0))) ∧ (∀ cur, w.heap[b]? ≠ some (.cells cur 117 (0, 0)))
theorem Hv.typ.onl {F : Nat → Prop} {w w' : World} {v : Hv} (h : v.typ w) (ho : Onl F w w') (hF : Foreign w F) : v.typ w' := by
 refine ⟨fun ad e => ?_, fun ad e => ?_⟩
 ·obtain ⟨cur, hc⟩ := h.1 ad e; exact ⟨cur, (ho.block _ (Array.getElem?_eq_some_iff.1 hc).1 (fun k => (hF _ k).1 cur hc)).trans hc⟩
 ·obtain ⟨cur, hc⟩ := h.2 ad e; exact ⟨cur, (ho.block _ (Array.getElem?_eq_some_iff.1 hc).1 (fun k => (hF _ k).2 cur hc)).trans hc⟩
theorem Hv.typ.later {w w' : World} {v : Hv} (h : v.typ w) (hb : Below w.heap.size w w') : v.typ w' := h.onl (F := fun _ => False) (Onl.of_below hb) (fun b e => e.elim)
theorem Hv.ok.typ_onl {F : Nat → Prop} {w w' : World} {v : Hv} (h : v.ok w) (ht : v.typ w) (ho : Onl F w w') (hF : Foreign w F) : v.ok w' := by
 refine ⟨fun i hi => ?_, fun i hi => ?_, h.rl, h.wl⟩
 ·obtain ⟨b, off, e, h0, h1⟩ := h.r i hi; obtain ⟨cur, hc⟩ := ht.1 _ e; have hn : ¬ F b := fun k => (hF _ k).1 cur hc
  exact ⟨b, off, e, ho.cell hn h0, ho.cell hn h1⟩
 ·obtain ⟨b, off, e, h0, h1, h2⟩ := h.w i hi; obtain ⟨cur, hc⟩ := ht.2 _ e; have hn : ¬ F b := fun k => (hF _ k).2 cur hc
  exact ⟨b, off, e, ho.cell hn h0, ho.cell hn h1, ho.cell hn h2⟩
def NoRow (t : TypeId) : Prop := t ≠ 126 ∧ t ≠ 117
theorem TbO.foreignO {w : World} {p oo : Nat} {ty : TypeId} {m1 m2 : Option Nat} {V : List Hv} {I : It} (T : TbO w p oo ty m1 m2 V I) (hn : NoRow ty) : Foreign w (Its p m1 m2) := fun b hb => by
 rcases hb with rfl | rfl | rfl
 ·obtain ⟨cs, hk⟩ := T.blk; exact ⟨fun cur' h' => hn.1 (cells_ne hk h'), fun cur' h' => hn.2 (cells_ne hk h')⟩
 ·obtain ⟨es, clock, hb, _⟩ := T.held.at; exact ⟨fun cur h' => (by rw [hb] at h'; cases h'), fun cur h' => (by rw [hb] at h'; cases h')⟩
 ·obtain ⟨es, clock, hb, _⟩ := T.ints.at; exact ⟨fun cur h' => (by rw [hb] at h'; cases h'), fun cur h' => (by rw [hb] at h'; cases h')⟩
theorem TbO.keepC {F : Nat → Prop} {w w' : World} {p oo : Nat} {ty : TypeId} {m1 m2 : Option Nat} {V : List Hv} {I : It} (T : TbO w p oo ty m1 m2 V I) (hty : ∀ v ∈ V, v.typ w) (ho : Onl F w w') (hF : Foreign w F) (hm : ∀ b, m1 = some b ∨ m2 = some b → ¬ F b)
  (hp : ∀ cs, w.heap[p]? = some (.cells cs ty (0, 0)) → ∃ cs', w'.heap[p]? = some (.cells cs' ty (0, 0)) ∧ cs'[oo]? = cs[oo]? ∧ cs'[oo + 1]? = cs[oo + 1]?) (hb : Bare w' p) : TbO w' p oo ty m1 m2 V I := by
 obtain ⟨cs, hc, x0, x1⟩ := T.obj; obtain ⟨cs', hc', e0, e1⟩ := hp cs hc; exact ⟨⟨cs', hc', e0.trans x0, e1.trans x1⟩, hb, T.held.same fun b e => ho.block b (T.held.lt b e) (hm b (.inl e)), T.ints.same fun b e => ho.block b (T.ints.lt b e) (hm b (.inr e)), fun v hv => (T.rows v hv).typ_onl (hty v hv) ho hF, T.ok, T.nil, T.ne⟩
end Lk
namespace Lg
open Go.RowKit Go.Sort Lk
theorem cob {w : World} {b o : Nat} {cs : Array Value} {t : TypeId} {z : Nat × Nat} {v : Value} (h : w.heap[b]? = some (.cells cs t z)) (hv : cs[o]? = some v) : w.cell? ⟨b, o, none⟩ = some v := by
 simp [World.cell?, h, hv]
abbrev prsE (M : List En) : List (Ix × En) := M.map fun e => (e.id, e)
structure LgO (W : World) (p oo : Nat) (ty : TypeId) (m : Option Nat) (M : List En) : Prop where
 obj : ∃ cs, W.heap[p]? = some (.cells cs ty (0, 0)) ∧ cs[oo]? = some (.map m)
 ents : MapO ixv En.val W m (prsE M)
def ItsL (p : Nat) (m : Option Nat) (b : Nat) : Prop := b = p ∨ m = some b
section
variable {w w' : World} {p oo : Nat} {ty : TypeId} {m : Option Nat} {M : List En}
theorem LgO.blk (h : LgO w p oo ty m M) : ∃ cs, w.heap[p]? = some (.cells cs ty (0, 0)) := by obtain ⟨cs, hc, _⟩ := h.obj; exact ⟨cs, hc⟩
theorem LgO.c0 (h : LgO w p oo ty m M) : w.cell? ⟨p, oo, none⟩ = some (.map m) := by obtain ⟨cs, hc, x0⟩ := h.obj; exact cob hc x0
theorem LgO.loose (h : LgO w p oo ty m M) (j : Nat) : w.frozen? ⟨p, j, none⟩ = false := by obtain ⟨cs, hc, _⟩ := h.obj; simp [World.frozen?, hc]
theorem LgO.lt (h : LgO w p oo ty m M) : p < w.heap.size := by obtain ⟨cs, hc, _⟩ := h.obj; exact (Array.getElem?_eq_some_iff.1 hc).1
theorem LgO.objs (h : LgO w p oo ty m M) (e : w'.heap[p]? = w.heap[p]?) : ∃ cs, w'.heap[p]? = some (.cells cs ty (0, 0)) ∧ cs[oo]? = some (.map m) := by
 obtain ⟨cs, hc, x⟩ := h.obj; exact ⟨cs, e.trans hc, x⟩
theorem LgO.later (h : LgO w p oo ty m M) (hb : Below w.heap.size w w') : LgO w' p oo ty m M := ⟨h.objs (hb.block p h.lt), h.ents.later hb⟩
theorem LgO.onl {F : Nat → Prop} (h : LgO w p oo ty m M) (ho : Onl F w w') (hF : ∀ b, ItsL p m b → ¬ F b) : LgO w' p oo ty m M :=
 ⟨h.objs (ho.block p h.lt (hF p (.inl rfl))), h.ents.same fun b e => ho.block b (h.ents.lt b e) (hF b (.inr e))⟩
theorem LgO.its_lt (h : LgO w p oo ty m M) {b : Nat} (hb : ItsL p m b) : b < w.heap.size := by
 rcases hb with rfl | e
 ·exact h.lt
 ·exact h.ents.lt b e
theorem prsE_keys (M : List En) : (prsE M).map (·.1) = M.map En.id := by simp [prsE, List.map_map, Function.comp_def]
theorem LgO.nodup (h : LgO w p oo ty m M) : (M.map En.id).Nodup := by
 have := h.ents.nodup (P := Tryz.prog) ids; rwa [prsE_keys] at this
theorem prsE_mem {t : Ix} {e : En} (h : (t, e) ∈ prsE M) : e ∈ M ∧ e.id = t := by
 obtain ⟨x, hx, k⟩ := List.mem_map.1 h; injection k with k1 k2
 subst k2; exact ⟨hx, k1⟩
end
theorem zero_en (W : World) : (zeroValue 104).run Tryz.prog W = .ok (En.val En.zero) W := by kernel_rfl
theorem run_nilMap (m : Option Nat) (W : World) : (binOp .eql 84 (.map m) (.map none)).run Tryz.prog W = .ok (.bool m.isNone) W := by
 cases m with
 | none => kernel_rfl
 | some b => kernel_rfl
theorem mapat_ne {α β : Type} {ev : α → Value} {fv : β → Value} {w : World} {b : Nat} {ps : List (α × β)} {cs : Array Value} {t : TypeId} {z : Nat × Nat} {q : Nat} (h : MapO ev fv w (some b) ps) (hq : w.heap[q]? = some (.cells cs t z)) : q ≠ b := by
 rintro rfl; obtain ⟨es, clock, hb, _⟩ := h.at; rw [hb] at hq; cases hq
theorem LgO.ne {w : World} {p oo b : Nat} {ty : TypeId} {M : List En} (T : LgO w p oo ty (some b) M) : p ≠ b := by
 obtain ⟨cs, hc⟩ := T.blk; exact mapat_ne T.ents hc
theorem putA_new {α β : Type} [DecidableEq α] {ps : List (α × β)} {a : α} (h : a ∉ ps.map (·.1)) (v : β) : putA ps a v = ps ++ [(a, v)] := by simp only [putA, if_neg h]
theorem stored {w w8 : World} {q : Nat} {z u : En} (hz : w.heap[q]? = some (.cells #[.int .u32 z.id.1, .int .u32 z.id.2, .int .u32 z.home, .int .i64 z.oc, .int .u64 z.w, .int .u32 z.l, .int .u32 z.n] 104)) (h : w8 = (((((((w).setCell ⟨q, 0, none⟩ (.int .u32 u.id.1)).setCell ⟨q, 1, none⟩ (.int .u32 u.id.2)).setCell ⟨q, 2, none⟩ (.int .u32 u.home)).setCell ⟨q, 3, none⟩ (.int .i64 u.oc)).setCell ⟨q, 4, none⟩ (.int .u64 u.w)).setCell ⟨q, 5, none⟩ (.int .u32 u.l)).setCell ⟨q, 6, none⟩ (.int .u32 u.n)) :
  w8.heap[q]? = some (.cells #[.int .u32 u.id.1, .int .u32 u.id.2, .int .u32 u.home, .int .i64 u.oc, .int .u64 u.w, .int .u32 u.l, .int .u32 u.n] 104) ∧ Onl (fun b => b = q) w w8 ∧ w8.heap.size = w.heap.size := by
 subst h; refine ⟨?_, ?_, by simp⟩
 ·have h0 := heap_setCell_same w q 0 _ _ (.int .u32 u.id.1) hz; have h1 := heap_setCell_same _ q 1 _ _ (.int .u32 u.id.2) h0; have h2 := heap_setCell_same _ q 2 _ _ (.int .u32 u.home) h1; have h3 := heap_setCell_same _ q 3 _ _ (.int .i64 u.oc) h2; have h4 := heap_setCell_same _ q 4 _ _ (.int .u64 u.w) h3; have h5 := heap_setCell_same _ q 5 _ _ (.int .u32 u.l) h4; have h6 := heap_setCell_same _ q 6 _ _ (.int .u32 u.n) h5; simpa using h6
 ·repeat refine Onl.set ?_ (by rfl) _ _
  exact Onl.refl _ _
theorem may_is {e : En} {u : Bool} (hu : mayB e = u) (w : World) : Calls Tryz.prog 238 #[.agg #[.int .u32 e.id.1, .int .u32 e.id.2, .int .u32 e.home, .int .i64 e.oc, .int .u64 e.w, .int .u32 e.l, .int .u32 e.n]] w fun r w' => r = .returned (.bool u) ∧ Below w.heap.size w w' := by
 obtain ⟨⟨ec, eq⟩, eh, eo, ew, el, en⟩ := e; by_cases h1 : eo = 1
 ·subst h1; have e1 : u = true := by rw [← hu]; simp [mayB]
  subst e1; clear hu; go_enter Tryz.func238, Tryz.ntmps238
  go_wp2_with fail
  go_ret
  exact ⟨rfl, by (repeat (first | exact Below.refl _ _ | assumption | refine Below.drew ?_ | refine Below.al ?_ _ | refine Below.setCell ?_ (by first | exact Nat.le_refl _ | simp <;> omega) _ | refine Below.on ?_ (by assumption)))⟩
 ·have h1' : (eo == 1) = false := by simpa using h1
  by_cases h2 : eo = 2
  ·subst h2; obtain ⟨z, hz⟩ : ∃ z, sameB ew el en 0 0 0 = z := ⟨_, rfl⟩; have e1 : u = z := by rw [← hu, ← hz]; simp [mayB]
   subst e1; have qq : ∀ W, (binOp .eql 36 (.agg #[.int .u64 ew, .int .u32 el, .int .u32 en]) (.agg #[.int .u64 0, .int .u32 0, .int .u32 0])).run Tryz.prog W = .ok (.bool u) W := fun W => by rw [← hz]; exact run_eqS ew el en 0 0 0 W
   clear hu hz h1 h1'; go_enter Tryz.func238, Tryz.ntmps238
   go_wp2_with fail
   go_ret
   exact ⟨rfl, by (repeat (first | exact Below.refl _ _ | assumption | refine Below.drew ?_ | refine Below.al ?_ _ | refine Below.setCell ?_ (by first | exact Nat.le_refl _ | simp <;> omega) _ | refine Below.on ?_ (by assumption)))⟩
  ·have h2' : (eo == 2) = false := by simpa using h2
   have e1 : u = false := by rw [← hu]; simp [mayB, h1, h2]
   subst e1; clear hu; go_enter Tryz.func238, Tryz.ntmps238
   go_wp2_with fail
   go_ret
   exact ⟨rfl, by (repeat (first | exact Below.refl _ _ | assumption | refine Below.drew ?_ | refine Below.al ?_ _ | refine Below.setCell ?_ (by first | exact Nat.le_refl _ | simp <;> omega) _ | refine Below.on ?_ (by assumption)))⟩
theorem agree_is {e f : En} {u : Bool} (hu : agrB e f = u) (w : World) : Calls Tryz.prog 240 #[.agg #[.int .u32 e.id.1, .int .u32 e.id.2, .int .u32 e.home, .int .i64 e.oc, .int .u64 e.w, .int .u32 e.l, .int .u32 e.n], .agg #[.int .u32 f.id.1, .int .u32 f.id.2, .int .u32 f.home, .int .i64 f.oc, .int .u64 f.w, .int .u32 f.l, .int .u32 f.n]] w fun r w' => r = .returned (.bool u) ∧ Below w.heap.size w w' := by
 obtain ⟨⟨ec, eq⟩, eh, eo, ew, el, en⟩ := e; obtain ⟨⟨fc, fq⟩, fh, fo, fw, fl, fn⟩ := f; by_cases h1 : eo = fo
 ·subst h1; have h1' : (eo == eo) = true := by simp
  obtain ⟨z, hz⟩ : ∃ z, sameB ew el en fw fl fn = z := ⟨_, rfl⟩; have e1 : u = z := by rw [← hu, ← hz]; simp [agrB]
  subst e1; have qq : ∀ W, (binOp .eql 36 (.agg #[.int .u64 ew, .int .u32 el, .int .u32 en]) (.agg #[.int .u64 fw, .int .u32 fl, .int .u32 fn])).run Tryz.prog W = .ok (.bool u) W := fun W => by rw [← hz]; exact run_eqS ew el en fw fl fn W
  clear hu hz; go_enter Tryz.func240, Tryz.ntmps240
  go_wp2_with fail
  go_ret
  exact ⟨rfl, by (repeat (first | exact Below.refl _ _ | assumption | refine Below.drew ?_ | refine Below.al ?_ _ | refine Below.setCell ?_ (by first | exact Nat.le_refl _ | simp <;> omega) _ | refine Below.on ?_ (by assumption)))⟩
 ·have h1' : (eo == fo) = false := by simpa using h1
  have e1 : u = false := by rw [← hu]; simp [agrB, h1]
  subst e1; clear hu; go_enter Tryz.func240, Tryz.ntmps240
  go_wp2_with fail
  go_ret
  exact ⟨rfl, by (repeat (first | exact Below.refl _ _ | assumption | refine Below.drew ?_ | refine Below.al ?_ _ | refine Below.setCell ?_ (by first | exact Nat.le_refl _ | simp <;> omega) _ | refine Below.on ?_ (by assumption)))⟩
theorem LgO.made {w : World} {p oo : Nat} {ty : TypeId} {M : List En} (T : LgO w p oo ty none M) :
  LgO ((w.setCell ⟨p, oo, none⟩ (.map (some w.heap.size))).alloc (.map #[] 0)) p oo ty (some w.heap.size) M := by
 have hM : M = [] := by have : prsE M = [] := T.ents; simpa [prsE] using this
 subst hM; have hlt := T.lt; obtain ⟨w2, h2⟩ : ∃ w2, w2 = w.setCell ⟨p, oo, none⟩ (.map (some w.heap.size)) := ⟨_, rfl⟩; have hs : w2.heap.size = w.heap.size := by rw [h2]; simp
 obtain ⟨cs, hc, y0⟩ := T.obj; have l0 := (Array.getElem?_eq_some_iff.1 y0).1; have b0 : w2.heap[p]? = some (.cells (cs.setIfInBounds oo (.map (some w.heap.size))) ty (0, 0)) := by rw [h2]; exact heap_put _ hc
 rw [← h2, ← hs]; rw [← hs] at b0 hlt; clear h2; refine ⟨⟨_, ((MapKept.heap_alloc _ _).2 p hlt).trans b0, by simp [l0]⟩, ?_⟩
 ·refine ⟨#[], 0, ?_, MapKept.stamped_empty 0, by simp [prsE], by simp [prsE]⟩; exact (MapKept.heap_alloc _ _).1
theorem layO_is {w : World} {p oo : Nat} {ty : TypeId} {m : Option Nat} {M : List En} {e : En} (T : LgO w p oo ty m M) (hn : e.id ∉ M.map En.id) :
  Calls Tryz.prog 239 #[.pointer (some ⟨p, oo, none⟩), .agg #[.int .u32 e.id.1, .int .u32 e.id.2, .int .u32 e.home, .int .i64 e.oc, .int .u64 e.w, .int .u32 e.l, .int .u32 e.n]] w fun r w' => r = .returned (.tuple #[]) ∧
   ∃ b, Hid (LgO w' p oo ty (some b) (M ++ [e])) ∧ Hid (m = some b ∨ w.heap.size ≤ b) ∧ Hid (Onl (ItsL p m) w w') ∧ Hid (Part p oo 1 w w') := by
 obtain ⟨wx, hwx⟩ : ∃ wx, wx = w.alloc (.cells #[.int .u32 e.id.1, .int .u32 e.id.2, .int .u32 e.home, .int .i64 e.oc, .int .u64 e.w, .int .u32 e.l, .int .u32 e.n] 104) := ⟨_, rfl⟩; have hbx : Below w.heap.size w wx := by rw [hwx]; exact Below.al (Below.refl _ _) _
 have hblk : wx.heap[w.heap.size]? = some (.cells #[.int .u32 e.id.1, .int .u32 e.id.2, .int .u32 e.home, .int .i64 e.oc, .int .u64 e.w, .int .u32 e.l, .int .u32 e.n] 104) := by rw [hwx]; exact (MapKept.heap_alloc _ _).1
 have T0 := T.later hbx; have c0 := T0.c0; have c0' : (w.alloc (.cells #[.int .u32 e.id.1, .int .u32 e.id.2, .int .u32 e.home, .int .i64 e.oc, .int .u64 e.w, .int .u32 e.l, .int .u32 e.n] 104)).cell? ⟨p, oo, none⟩ = some (.map m) := by rw [← hwx]; exact c0
 have hnm := run_nilMap m; have hsx : w.heap.size < wx.heap.size := by rw [hwx]; simp
 have HT := hid T; have HT0 := hid T0; have HBX := hid hbx; have HBK := hid hblk; have HN := hid hn; clear T T0 hbx hblk hn; go_enter Tryz.func239, Tryz.ntmps239
 go_upto_if 8 with fail
 rw [← hwx]; clear hwx c0'; go_cut [] (fun wE => ∃ b, Hid (LgO wE p oo ty (some b) M) ∧ Hid (Part p oo 1 w wE) ∧ Hid (Onl (ItsL p m) w wE) ∧ Hid (wE.heap[w.heap.size]? = wx.heap[w.heap.size]?) ∧ Hid (m = some b ∨ w.heap.size ≤ b))
 case first =>
  cases m with
  | some b =>
   go_wp2_with fail
   go_meet
   exact ⟨b, HT0, hid (Part.below HBX.out), Onl.of_below HBX.out, rfl, .inl rfl⟩
  | none =>
   have f0 : ∀ o, wx.frozen? ⟨p, o, none⟩ = false := fun o => HT0.out.loose o
   have hpl := HT0.out.lt; have hne : p ≠ wx.heap.size := by omega
   have mk1 : ∀ W, (Instr.makeMap 84 none).run Tryz.prog W = .ok (.map (some W.heap.size)) (W.alloc (.map #[] 0)) := fun W => run_makeMap _ W
   go_wp2_with fail
   go_meet
   refine ⟨wx.heap.size, HT0.out.made, hid (((Part.below HBX.out).trans (Part.set _ p oo _)).al _), ?_, ?_, .inr (Nat.le_of_lt hsx)⟩
   ·exact hid (Onl.al (Onl.set (Onl.of_below HBX.out) (Or.inl rfl) _ _) _)
   ·show _ = _
    have hpn : w.heap.size ≠ p := by have := HT.out.lt; omega
    rw [(MapKept.heap_alloc _ _).2 _ (by simpa using hsx), Below.heap_setCell _ _ _ _ (by exact hpn)]
 case rest =>
  obtain ⟨b, HE, HPE, HO, HX, H1⟩ := hcut; rename World => wE
  clear c0; have hblk := HX.out.trans HBK.out; have x0 : wE.cell? ⟨w.heap.size, 0, none⟩ = some (.int .u32 e.id.1) := cob hblk rfl; have x1 : wE.cell? ⟨w.heap.size, 1, none⟩ = some (.int .u32 e.id.2) := cob hblk rfl; have x2 : wE.cell? ⟨w.heap.size, 2, none⟩ = some (.int .u32 e.home) := cob hblk rfl; have x3 : wE.cell? ⟨w.heap.size, 3, none⟩ = some (.int .i64 e.oc) := cob hblk rfl; have x4 : wE.cell? ⟨w.heap.size, 4, none⟩ = some (.int .u64 e.w) := cob hblk rfl; have x5 : wE.cell? ⟨w.heap.size, 5, none⟩ = some (.int .u32 e.l) := cob hblk rfl; have x6 : wE.cell? ⟨w.heap.size, 6, none⟩ = some (.int .u32 e.n) := cob hblk rfl; have c0 := HE.out.c0; have nb : b ≠ w.heap.size := fun k => mapat_ne HE.out.ents hblk k.symm
  have np : b ≠ p := fun k => HE.out.ne k.symm
  obtain ⟨w6, hput, hm6, ho6, _⟩ := (HE.out.ents.later (Below.drew (Below.refl _ _)) : MapO ixv En.val wE.drew (some b) _).put (P := Tryz.prog) ids Tryz.underlying84 e.id e; simp only [ixv, En.val] at hput; have ho6' : Onl (fun c => b = c) wE w6 := (Onl.drew (Onl.refl _ wE)).trans ho6; have HPF : Hid (Part p oo 1 w w6) := hid (HPE.out.trans (Part.onl ho6' np)); have HFin : Hid (LgO w6 p oo ty (some b) (M ++ [e])) := by
   refine ⟨HE.out.objs (ho6'.block p HE.out.lt np), ?_⟩; rw [putA_new (by rw [prsE_keys]; exact HN.out)] at hm6; simpa [prsE] using hm6
  have HOF : Hid (Onl (ItsL p m) w w6) := HO.out.fresh ho6' (fun i hi => by
   subst hi; rcases H1.out with k | k
   ·exact .inl (.inr k)
   ·exact .inr k)
  clear hm6 ho6 hblk HX HBK HBX HT HT0 HE hnm; go_wp2_with fail
  go_region_held3 (fun w' => w'.cell? ⟨p, oo, none⟩ = some (.map (some b)) ∧ w'.cell? ⟨w.heap.size, 0, none⟩ = some (.int .u32 e.id.1) ∧ w'.cell? ⟨w.heap.size, 1, none⟩ = some (.int .u32 e.id.2) ∧ w'.cell? ⟨w.heap.size, 2, none⟩ = some (.int .u32 e.home) ∧ w'.cell? ⟨w.heap.size, 3, none⟩ = some (.int .i64 e.oc) ∧ w'.cell? ⟨w.heap.size, 4, none⟩ = some (.int .u64 e.w) ∧ w'.cell? ⟨w.heap.size, 5, none⟩ = some (.int .u32 e.l) ∧ w'.cell? ⟨w.heap.size, 6, none⟩ = some (.int .u32 e.n) ∧ Onl (fun c => b = c) wE w')
   ((refine (fun (hO : Onl (fun c => b = c) wE _) => ⟨hO.cell np c0, hO.cell nb x0, hO.cell nb x1, hO.cell nb x2, hO.cell nb x3, hO.cell nb x4, hO.cell nb x5, hO.cell nb x6, hO⟩) ?_; (repeat (first | exact Onl.refl _ _ | assumption | refine Onl.drew ?_ | refine Onl.on ?_ (by assumption)))))
   (fail)
  all_goals (try go_wp2_with fail)
  first | go_end0 | refine bodyPost_ret (results_none rfl _ _ _) rfl ?_
  exact ⟨rfl, b, HFin, H1, HOF, HPF⟩
end Lg
end Go.Proofs.YtofpaldolcnmiaaGreat
