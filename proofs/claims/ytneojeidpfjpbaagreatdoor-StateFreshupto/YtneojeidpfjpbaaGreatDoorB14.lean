import Derived.Test.YtneojeidpfjpbaaGreatDoorB13
import Derived.Test.YtneojeidpfjpbaaGreatDoorB06
import Derived.Test.YtneojeidpfjpbaaGreatDoorB08
set_option linter.unusedVariables false
set_option maxHeartbeats 1000000
namespace Go.Proofs.YtneojeidpfjpbaaGreatDoor.Vs
open Go.RowKit Go.Sort
abbrev pt (x : Nat) : Value := .pointer (some ⟨x, 0, none⟩)
abbrev sv (s : Sp) : Value := .agg #[.int .u64 s.a, .int .u32 s.b, .int .u32 s.c]
def flatV (k : ByteArray) (vs : List Ver) : List Value := vs.flatMap fun v => [.string k, .int .u64 v.s.a, .int .u32 v.s.b, .int .u32 v.s.c, .bool v.del, .string v.val]
theorem flatV_snoc (k : ByteArray) (vs : List Ver) (v : Ver) : flatV k (vs ++ [v]) = flatV k vs ++ [.string k, .int .u64 v.s.a, .int .u32 v.s.b, .int .u32 v.s.c, .bool v.del, .string v.val] := by simp [flatV]
theorem flatV_len (k : ByteArray) (vs : List Ver) : (flatV k vs).length = vs.length * 6 := by
 induction vs with
 | nil => rfl
 | cons v vs ih => simp only [flatV, List.flatMap_cons, List.length_append, List.length_cons, List.length_nil] at ih ⊢; omega
def nthV (vs : List Ver) (i : Nat) : Ver := (vs[i]?).getD ⟨⟨0, 0, 0⟩, false, ⟨#[]⟩⟩
theorem nthV_get {vs : List Ver} {i : Nat} (h : i < vs.length) : nthV vs i = vs[i] := by simp [nthV, h]
theorem nthV_take {vs : List Ver} {i : Nat} (h : i < vs.length) : vs.take (i + 1) = vs.take i ++ [nthV vs i] := by
 rw [List.take_succ_eq_append_getElem h, nthV_get h]
theorem flatV_get (k : ByteArray) : ∀ (vs : List Ver) (i o : Nat), i < vs.length → o < 6 → (flatV k vs)[i * 6 + o]? = [Value.string k, .int .u64 (nthV vs i).s.a, .int .u32 (nthV vs i).s.b, .int .u32 (nthV vs i).s.c, .bool (nthV vs i).del, .string (nthV vs i).val][o]?
 | [], i, o, h, _ => by simp at h
 | v :: vs, i, o, h, ho => by
  show ([Value.string k, .int .u64 v.s.a, .int .u32 v.s.b, .int .u32 v.s.c, .bool v.del, .string v.val] ++ flatV k vs)[i * 6 + o]? = _
  cases i with
  | zero => rw [List.getElem?_append_left (by simp; omega)]; simp [nthV]
  | succ i =>
   have e : (i + 1) * 6 + o - [Value.string k, .int .u64 v.s.a, .int .u32 v.s.b, .int .u32 v.s.c, .bool v.del, .string v.val].length = i * 6 + o := by simp; omega
   rw [List.getElem?_append_right (by simp; omega), e, flatV_get k vs i o (by simpa using h) ho]; simp [nthV]
structure VerAt (w : World) (g o : Nat) (k : ByteArray) (v : Ver) : Prop where
 c0 : w.cell? ⟨g, o, none⟩ = some (.string k)
 c1 : w.cell? ⟨g, o + 1, none⟩ = some (.int .u64 v.s.a)
 c2 : w.cell? ⟨g, o + 2, none⟩ = some (.int .u32 v.s.b)
 c3 : w.cell? ⟨g, o + 3, none⟩ = some (.int .u32 v.s.c)
 c4 : w.cell? ⟨g, o + 4, none⟩ = some (.bool v.del)
 c5 : w.cell? ⟨g, o + 5, none⟩ = some (.string v.val)
theorem VerAt.later {w w' : World} {g o : Nat} {k : ByteArray} {v : Ver} (h : VerAt w g o k v) (hb : Below w.heap.size w w') : VerAt w' g o k v :=
 ⟨cell_later hb h.c0, cell_later hb h.c1, cell_later hb h.c2, cell_later hb h.c3, cell_later hb h.c4, cell_later hb h.c5⟩
structure Row (w : World) (k : ByteArray) (h : Hd) : Prop where
 own : w.ownsRow 0 97 6 (.slice (some ⟨h.g, 0, none⟩) h.n h.cap) h.n (flatV k h.vs)
 len : h.vs.length = h.n
theorem Row.at {w : World} {k : ByteArray} {h : Hd} (r : Row w k h) {i : Nat} (hi : i < h.n) : VerAt w h.g (i * 6) k (nthV h.vs i) := by
 have hl := r.len; have hc : ∀ o, o < 6 → w.cell? ⟨h.g, i * 6 + o, none⟩ = [Value.string k, .int .u64 (nthV h.vs i).s.a, .int .u32 (nthV h.vs i).s.b, .int .u32 (nthV h.vs i).s.c, .bool (nthV h.vs i).del, .string (nthV h.vs i).val][o]? := fun o ho => by
  rw [r.own.cellAt _ (by omega), flatV_get k h.vs i o (by omega) ho]
 exact ⟨hc 0 (by omega), hc 1 (by omega), hc 2 (by omega), hc 3 (by omega), hc 4 (by omega), hc 5 (by omega)⟩
theorem Row.block {w : World} {k : ByteArray} {h : Hd} (r : Row w k h) : ∃ cs z, w.heap[h.g]? = some (.cells cs 97 z) := by
 obtain ⟨_, ⟨e, _⟩ | ⟨g, cap, cur, e, _, hg, _⟩⟩ := r.own
 ·cases e
 ·have e2 : h.g = g := by injection e with e _ _; injection e with e; injection e
  exact ⟨cur, (0, 0), by rw [e2]; exact hg⟩
theorem Row.lt {w : World} {k : ByteArray} {h : Hd} (r : Row w k h) : h.g < w.heap.size := (r.own.lt h.g rfl).2
theorem Row.keep {w w' : World} {k : ByteArray} {h : Hd} (r : Row w k h) (hb : w'.heap[h.g]? = w.heap[h.g]?) : Row w' k h :=
 ⟨owns_keep r.own fun g hg => by have e : h.g = g := by simpa [Value.ownBlock] using hg
                                 rw [← e]; exact hb, r.len⟩
theorem Row.later {w w' : World} {k : ByteArray} {h : Hd} (r : Row w k h) (hb : Below w.heap.size w w') : Row w' k h := r.keep (hb.block _ r.lt)
def StT (t0 : TypeId) : Prop := ¬ IxT t0 ∧ t0 ≠ 97
def SpT (t0 t : TypeId) : Prop := t = t0 ∨ t = 97
theorem spT_ixT {t0 t : TypeId} (h0 : StT t0) (h : SpT t0 t) : ¬ IxT t := fun k => by
 rcases h with rfl | rfl
 ·exact h0.1 k
 ·rcases k with e | e | e <;> exact absurd e (by decide)
def abs (m : List En) : Mst := m.map fun e => (e.1, e.2.vs)
theorem abs_get (m : List En) (k : ByteArray) : getX (abs m) k = (getX m k).map (·.vs) := by
 unfold getX abs; rw [List.find?_map]; show Option.map _ (Option.map _ (List.find? (fun e : En => decide (e.1 = k)) m)) = _
 cases List.find? (fun e : En => decide (e.1 = k)) m <;> rfl
theorem abs_set (m : List En) (k : ByteArray) (h : Hd) : abs (setX m k h) = setX (abs m) k h.vs := by
 induction m with
 | nil => rfl
 | cons x m ih =>
  show abs (setX (x :: m) k h) = setX ((x.1, x.2.vs) :: abs m) k h.vs
  unfold setX; split
  ·show (x.1, x.2.vs) :: abs (setX m k h) = _; rw [ih]
  ·split <;> rfl
theorem abs_del (m : List En) (k : ByteArray) : abs (delX m k) = delX (abs m) k := by
 unfold abs delX; rw [List.filter_map]; rfl
theorem abs_range (m : List En) (lo hi : ByteArray) : abs (rangeX m lo hi) = rangeX (abs m) lo hi := by
 unfold abs rangeX; rw [List.filter_map]; rfl
theorem abs_len (m : List En) : (abs m).length = m.length := List.length_map ..
structure StoX (F : Nat → Prop) (w : World) (p o : Nat) (t : TypeId) (m : List En) (mk : Sp) : Prop where
 obj : ∃ cs, w.heap[p]? = some (.cells cs t (0, 0)) ∧ cs[o + 1]? = some (.int .u64 mk.a) ∧ cs[o + 2]? = some (.int .u32 mk.b) ∧ cs[o + 3]? = some (.int .u32 mk.c)
 ty : StT t
 xi : Xi w p o m
 row : ∀ e ∈ m, Row w e.1 e.2
 apart : m.Pairwise fun x y => x.2.g ≠ y.2.g
 good : Good (abs m)
 fp : F p
 fr : ∀ e ∈ m, F e.2.g
 own : ∀ b, F b → ∃ cs u z, w.heap[b]? = some (.cells cs u z) ∧ SpT t u
def StoG (F : Nat → Prop) (w : World) (p o : Nat) (t : TypeId) (M : Mst) (mk : Sp) : Prop := ∃ m, StoX F w p o t m mk ∧ abs m = M
section
variable {F : Nat → Prop} {w w' : World} {p o : Nat} {t : TypeId} {m : List En} {mk : Sp} {M : Mst}
theorem StoX.blk (h : StoX F w p o t m mk) : ∃ cs, w.heap[p]? = some (.cells cs t (0, 0)) := by obtain ⟨cs, hc, _⟩ := h.obj; exact ⟨cs, hc⟩
theorem StoX.kp (h : StoX F w p o t m mk) (ho : Onl F w w') : Kp w w' :=
 Kp.of_onl ho fun b cs u z hf hb hu => by
  obtain ⟨cs', t', z', hb', ht'⟩ := h.own b hf; rw [hb'] at hb; cases hb
  exact spT_ixT h.ty ht' hu
theorem StoX.keep (h : StoX F w p o t m mk) (k : Kp w w') (hb : ∀ b, F b → w'.heap[b]? = w.heap[b]?) : StoX F w' p o t m mk :=
 ⟨by obtain ⟨cs, hc, x⟩ := h.obj; exact ⟨cs, (hb p h.fp).trans hc, x⟩, h.ty, h.xi.keep k (hb p h.fp), fun e he => (h.row e he).keep (hb _ (h.fr e he)), h.apart, h.good, h.fp, h.fr, fun b hf => by rw [hb b hf]; exact h.own b hf⟩
theorem StoX.keepC (h : StoX F w p o t m mk) (k : Kp w w') (hp : ∀ cs, w.heap[p]? = some (.cells cs t (0, 0)) → ∃ cs', w'.heap[p]? = some (.cells cs' t (0, 0)) ∧ ∀ j, o ≤ j → j < o + 4 → cs'[j]? = cs[j]?) (hb : ∀ b, F b → b ≠ p → w'.heap[b]? = w.heap[b]?) : StoX F w' p o t m mk := by
 obtain ⟨cs, hc, x1, x2, x3⟩ := h.obj; obtain ⟨cs', hc', e⟩ := hp cs hc; have hne : ∀ y ∈ m, y.2.g ≠ p := fun y hy e => by
  obtain ⟨ys, z, hz⟩ := (h.row y hy).block; rw [e, hc] at hz; injection hz with hz
  injection hz with _ ht _
  exact h.ty.2 ht
 refine ⟨⟨cs', hc', by rw [e _ (by omega) (by omega)]; exact x1, by rw [e _ (by omega) (by omega)]; exact x2, by rw [e _ (by omega) (by omega)]; exact x3⟩, h.ty, h.xi.keepC k fun ds u hd => ?_, fun y hy => (h.row y hy).keep (hb _ (h.fr y hy) (hne y hy)), h.apart, h.good, h.fp, h.fr, fun b hf => ?_⟩
 ·rw [hc] at hd; injection hd with hd
  injection hd with e1 e2 _
  subst e1 e2; exact ⟨cs', hc', e _ (by omega) (by omega)⟩
 ·by_cases hbp : b = p
  ·subst hbp; exact ⟨cs', t, _, hc', .inl rfl⟩
  ·rw [hb b hf hbp]; exact h.own b hf
theorem StoX.lt (h : StoX F w p o t m mk) {b : Nat} (hb : F b) : b < w.heap.size := by
 obtain ⟨cs, t, z, hc, _⟩ := h.own b hb; exact (Array.getElem?_eq_some_iff.1 hc).1
theorem StoX.later (h : StoX F w p o t m mk) (hb : Below w.heap.size w w') : StoX F w' p o t m mk :=
 h.keep (Kp.of_below hb) fun b hf => hb.block b (h.lt hf)
theorem StoG.later (h : StoG F w p o t M mk) (hb : Below w.heap.size w w') : StoG F w' p o t M mk := by
 obtain ⟨m, h, e⟩ := h; exact ⟨m, h.later hb, e⟩
theorem StoG.lt (h : StoG F w p o t M mk) {b : Nat} (hb : F b) : b < w.heap.size := by
 obtain ⟨m, h, e⟩ := h; exact h.lt hb
theorem StoG.good (h : StoG F w p o t M mk) : Good M := by
 obtain ⟨m, h, rfl⟩ := h; exact h.good
theorem Sto.c1 (h : StoX F w p o t m mk) : w.cell? ⟨p, o + 1, none⟩ = some (.int .u64 mk.a) := by obtain ⟨cs, hc, x1, x2, x3⟩ := h.obj; exact cell_of_obj hc x1
theorem Sto.c2 (h : StoX F w p o t m mk) : w.cell? ⟨p, o + 2, none⟩ = some (.int .u32 mk.b) := by obtain ⟨cs, hc, x1, x2, x3⟩ := h.obj; exact cell_of_obj hc x2
theorem Sto.c3 (h : StoX F w p o t m mk) : w.cell? ⟨p, o + 3, none⟩ = some (.int .u32 mk.c) := by obtain ⟨cs, hc, x1, x2, x3⟩ := h.obj; exact cell_of_obj hc x3
theorem Sto.loose (h : StoX F w p o t m mk) (j : Nat) : w.frozen? ⟨p, j, none⟩ = false := by obtain ⟨cs, hc, _⟩ := h.obj; simp [World.frozen?, hc]
end
end Go.Proofs.YtneojeidpfjpbaaGreatDoor.Vs
namespace Go.Proofs.YtneojeidpfjpbaaGreatDoor.Ys
open Go.RowKit Go.Sort
structure Ps where
 node : Int
 ceil : Int
 H : List Lk.Hd
 E : List Lg.En
 M : Vs.Mst
 wm : Vs.Sp
 cm : Bool
 lc : Vs.Sp
 lo : Nat
abbrev SS : TypeId := 83
abbrev scs (s : Ps) (m1 m2 m : Option Nat) (root : Option Addr) : Array Value := #[.int .u32 s.node, .int .u64 s.ceil, .map m1, .map m2, .map m, .pointer root, .int .u64 s.wm.a, .int .u32 s.wm.b, .int .u32 s.wm.c, .bool s.cm, .int .u64 s.lc.a, .int .u32 s.lc.b, .int .u32 s.lc.c]
theorem arr13 {cs : Array Value} (h : cs.size = 13) {a0 a1 a2 a3 a4 a5 a6 a7 a8 a9 a10 a11 a12 : Value} (h0 : cs[0]? = some a0) (h1 : cs[1]? = some a1) (h2 : cs[2]? = some a2) (h3 : cs[3]? = some a3) (h4 : cs[4]? = some a4) (h5 : cs[5]? = some a5) (h6 : cs[6]? = some a6) (h7 : cs[7]? = some a7) (h8 : cs[8]? = some a8) (h9 : cs[9]? = some a9) (h10 : cs[10]? = some a10) (h11 : cs[11]? = some a11) (h12 : cs[12]? = some a12) : cs = #[a0, a1, a2, a3, a4, a5, a6, a7, a8, a9, a10, a11, a12] := by
 apply Array.ext_getElem?
 intro i; match i with
 | 0 => exact h0
 | 1 => exact h1
 | 2 => exact h2
 | 3 => exact h3
 | 4 => exact h4
 | 5 => exact h5
 | 6 => exact h6
 | 7 => exact h7
 | 8 => exact h8
 | 9 => exact h9
 | 10 => exact h10
 | 11 => exact h11
 | 12 => exact h12
 | i + 13 => rw [Array.getElem?_eq_none (by omega)]; simp
theorem bare13 {w : World} {p : Nat} {s : Ps} {m1 m2 m : Option Nat} {root : Option Addr} (h : w.heap[p]? = some (.cells (scs s m1 m2 m root) SS (0, 0))) : Lk.Bare w p := fun o t hc => by
 simp only [World.cell?, h] at hc; match o, hc with
 | 0, hc => simp at hc
 | 1, hc => simp at hc
 | 2, hc => simp at hc
 | 3, hc => simp at hc
 | 4, hc => simp at hc
 | 5, hc => simp at hc
 | 6, hc => simp at hc
 | 7, hc => simp at hc
 | 8, hc => simp at hc
 | 9, hc => simp at hc
 | 10, hc => simp at hc
 | 11, hc => simp at hc
 | 12, hc => simp at hc
 | o + 13, hc => simp at hc
structure St (F : Nat → Prop) (w : World) (p : Nat) (m1 m2 m : Option Nat) (V : List Lk.Hv) (I : Lk.It) (s : Ps) : Prop where
 obj : ∃ root, w.heap[p]? = some (.cells (scs s m1 m2 m root) SS (0, 0))
 tb : Lk.TbO w p 2 SS m1 m2 V I
 lg : Lg.LgO w p 4 SS m s.E
 st : Vs.StoG F w p 5 SS s.M s.wm
 h : V.map Lk.Hv.h = s.H
 ty : ∀ v ∈ V, v.typ w
 dm : ∀ b, m = some b → m1 ≠ some b ∧ m2 ≠ some b
 lw : (∀ v ∈ V, v.low s.lo) ∧ s.lo ≤ w.heap.size
section
variable {F : Nat → Prop} {w w' : World} {p : Nat} {m1 m2 m : Option Nat} {V : List Lk.Hv} {I : Lk.It} {s : Ps}
theorem St.lt (T : St F w p m1 m2 m V I s) : p < w.heap.size := T.tb.lt
theorem St.later (T : St F w p m1 m2 m V I s) (hb : Below w.heap.size w w') : St F w' p m1 m2 m V I s :=
 ⟨by obtain ⟨r, h⟩ := T.obj; exact ⟨r, (hb.block p T.lt).trans h⟩, T.tb.later hb, T.lg.later hb, T.st.later hb, T.h, fun v hv => (T.ty v hv).later hb, T.dm, T.lw.1, Nat.le_trans T.lw.2 hb.size⟩
theorem St.loose (T : St F w p m1 m2 m V I s) (j : Nat) : w.frozen? ⟨p, j, none⟩ = false := T.tb.loose j
theorem St.cell (T : St F w p m1 m2 m V I s) {j : Nat} {v : Value} (h : ∀ root, (scs s m1 m2 m root)[j]? = some v) : w.cell? ⟨p, j, none⟩ = some v := by
 obtain ⟨r, hr⟩ := T.obj; exact Vs.cell_of_obj hr (h r)
theorem St.fmap (T : St F w p m1 m2 m V I s) {b : Nat} (hb : m1 = some b ∨ m2 = some b ∨ m = some b) : ¬ F b := fun hf => by
 obtain ⟨x, hx, _⟩ := T.st; obtain ⟨cs, u, z, hc, _⟩ := hx.own b hf; rcases hb with rfl | rfl | rfl
 ·obtain ⟨es, clock, hb, _⟩ := T.tb.held.at; rw [hc] at hb; cases hb
 ·obtain ⟨es, clock, hb, _⟩ := T.tb.ints.at; rw [hc] at hb; cases hb
 ·obtain ⟨es, clock, hb, _⟩ := T.lg.ents.at; rw [hc] at hb; cases hb
theorem noRow : Lk.NoRow SS := ⟨by decide, by decide⟩
theorem St.foreign (T : St F w p m1 m2 m V I s) : Lk.Foreign w F := fun b hf => by
 obtain ⟨x, hx, _⟩ := T.st; obtain ⟨cs, u, z, hc, hu⟩ := hx.own b hf; rcases hu with rfl | rfl
 ·exact ⟨fun cur h' => noRow.1 (Lk.cells_ne hc h'), fun cur h' => noRow.2 (Lk.cells_ne hc h')⟩
 ·exact ⟨fun cur h' => absurd (Lk.cells_ne hc h') (by decide), fun cur h' => absurd (Lk.cells_ne hc h') (by decide)⟩
end
theorem St.table {F : Nat → Prop} {w w' : World} {p : Nat} {m1 m2 m m1' m2' : Option Nat} {V V' : List Lk.Hv} {I I' : Lk.It} {s : Ps} {H' : List Lk.Hd} (T : St F w p m1 m2 m V I s) (tb : Lk.TbO w' p 2 SS m1' m2' V' I') (hh : V'.map Lk.Hv.h = H') (ho : Onl (Lk.Its p m1 m2) w w') (hpt : Part p 2 2 w w')
  (hnew : ∀ b, Lk.Its p m1' m2' b → Lk.Its p m1 m2 b ∨ w.heap.size ≤ b) (hty : ∀ v ∈ V', v.typ w') (hlw : ∀ v ∈ V', v.low s.lo) : St F w' p m1' m2' m V' I' { s with H := H' } := by
 obtain ⟨root, hob⟩ := T.obj; obtain ⟨cs', hc', hs', he⟩ := hpt _ _ _ hob; obtain ⟨cs2, hc2, y0, y1⟩ := tb.obj; rw [hc'] at hc2; injection hc2 with hc2
 injection hc2 with e1 _ _
 subst e1; have hm : ∀ b, m = some b → ¬ Lk.Its p m1 m2 b := fun b e k => by
  rcases k with rfl | k | k
  ·subst e; exact T.lg.ne rfl
  ·exact (T.dm b e).1 k
  ·exact (T.dm b e).2 k
 have arr : cs' = scs { s with H := H' } m1' m2' m root := arr13 hs' (he 0 (by omega)) (he 1 (by omega)) y0 y1 (he 4 (by omega)) (he 5 (by omega)) (he 6 (by omega)) (he 7 (by omega)) (he 8 (by omega)) (he 9 (by omega)) (he 10 (by omega)) (he 11 (by omega)) (he 12 (by omega)); refine ⟨⟨root, by rw [hc', arr]⟩, tb, ?_, ?_, hh, hty, fun b e => ⟨fun k => ?_, fun k => ?_⟩, hlw, Nat.le_trans T.lw.2 ho.size⟩
 ·obtain ⟨ds, hd, z0⟩ := T.lg.obj; rw [hob] at hd; injection hd with hd
  injection hd with e2 _ _
  subst e2; exact ⟨⟨cs', hc', (he 4 (by omega)).trans z0⟩, T.lg.ents.same fun b e => ho.block b (T.lg.ents.lt b e) (hm b e)⟩
 ·obtain ⟨x, hx, ex⟩ := T.st; refine ⟨x, hx.keepC (Vs.Kp.of_onl ho fun b cs u z hf hb hu => ?_) (fun cs hc => ?_) (fun b hf hne => ho.block b (hx.lt hf) fun k => ?_), ex⟩
  ·rcases hf with rfl | rfl | rfl
   ·rw [hob] at hb; injection hb with hb; injection hb with _ e _; subst e; exact hx.ty.1 hu
   ·obtain ⟨es, clock, h9, _⟩ := T.tb.held.at; rw [hb] at h9; cases h9
   ·obtain ⟨es, clock, h9, _⟩ := T.tb.ints.at; rw [hb] at h9; cases h9
  ·rw [hob] at hc; injection hc with hc
   injection hc with e2 _ _
   subst e2; exact ⟨cs', hc', fun j h1 h2 => he j (by omega)⟩
  ·rcases k with k | k | k
   ·exact hne k
   ·exact T.fmap (.inl k) hf
   ·exact T.fmap (.inr (.inl k)) hf
 ·rcases hnew b (.inr (.inl k)) with k2 | k2
  ·exact hm b e k2
  ·have := T.lg.ents.lt b e; omega
 ·rcases hnew b (.inr (.inr k)) with k2 | k2
  ·exact hm b e k2
  ·have := T.lg.ents.lt b e; omega
theorem St.ledger {F : Nat → Prop} {w w' : World} {p : Nat} {m1 m2 m m' : Option Nat} {V : List Lk.Hv} {I : Lk.It} {s : Ps} {E' : List Lg.En} (T : St F w p m1 m2 m V I s) (lg : Lg.LgO w' p 4 SS m' E') (ho : Onl (Lg.ItsL p m) w w') (hpt : Part p 4 1 w w') (hnew : m' = m ∨ ∃ b, m' = some b ∧ w.heap.size ≤ b) : St F w' p m1 m2 m' V I { s with E := E' } := by
 obtain ⟨root, hob⟩ := T.obj; obtain ⟨cs', hc', hs', he⟩ := hpt _ _ _ hob; obtain ⟨cs2, hc2, y0⟩ := lg.obj; rw [hc'] at hc2; injection hc2 with hc2
 injection hc2 with e1 _ _
 subst e1; have arr : cs' = scs { s with E := E' } m1 m2 m' root := arr13 hs' (he 0 (by omega)) (he 1 (by omega)) (he 2 (by omega)) (he 3 (by omega)) y0 (he 5 (by omega)) (he 6 (by omega)) (he 7 (by omega)) (he 8 (by omega)) (he 9 (by omega)) (he 10 (by omega)) (he 11 (by omega)) (he 12 (by omega)); have hob' : w'.heap[p]? = some (.cells (scs { s with E := E' } m1 m2 m' root) SS (0, 0)) := by rw [hc', arr]
 have hfor : Lk.Foreign w (Lg.ItsL p m) := fun b hb => by
  rcases hb with rfl | rfl
  ·exact ⟨fun cur h' => noRow.1 (Lk.cells_ne hob h'), fun cur h' => noRow.2 (Lk.cells_ne hob h')⟩
  ·obtain ⟨es, clock, hb, _⟩ := T.lg.ents.at; exact ⟨fun cur h' => (by rw [hb] at h'; cases h'), fun cur h' => (by rw [hb] at h'; cases h')⟩
 refine ⟨⟨root, hob'⟩, ?_, lg, ?_, T.h, fun v hv => (T.ty v hv).onl ho hfor, fun b e => ?_, T.lw.1, Nat.le_trans T.lw.2 ho.size⟩
 ·refine T.tb.keepC T.ty ho hfor (fun b hb k => ?_) (fun cs hc => ?_) (bare13 hob')
  ·rcases k with rfl | k
   ·rcases hb with rfl | rfl
    ·exact T.tb.ne1 rfl
    ·exact T.tb.ne2 rfl
   ·rcases hb with hb | hb
    ·exact (T.dm b k).1 hb
    ·exact (T.dm b k).2 hb
  ·rw [hob] at hc; injection hc with hc
   injection hc with e2 _ _
   subst e2; exact ⟨cs', hc', he 2 (by omega), he 3 (by omega)⟩
 ·obtain ⟨x, hx, ex⟩ := T.st; refine ⟨x, hx.keepC (Vs.Kp.of_onl ho fun b cs u z hf hb hu => ?_) (fun cs hc => ?_) (fun b hf hne => ho.block b (hx.lt hf) fun k => ?_), ex⟩
  ·rcases hf with rfl | rfl
   ·rw [hob] at hb; injection hb with hb; injection hb with _ e _; subst e; exact hx.ty.1 hu
   ·obtain ⟨es, clock, h9, _⟩ := T.lg.ents.at; rw [hb] at h9; cases h9
  ·rw [hob] at hc; injection hc with hc
   injection hc with e2 _ _
   subst e2; exact ⟨cs', hc', fun j h1 h2 => he j (by omega)⟩
  ·rcases k with k | k
   ·exact hne k
   ·exact T.fmap (.inr (.inr k)) hf
 ·rcases hnew with rfl | ⟨b', rfl, hb'⟩
  ·exact T.dm b e
  ·injection e with e
   subst e; exact ⟨fun k => by have := T.tb.held.lt _ k; omega, fun k => by have := T.tb.ints.lt _ k; omega⟩
theorem St.store {F F' : Nat → Prop} {w w' : World} {p : Nat} {m1 m2 m : Option Nat} {V : List Lk.Hv} {I : Lk.It} {s : Ps} {M' : Vs.Mst} {mk' : Vs.Sp} (T : St F w p m1 m2 m V I s) (st : Vs.StoG F' w' p 5 SS M' mk') (ho : Onl F w w') (hpt : Part p 5 4 w w') : St F' w' p m1 m2 m V I { s with M := M', wm := mk' } := by
 obtain ⟨root, hob⟩ := T.obj; obtain ⟨cs', hc', hs', he⟩ := hpt _ _ _ hob; obtain ⟨x, hx, ex⟩ := st; obtain ⟨cs2, hc2, y1, y2, y3⟩ := hx.obj; rw [hc'] at hc2; injection hc2 with hc2
 injection hc2 with e1 _ _
 subst e1; obtain ⟨Tr, cs3, t3, hc3, _, y0, _⟩ := hx.xi; rw [hc'] at hc3; injection hc3 with hc3
 injection hc3 with e3 _ _
 subst e3; have arr : cs' = scs { s with M := M', wm := mk' } m1 m2 m Tr.pt := arr13 hs' (he 0 (by omega)) (he 1 (by omega)) (he 2 (by omega)) (he 3 (by omega)) (he 4 (by omega)) y0 y1 y2 y3 (he 9 (by omega)) (he 10 (by omega)) (he 11 (by omega)) (he 12 (by omega)); have hob' : w'.heap[p]? = some (.cells (scs { s with M := M', wm := mk' } m1 m2 m Tr.pt) SS (0, 0)) := by rw [hc', arr]
 refine ⟨⟨_, hob'⟩, ?_, ?_, ⟨x, hx, ex⟩, T.h, fun v hv => (T.ty v hv).onl ho T.foreign, T.dm, T.lw.1, Nat.le_trans T.lw.2 ho.size⟩
 ·refine T.tb.keepC T.ty ho T.foreign (fun b hb => T.fmap (by rcases hb with h | h; exact .inl h; exact .inr (.inl h))) (fun cs hc => ?_) (bare13 hob'); rw [hob] at hc; injection hc with hc
  injection hc with e2 _ _
  subst e2; exact ⟨cs', hc', he 2 (by omega), he 3 (by omega)⟩
 ·obtain ⟨ds, hd, z0⟩ := T.lg.obj; rw [hob] at hd; injection hd with hd
  injection hd with e2 _ _
  subst e2; exact ⟨⟨cs', hc', (he 4 (by omega)).trans z0⟩, T.lg.ents.same fun b e => ho.block b (T.lg.ents.lt b e) (T.fmap (.inr (.inr e)))⟩
end Go.Proofs.YtneojeidpfjpbaaGreatDoor.Ys
namespace Go.Proofs.YtneojeidpfjpbaaGreatDoor.Lk
open Go.RowKit Go.Sort
def hasB (M : List Hd) (i : Ix) : Bool := decide (i ∈ M.map Hd.id)
def dropV (V : List Hv) (i : Ix) : List Hv := V.filter (fun v => !decide (v.h.id = i))
theorem dropV_prs (V : List Hv) (i : Ix) : prs (dropV V i) = dropA (prs V) i := by
 simp only [prs, dropV, dropA, List.filter_map]; rfl
theorem dropV_map (V : List Hv) (i : Ix) : (dropV V i).map Hv.h = dropM (V.map Hv.h) i := by
 simp only [dropV, dropM, List.filter_map]; rfl
theorem dropM_not {M : List Hd} {i : Ix} (h : i ∉ M.map Hd.id) : dropM M i = M :=
 List.filter_eq_self.2 fun x hx => by
  have : x.id ≠ i := fun e => h (List.mem_map.2 ⟨x, hx, e⟩)
  simp [this]
open Go.RowKit Go.Sort Go.Shelf Go.Lib
def Grew (w w' : World) : Prop := ∃ q os, w' = grow (w.drewN q) os
theorem Grew.refl (w : World) : Grew w w := ⟨0, #[], by rw [grow_empty]; rfl⟩
theorem Grew.al {w w' : World} (h : Grew w w') (o : Obj) : Grew w (w'.alloc o) := by
 obtain ⟨q, os, rfl⟩ := h; exact ⟨q, os ++ #[o], by rw [alloc_eq_grow, grow_grow]⟩
theorem Grew.drew {w w' : World} (h : Grew w w') : Grew w w'.drew := by
 obtain ⟨q, os, rfl⟩ := h; exact ⟨q + 1, os, rfl⟩
theorem Grew.trans {a b c : World} (h : Grew a b) (k : Grew b c) : Grew a c := by
 obtain ⟨q, os, rfl⟩ := h; obtain ⟨r, ps, rfl⟩ := k; refine ⟨q + r, os ++ ps, ?_⟩; rw [← grow_grow]; congr 1
 simp [grow, World.drewN, Nat.add_assoc]
def cmpZ (a b : Int) : Int := if a < b then -1 else if b < a then 1 else 0
def cmpI (i j : Ix) : Int := if cmpZ i.1 j.1 = 0 then cmpZ i.2 j.2 else cmpZ i.1 j.1
theorem nan_is (a : Int) (w : World) : Calls Tryz.prog 167 #[.int .u32 a] w fun e w' => e = .returned (.bool false) ∧ w' = w := by
 go_enter Tryz.func167, Tryz.ntmps167
 go_wp2_with fail
 go_ret
 exact ⟨by simp, rfl⟩
theorem cmpU_is (a b : Int) (w : World) : Calls Tryz.prog 116 #[.int .u32 a, .int .u32 b] w fun e w' => e = .returned (.int .i64 (cmpZ a b)) ∧ w' = w := by
 have N := hid (fun x W => nan_is x W); by_cases h1 : a < b
 ·have e : cmpZ a b = -1 := by simp [cmpZ, h1]
  rw [e]; clear e; go_enter Tryz.func116, Tryz.ntmps116
  go_wp2_with (go_at_call 167; refine (N.out _ _).mono ?_; rintro e w1 ⟨rfl, rfl⟩)
  go_ret
  exact ⟨rfl, rfl⟩
 ·by_cases h2 : b < a
  ·have e : cmpZ a b = 1 := by simp [cmpZ, h1, h2]
   rw [e]; clear e; go_enter Tryz.func116, Tryz.ntmps116
   go_wp2_with (go_at_call 167; refine (N.out _ _).mono ?_; rintro e w1 ⟨rfl, rfl⟩)
   go_ret
   exact ⟨rfl, rfl⟩
  ·have e : cmpZ a b = 0 := by simp [cmpZ, h1, h2]
   rw [e]; clear e; go_enter Tryz.func116, Tryz.ntmps116
   go_wp2_with (go_at_call 167; refine (N.out _ _).mono ?_; rintro e w1 ⟨rfl, rfl⟩)
   go_ret
   exact ⟨rfl, rfl⟩
theorem or_is {x y r : Int} {g : Nat} {w : World} (hr : r = if x = 0 then y else x) (h0 : w.cell? ⟨g, 0, none⟩ = some (.int .i64 x)) (h1 : w.cell? ⟨g, 1, none⟩ = some (.int .i64 y)) :
  Calls Tryz.prog 115 #[.slice (some ⟨g, 0, none⟩) 2 2] w fun e w' => e = .returned (.int .i64 r) ∧ w' = w := by
 have HR := hid hr; clear hr; go_enter Tryz.func115, Tryz.ntmps115
 go_wp2_with fail
 go_loopg [8] 2 (fun k s8 wr => wr = w ∧ ((k = 2 ∧ s8 = .int .i64 0) ∨ (k = 1 ∧ s8 = .int .i64 1 ∧ x = 0) ∨ (k = 0 ∧ s8 = .int .i64 2 ∧ x = 0 ∧ y = 0)))
 case atStart => exact ⟨rfl, .inl ⟨rfl, rfl⟩⟩
 case round =>
  obtain ⟨rfl, ⟨rfl, rfl⟩ | ⟨rfl, rfl, rfl⟩ | ⟨rfl, rfl, rfl, rfl⟩⟩ := hrel
  ·by_cases hx : x = 0
   ·subst hx; go_wp2_with fail
    go_roundg 1
    case measure => omega
    case rel => exact ⟨rfl, .inr (.inl ⟨rfl, by go_num, by simp⟩)⟩
   ·have hx' : (x != 0) = true := by simpa using hx
    have e : r = x := by rw [HR.out, if_neg hx]
    subst e; go_wp2_with fail
    go_ret
    exact ⟨rfl, rfl⟩
  ·by_cases hy : y = 0
   ·subst hy; go_wp2_with fail
    go_roundg 0
    case measure => omega
    case rel => exact ⟨rfl, .inr (.inr ⟨rfl, by go_num, by simp, by simp⟩)⟩
   ·have hy' : (y != 0) = true := by simpa using hy
    have e : r = y := by rw [HR.out]; simp
    subst e; go_wp2_with fail
    go_ret
    exact ⟨rfl, rfl⟩
  ·have e : r = 0 := by rw [HR.out]; simp
   subst e; go_wp2_with fail
   go_ret
   exact ⟨rfl, rfl⟩
theorem byID_is (i j : Ix) (w : World) : Calls Tryz.prog 79 #[ixv i, ixv j] w fun e w' => e = .returned (.int .i64 (cmpI i j)) ∧ ∃ q os, w' = grow (w.drewN q) os := by
 obtain ⟨ic, is⟩ := i; obtain ⟨jc, js⟩ := j; obtain ⟨r, hr⟩ : ∃ r, r = if cmpZ ic jc = 0 then cmpZ is js else cmpZ ic jc := ⟨_, rfl⟩
 rw [show cmpI ⟨ic, is⟩ ⟨jc, js⟩ = r from hr.symm]; have HR := hid hr; clear hr; obtain ⟨wb, hwb⟩ : ∃ wb, wb = (w.alloc (.cells #[.int .u32 ic, .int .u32 is] 38)).alloc (.cells #[.int .u32 jc, .int .u32 js] 38) := ⟨_, rfl⟩; have a0 : wb.cell? ⟨w.heap.size, 0, none⟩ = some (.int .u32 ic) := by rw [hwb]; simp [go_sem]
 have a1 : wb.cell? ⟨w.heap.size, 1, none⟩ = some (.int .u32 is) := by rw [hwb]; simp [go_sem]
 have b0 : wb.cell? ⟨w.heap.size + 1, 0, none⟩ = some (.int .u32 jc) := by rw [hwb]; simp [go_sem]
 have b1 : wb.cell? ⟨w.heap.size + 1, 1, none⟩ = some (.int .u32 js) := by rw [hwb]; simp [go_sem]
 have HG : Hid (Grew w wb) := by show Grew _ _; rw [hwb]; exact ((Grew.refl w).al _).al _
 go_enter Tryz.func79, Tryz.ntmps79
 go_wp2_with fail
 rw [← hwb]; clear hwb; go_region_held3 (fun w' => w'.cell? ⟨w.heap.size, 0, none⟩ = some (.int .u32 ic) ∧ w'.cell? ⟨w.heap.size, 1, none⟩ = some (.int .u32 is) ∧ w'.cell? ⟨w.heap.size + 1, 0, none⟩ = some (.int .u32 jc) ∧ w'.cell? ⟨w.heap.size + 1, 1, none⟩ = some (.int .u32 js) ∧ Below wb.heap.size wb w')
  ((refine (fun (hB : Below wb.heap.size wb _) => ⟨cell_later hB a0, cell_later hB a1, cell_later hB b0, cell_later hB b1, hB⟩) ?_; (repeat (first | exact Below.refl _ _ | assumption | refine Below.drew ?_ | refine Below.al ?_ _ | refine Below.setCell ?_ (by first | exact Nat.le_refl _ | (simp; omega) | (simp; done)) _ | refine Below.on ?_ (by assumption)))))
  (first
   | (go_at_call 116; refine (cmpU_is _ _ _).mono ?_; rintro e w1 ⟨rfl, rfl⟩)
   | (go_at_call 115; refine (or_is HR.out (by simp [go_sem]) (by simp [go_sem])).mono ?_; rintro e w1 ⟨rfl, rfl⟩))
 all_goals (try go_wp2_with fail)
 go_ret
 exact ⟨rfl, (HG.out.al _).drew⟩
theorem all1_is (v u : Hv) (w : World) : Calls Tryz.prog 78 #[v.val, u.val] w fun e w' => e = .returned (.int .i64 (cmpI v.h.id u.h.id)) ∧ ∃ q os, w' = grow (w.drewN q) os := by
 obtain ⟨⟨⟨vc, vs⟩, home, vw, vl, vn, rs, ws⟩, ra, rc, wa, wk⟩ := v; obtain ⟨⟨⟨uc, us⟩, uhome, uw, ul, un, urs, uws⟩, ura, urc, uwa, uwk⟩ := u; simp only; obtain ⟨r, hr⟩ : ∃ r, cmpI ⟨vc, vs⟩ ⟨uc, us⟩ = r := ⟨_, rfl⟩; rw [hr]; have B : Hid (∀ W, Calls Tryz.prog 79 #[.agg #[.int .u32 vc, .int .u32 vs], .agg #[.int .u32 uc, .int .u32 us]] W fun e w' => e = .returned (.int .i64 r) ∧ ∃ q os, w' = grow (W.drewN q) os) := fun W => by rw [← hr]; exact byID_is _ _ W
 clear hr; go_enter Tryz.func78, Tryz.ntmps78
 go_wp2_with (go_at_call 79; refine (B.out _).mono ?_; rintro e w1 ⟨rfl, q, os, rfl⟩)
 go_ret
 exact ⟨rfl, (((Grew.refl w).al _).al _).trans ⟨q, os, rfl⟩⟩
def ltI (i j : Ix) : Bool := decide (i.1 < j.1) || (decide (i.1 = j.1) && decide (i.2 < j.2))
theorem cmp_lt (i j : Ix) : decide (cmpI i j < 0) = ltI i j := by
 unfold cmpI cmpZ ltI; rcases Int.lt_trichotomy i.1 j.1 with h | h | h
 ·have h1 : i.1 < j.1 := h; simp [h1]
 ·rw [h]; rcases Int.lt_trichotomy i.2 j.2 with k | k | k
  ·simp [k]
  ·simp [k]
  ·have k1 : ¬ i.2 < j.2 := by omega
   simp [k, k1]
 ·have h1 : ¬ i.1 < j.1 := by omega
  have h2 : ¬ i.1 = j.1 := by omega
  simp [h, h1, h2]
abbrev hcs (v : Hv) : List Value := [.int .u32 v.h.id.1, .int .u32 v.h.id.2, .int .u32 v.h.home, .int .u64 v.h.w, .int .u32 v.h.l, .int .u32 v.h.n, .slice v.ra v.h.rs.length v.rc, .slice v.wa v.h.ws.length v.wc]
theorem box_cells {w : World} {g : Nat} {y : Hv} (h : w.heap[g]? = some (.cells (hcs y).toArray 52)) : ∀ o v, (hcs y)[o]? = some v → w.cell? ⟨g, o, none⟩ = some v := fun o v hv => cell_of_obj h (by simpa using hv)
theorem ltI_tri {i j : Ix} (h : ltI i j = false) (h' : ltI j i = false) : i = j := by
 obtain ⟨a, b⟩ := i; obtain ⟨c, d⟩ := j; simp [ltI] at h h'; have e : a = c := by omega
 subst e; simp at h h'; have e : b = d := by omega
 rw [e]
theorem ltI_of {i j : Ix} (h : ltI j i = false) (h' : i ≠ j) : ltI i j = true := by
 cases e : ltI i j with
 | true => rfl
 | false => exact absurd (ltI_tri e h) h'
end Go.Proofs.YtneojeidpfjpbaaGreatDoor.Lk
