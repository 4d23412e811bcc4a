import Derived.Test.YtofpaldolcnmiaaGreatB10
set_option linter.unusedVariables false
set_option maxHeartbeats 1000000
namespace Go.Proofs.YtofpaldolcnmiaaGreat.Vs
open Go.RowKit Go.Sort
abbrev pt (x : Nat) : Value := .pointer (some ⟨x, 0, none⟩)
abbrev sv (s : Sp) : Value := .agg #[.int .u64 s.a, .int .u32 s.b, .int .u32 s.c]
def flatV (k : ByteArray) (vs : List Ver) : List Value := vs.flatMap fun v => [.string k, .int .u64 v.s.a, .int .u32 v.s.b, .int .u32 v.s.c, .bool v.del, .string v.val]
theorem flatV_snoc (k : ByteArray) (vs : List Ver) (v : Ver) : flatV k (vs ++ [v]) = flatV k vs ++ [.string k, .int .u64 v.s.a, .int .u32 v.s.b, .int .u32 v.s.c, .bool v.del, .string v.val] := by simp [flatV]
theorem flatV_len (k : ByteArray) (vs : List Ver) : (flatV k vs).length = vs.length * 6 := by
 induction vs with
 | nil => rfl
 | cons v vs ih => simp only [flatV, List.flatMap_cons, List.length_append, List.length_cons, List.length_nil] at ih ⊢; omega
structure VerAt (w : World) (g o : Nat) (k : ByteArray) (v : Ver) : Prop where
 c0 : w.cell? ⟨g, o, none⟩ = some (.string k)
 c1 : w.cell? ⟨g, o + 1, none⟩ = some (.int .u64 v.s.a)
 c2 : w.cell? ⟨g, o + 2, none⟩ = some (.int .u32 v.s.b)
 c3 : w.cell? ⟨g, o + 3, none⟩ = some (.int .u32 v.s.c)
 c4 : w.cell? ⟨g, o + 4, none⟩ = some (.bool v.del)
 c5 : w.cell? ⟨g, o + 5, none⟩ = some (.string v.val)
theorem VerAt.later {w w' : World} {g o : Nat} {k : ByteArray} {v : Ver} (h : VerAt w g o k v) (hb : Below w.heap.size w w') : VerAt w' g o k v :=
 ⟨cell_later hb h.c0, cell_later hb h.c1, cell_later hb h.c2, cell_later hb h.c3, cell_later hb h.c4, cell_later hb h.c5⟩
structure Row (w : World) (k : ByteArray) (h : Hd) : Prop where
 own : w.ownsRow 0 108 6 (.slice (some ⟨h.g, 0, none⟩) h.n h.cap) h.n (flatV k h.vs)
 len : h.vs.length = h.n
theorem Row.block {w : World} {k : ByteArray} {h : Hd} (r : Row w k h) : ∃ cs z, w.heap[h.g]? = some (.cells cs 108 z) := by
 obtain ⟨_, ⟨e, _⟩ | ⟨g, cap, cur, e, _, hg, _⟩⟩ := r.own
 ·cases e
 ·have e2 : h.g = g := by injection e with e _ _; injection e with e; injection e
  exact ⟨cur, (0, 0), by rw [e2]; exact hg⟩
theorem Row.lt {w : World} {k : ByteArray} {h : Hd} (r : Row w k h) : h.g < w.heap.size := (r.own.lt h.g rfl).2
theorem Row.keep {w w' : World} {k : ByteArray} {h : Hd} (r : Row w k h) (hb : w'.heap[h.g]? = w.heap[h.g]?) : Row w' k h :=
 ⟨owk r.own fun g hg => by have e : h.g = g := by simpa [Value.ownBlock] using hg
                           rw [← e]; exact hb, r.len⟩
theorem Row.later {w w' : World} {k : ByteArray} {h : Hd} (r : Row w k h) (hb : Below w.heap.size w w') : Row w' k h := r.keep (hb.block _ r.lt)
def StT (t0 : TypeId) : Prop := ¬ IxT t0 ∧ t0 ≠ 108
def SpT (t0 t : TypeId) : Prop := t = t0 ∨ t = 108
theorem spT_ixT {t0 t : TypeId} (h0 : StT t0) (h : SpT t0 t) : ¬ IxT t := fun k => by
 rcases h with rfl | rfl
 ·exact h0.1 k
 ·rcases k with e | e | e <;> exact absurd e (by decide)
theorem stT_store : StT 91 := ⟨fun k => by rcases k with e | e | e <;> exact absurd e (by decide), by decide⟩
def abs (m : List En) : Mst := m.map fun e => (e.1, e.2.vs)
theorem abs_get (m : List En) (k : ByteArray) : getX (abs m) k = (getX m k).map (·.vs) := by
 unfold getX abs; rw [List.find?_map]; show Option.map _ (Option.map _ (List.find? (fun e : En => decide (e.1 = k)) m)) = _
 cases List.find? (fun e : En => decide (e.1 = k)) m <;> rfl
theorem abs_set (m : List En) (k : ByteArray) (h : Hd) : abs (setX m k h) = setX (abs m) k h.vs := by
 induction m with
 | nil => rfl
 | cons x m ih =>
  show abs (setX (x :: m) k h) = setX ((x.1, x.2.vs) :: abs m) k h.vs
  unfold setX; split
  ·show (x.1, x.2.vs) :: abs (setX m k h) = _; rw [ih]
  ·split <;> rfl
theorem abs_len (m : List En) : (abs m).length = m.length := List.length_map ..
structure StoX (F : Nat → Prop) (w : World) (p o : Nat) (t : TypeId) (m : List En) (mk : Sp) : Prop where
 obj : ∃ cs, w.heap[p]? = some (.cells cs t (0, 0)) ∧ cs[o + 1]? = some (.int .u64 mk.a) ∧ cs[o + 2]? = some (.int .u32 mk.b) ∧ cs[o + 3]? = some (.int .u32 mk.c)
 ty : StT t
 xi : Xi w p o m
 row : ∀ e ∈ m, Row w e.1 e.2
 apart : m.Pairwise fun x y => x.2.g ≠ y.2.g
 good : Good (abs m)
 fp : F p
 fr : ∀ e ∈ m, F e.2.g
 own : ∀ b, F b → ∃ cs u z, w.heap[b]? = some (.cells cs u z) ∧ SpT t u
def StoG (F : Nat → Prop) (w : World) (p o : Nat) (t : TypeId) (M : Mst) (mk : Sp) : Prop := ∃ m, StoX F w p o t m mk ∧ abs m = M
abbrev Sto (F : Nat → Prop) (w : World) (p : Nat) (M : Mst) (mk : Sp) : Prop := StoG F w p 0 91 M mk
section
variable {F : Nat → Prop} {w w' : World} {p o : Nat} {t : TypeId} {m : List En} {mk : Sp} {M : Mst}
theorem StoX.blk (h : StoX F w p o t m mk) : ∃ cs, w.heap[p]? = some (.cells cs t (0, 0)) := by obtain ⟨cs, hc, _⟩ := h.obj; exact ⟨cs, hc⟩
theorem StoX.kp (h : StoX F w p o t m mk) (ho : Onl F w w') : Kp w w' :=
 Kp.of_onl ho fun b cs u z hf hb hu => by
  obtain ⟨cs', t', z', hb', ht'⟩ := h.own b hf; rw [hb'] at hb; cases hb
  exact spT_ixT h.ty ht' hu
theorem StoX.keep (h : StoX F w p o t m mk) (k : Kp w w') (hb : ∀ b, F b → w'.heap[b]? = w.heap[b]?) : StoX F w' p o t m mk :=
 ⟨by obtain ⟨cs, hc, x⟩ := h.obj; exact ⟨cs, (hb p h.fp).trans hc, x⟩, h.ty, h.xi.keep k (hb p h.fp), fun e he => (h.row e he).keep (hb _ (h.fr e he)), h.apart, h.good, h.fp, h.fr, fun b hf => by rw [hb b hf]; exact h.own b hf⟩
theorem StoX.keepC (h : StoX F w p o t m mk) (k : Kp w w') (hp : ∀ cs, w.heap[p]? = some (.cells cs t (0, 0)) → ∃ cs', w'.heap[p]? = some (.cells cs' t (0, 0)) ∧ ∀ j, o ≤ j → j < o + 4 → cs'[j]? = cs[j]?) (hb : ∀ b, F b → b ≠ p → w'.heap[b]? = w.heap[b]?) : StoX F w' p o t m mk := by
 obtain ⟨cs, hc, x1, x2, x3⟩ := h.obj; obtain ⟨cs', hc', e⟩ := hp cs hc; have hne : ∀ y ∈ m, y.2.g ≠ p := fun y hy e => by
  obtain ⟨ys, z, hz⟩ := (h.row y hy).block; rw [e, hc] at hz; injection hz with hz
  injection hz with _ ht _
  exact h.ty.2 ht
 refine ⟨⟨cs', hc', by rw [e _ (by omega) (by omega)]; exact x1, by rw [e _ (by omega) (by omega)]; exact x2, by rw [e _ (by omega) (by omega)]; exact x3⟩, h.ty, h.xi.keepC k fun ds u hd => ?_, fun y hy => (h.row y hy).keep (hb _ (h.fr y hy) (hne y hy)), h.apart, h.good, h.fp, h.fr, fun b hf => ?_⟩
 ·rw [hc] at hd; injection hd with hd
  injection hd with e1 e2 _
  subst e1 e2; exact ⟨cs', hc', e _ (by omega) (by omega)⟩
 ·by_cases hbp : b = p
  ·subst hbp; exact ⟨cs', t, _, hc', .inl rfl⟩
  ·rw [hb b hf hbp]; exact h.own b hf
theorem StoX.lt (h : StoX F w p o t m mk) {b : Nat} (hb : F b) : b < w.heap.size := by
 obtain ⟨cs, t, z, hc, _⟩ := h.own b hb; exact (Array.getElem?_eq_some_iff.1 hc).1
theorem StoX.later (h : StoX F w p o t m mk) (hb : Below w.heap.size w w') : StoX F w' p o t m mk :=
 h.keep (Kp.of_below hb) fun b hf => hb.block b (h.lt hf)
theorem StoG.later (h : StoG F w p o t M mk) (hb : Below w.heap.size w w') : StoG F w' p o t M mk := by
 obtain ⟨m, h, e⟩ := h; exact ⟨m, h.later hb, e⟩
theorem Sto.c1 (h : StoX F w p o t m mk) : w.cell? ⟨p, o + 1, none⟩ = some (.int .u64 mk.a) := by obtain ⟨cs, hc, x1, x2, x3⟩ := h.obj; exact cob hc x1
theorem Sto.c2 (h : StoX F w p o t m mk) : w.cell? ⟨p, o + 2, none⟩ = some (.int .u32 mk.b) := by obtain ⟨cs, hc, x1, x2, x3⟩ := h.obj; exact cob hc x2
theorem Sto.c3 (h : StoX F w p o t m mk) : w.cell? ⟨p, o + 3, none⟩ = some (.int .u32 mk.c) := by obtain ⟨cs, hc, x1, x2, x3⟩ := h.obj; exact cob hc x3
theorem Sto.loose (h : StoX F w p o t m mk) (j : Nat) : w.frozen? ⟨p, j, none⟩ = false := by obtain ⟨cs, hc, _⟩ := h.obj; simp [World.frozen?, hc]
end
theorem pairwise_set {R : En → En → Prop} (hs : ∀ a b, R a b → R b a) {l : List En} (hr : Rising l) (h : l.Pairwise R) {k : ByteArray} {v : Hd} (hk : ∀ e ∈ l, e.1 ≠ k → R (k, v) e) : (setX l k v).Pairwise R := by
 induction l with
 | nil => exact List.pairwise_singleton _ _
 | cons x l ih =>
  have h' := List.pairwise_cons.1 h; have hr' := List.pairwise_cons.1 hr; unfold setX; split
  ·rename_i hlt; refine List.pairwise_cons.2 ⟨fun e he => ?_, ih hr'.2 h'.2 fun e he => hk e (by simp [he])⟩; rcases (setX_mem hr'.2 k v e).1 he with rfl | ⟨he, _⟩
   ·exact hs _ _ (hk x (by simp) (lt_ne hlt))
   ·exact h'.1 e he
  ·rename_i hnl; split
   ·rename_i heq; refine List.pairwise_cons.2 ⟨fun e he => hk e (by simp [he]) fun e' => ?_, h'.2⟩; have := hr'.1 e he; rw [heq, e', lt_irrefl] at this; cases this
   ·rename_i hne; refine List.pairwise_cons.2 ⟨fun e he => hk e he fun e' => ?_, h⟩; rcases List.mem_cons.1 he with rfl | he
    ·exact hne e'
    ·have h3 := hr'.1 e he; rw [e'] at h3; exact hnl h3
theorem pairwise_mem {R : En → En → Prop} (hs : ∀ a b, R a b → R b a) {l : List En} (h : l.Pairwise R) {a b : En} (ha : a ∈ l) (hb : b ∈ l) (hne : a ≠ b) : R a b := by
 induction l with
 | nil => cases ha
 | cons x l ih =>
  have h' := List.pairwise_cons.1 h; rcases List.mem_cons.1 ha with ha1 | ha1 <;> rcases List.mem_cons.1 hb with hb1 | hb1
  ·exact absurd (ha1.trans hb1.symm) hne
  ·rw [ha1]; exact h'.1 b hb1
  ·rw [hb1]; exact hs _ _ (h'.1 a ha1)
  ·exact ih h'.2 ha1 hb1
theorem got_row {F : Nat → Prop} {w : World} {p o : Nat} {t : TypeId} {m : List En} {mk : Sp} (h : StoX F w p o t m mk) (k : ByteArray) :
  ∃ ga n cap vs, hdv (getX m k) = .slice ga n cap ∧ w.ownsRow 0 108 6 (.slice ga n cap) n (flatV k vs) ∧ vs.length = n ∧ (getX (abs m) k).getD [] = vs ∧ (n = 0 ↔ getX m k = none) ∧
   (∀ b, (Value.slice ga n cap).ownBlock = some b → F b ∧ ∃ cs z, w.heap[b]? = some (.cells cs 108 z)) ∧ (∀ e ∈ m, e.1 ≠ k → (Value.slice ga n cap).ownBlock ≠ some e.2.g) := by
 cases hg : getX m k with
 | none =>
  refine ⟨none, 0, 0, [], rfl, World.ownsRow_nil _ _ _ _, rfl, by rw [abs_get, hg]; rfl, by simp, fun b hb => (by simp [Value.ownBlock] at hb), fun e _ _ hb => (by simp [Value.ownBlock] at hb)⟩
 | some hd =>
  have hm := (getX_some h.xi.rising).1 hg; have r := h.row _ hm; have hne := (h.good.chain (k, hd.vs) (List.mem_map.2 ⟨_, hm, rfl⟩)).1; refine ⟨some ⟨hd.g, 0, none⟩, hd.n, hd.cap, hd.vs, rfl, r.own, r.len, by rw [abs_get, hg]; rfl, ?_, fun b hb => ?_, fun e he hek hb => ?_⟩
  ·have := r.len; constructor
   ·intro h0; exact absurd (List.length_eq_zero_iff.1 (this.trans h0)) hne
   ·intro e; cases e
  ·have e : hd.g = b := by simpa [Value.ownBlock] using hb
   subst e; exact ⟨h.fr _ hm, r.block⟩
  ·have e' : hd.g = e.2.g := by simpa [Value.ownBlock] using hb
   exact pairwise_mem (R := fun x y => x.2.g ≠ y.2.g) (fun _ _ h => h.symm) h.apart hm he (fun e2 => hek (by rw [← e2])) e'
theorem type_ne {w : World} {a b : Nat} {cs ds : Array Value} {s t : TypeId} {y z : Nat × Nat} (ha : w.heap[a]? = some (.cells cs s y)) (hb : w.heap[b]? = some (.cells ds t z)) (h : s ≠ t) : a ≠ b := fun e => by
 subst e; rw [ha] at hb; cases hb; exact h rfl
theorem StoX.laid {F : Nat → Prop} {w w3 w4 : World} {p o : Nat} {t : TypeId} {m : List En} {mk : Sp} {k : ByteArray} {ga : Option Addr} {n cap : Nat} (h : StoX F w p o t m mk) (hd : Hd)
  (hob : ∀ b, (Value.slice ga n cap).ownBlock = some b → F b ∧ ∃ cs z, w.heap[b]? = some (.cells cs 108 z)) (hoo : ∀ e ∈ m, e.1 ≠ k → (Value.slice ga n cap).ownBlock ≠ some e.2.g)
  (row : Row w3 k hd) (hg : w.grownBy w3 (Value.slice ga n cap).ownBlock) (hat : (Value.slice ga n cap).ownBlock = some hd.g ∨ w.heap.size ≤ hd.g)
  (hx : Xi w4 p o (setX m k hd)) (ho : Onl (fun b => b = p) w3 w4) (hpt : Part p o 1 w3 w4) (good : Good (setX (abs m) k hd.vs)) :
  ∃ F', StoX F' w4 p o t (setX m k hd) mk ∧ (∀ b, F' b → F b ∨ w.heap.size ≤ b) ∧ Onl F w w4 ∧ Part p o 1 w w4 := by
 obtain ⟨cs, bp, x1, x2, x3⟩ := h.obj; have hn : ∀ (b : Nat) (cs : Array Value) (t : TypeId) (z : Nat × Nat), w.heap[b]? = some (Obj.cells cs t z) → t ≠ 108 → w3.heap[b]? = w.heap[b]? := fun b cs t z hb ht => hg.block b (Array.getElem?_eq_some_iff.1 hb).1 (fun e => by
  obtain ⟨_, cs', z', hb'⟩ := hob b e.symm; exact type_ne hb hb' ht rfl)
 have bp3 : w3.heap[p]? = some (.cells cs t (0, 0)) := (hn p _ _ _ bp h.ty.2).trans bp; obtain ⟨cs4, bp4, s4, e4⟩ := hpt cs t (0, 0) bp3; have keep3 : ∀ b, b < w3.heap.size → b ≠ p → w4.heap[b]? = w3.heap[b]? := fun b hb hne => ho.block b hb hne
 obtain ⟨gcs, gz, bg⟩ := row.block; have hgp : hd.g ≠ p := type_ne bg bp3 h.ty.2.symm; have row4 : Row w4 k hd := row.keep (keep3 _ row.lt hgp); have oth : ∀ e ∈ m, e.1 ≠ k → Row w4 e.1 e.2 ∧ (Value.slice ga n cap).ownBlock ≠ some e.2.g := fun e he hek => by
  have r := h.row e he; have hne := hoo e he hek; have r3 : Row w3 e.1 e.2 := r.keep (hg.block _ r.lt (fun e' => hne e'.symm)); obtain ⟨ecs, ez, be⟩ := r3.block; exact ⟨r3.keep (keep3 _ r3.lt (type_ne be bp3 h.ty.2.symm)), hne⟩
 have hon : Onl F w w4 := ((grown_onl hg).mono (fun b hb => (hob b hb).1)).trans (ho.mono (fun b hb => by subst hb; exact h.fp)); refine ⟨fun b => (F b ∧ (Value.slice ga n cap).ownBlock ≠ some b) ∨ b = hd.g, ⟨⟨cs4, bp4, by rw [e4 _ (by omega)]; exact x1, by rw [e4 _ (by omega)]; exact x2, by rw [e4 _ (by omega)]; exact x3⟩, h.ty, hx, ?_, ?_, by rw [abs_set]; exact good, ?_, ?_, ?_⟩, ?_, hon, (Part.same (hn p _ _ _ bp h.ty.2)).trans hpt⟩
 ·intro e he; rcases (setX_mem h.xi.rising k hd e).1 he with rfl | ⟨he, hek⟩
  ·exact row4
  ·exact (oth e he hek).1
 ·refine pairwise_set (fun _ _ h => h.symm) h.xi.rising h.apart fun e he hek e' => ?_
  rcases hat with hat | hat
  ·exact (oth e he hek).2 (by rw [hat]; exact congrArg _ e')
  ·have := (h.row e he).lt; have e2 : hd.g = e.2.g := e'; omega
 ·exact .inl ⟨h.fp, fun e => by obtain ⟨_, cs', z', hb'⟩ := hob p e; exact type_ne bp hb' h.ty.2 rfl⟩
 ·intro e he; rcases (setX_mem h.xi.rising k hd e).1 he with rfl | ⟨he, hek⟩
  ·exact .inr rfl
  ·exact .inl ⟨h.fr e he, (oth e he hek).2⟩
 ·rintro b (⟨hf, hb⟩ | rfl)
  ·by_cases hbX : b = p
   ·subst hbX; exact ⟨_, _, _, bp4, .inl rfl⟩
   ·obtain ⟨cs, t, z, hc, ht⟩ := h.own b hf; have h3 := (hg.block b (h.lt hf) (fun e => hb e.symm)).trans hc; exact ⟨cs, t, z, (keep3 b (Array.getElem?_eq_some_iff.1 h3).1 hbX).trans h3, ht⟩
  ·obtain ⟨cs, z, hc⟩ := row4.block; exact ⟨cs, _, z, hc, .inr rfl⟩
 ·rintro b (⟨hf, _⟩ | rfl)
  ·exact .inl hf
  ·rcases hat with hat | hat
   ·exact .inl (hob _ hat).1
   ·exact .inr hat
abbrev vv (k : ByteArray) (v : Ver) : Value := .agg #[.string k, .int .u64 v.s.a, .int .u32 v.s.b, .int .u32 v.s.c, .bool v.del, .string v.val]
abbrev vcs (k : ByteArray) (v : Ver) : Array Value := #[.string k, .int .u64 v.s.a, .int .u32 v.s.b, .int .u32 v.s.c, .bool v.del, .string v.val]
theorem infoVr : (Tryz.prog.info? 108).map (fun i => (i.zero, i.size, i.bytes)) = some (some (vv ⟨#[]⟩ ⟨⟨0, 0, 0⟩, false, ⟨#[]⟩⟩), 6, 56) := by kernel_rfl
theorem info_ofV {P : Program} {t : TypeId} {z : Value} {n m : Nat} (h : (P.info? t).map (fun i => (i.zero, i.size, i.bytes)) = some (some z, n, m)) : ∃ i, P.info? t = some i ∧ i.zero = some z ∧ i.size = n ∧ i.bytes = m := by
 obtain ⟨i, hi, he⟩ := Option.map_eq_some_iff.1 h; simp only [Prod.mk.injEq] at he; exact ⟨i, hi, he.1, he.2.1, he.2.2⟩
theorem count_mem {M : Mst} {e : ByteArray × Chain} (h : e ∈ M) : e.2.length ≤ countM M := by
 induction M with
 | nil => cases h
 | cons x M ih =>
  simp only [countM, List.map_cons, List.sum_cons]; rcases List.mem_cons.1 h with rfl | h
  ·omega
  ·have := ih h; unfold countM at this; omega
theorem count_keys {M : Mst} (h : Good M) : M.length ≤ countM M := by
 have hc := h.chain; clear h; induction M with
 | nil => simp [countM]
 | cons x M ih =>
  have h1 := ih fun e he => hc e (by simp [he])
  have h2 : 0 < x.2.length := List.length_pos_iff.2 (hc x (by simp)).1; simp only [countM, List.map_cons, List.sum_cons, List.length_cons] at h1 ⊢; omega
theorem ver_cells (w : World) (k : ByteArray) (v : Ver) : VerAt (w.alloc (.cells (vcs k v) 108)) w.heap.size 0 k v := by
 have h := World.alloc_heap_new w (.cells (vcs k v) 108); exact ⟨cob h rfl, cob h rfl, cob h rfl, cob h rfl, cob h rfl, cob h rfl⟩
theorem lit_cells (w : World) (k : ByteArray) (v : Ver) : ∀ j u, (vcs k v).toList[j]? = some u → (w.alloc (.cells (vcs k v) 108)).cell? ((⟨w.heap.size, 0, none⟩ : Addr).add j) = some u :=
 World.news_of_block (World.alloc_heap_new w (.cells (vcs k v) 108))
theorem lit_one (k : ByteArray) (v : Ver) : ∀ u ∈ (vcs k v).toList, u.oneCell' = true := fun u hu => by
 simp at hu; rcases hu with rfl | rfl | rfl | rfl | rfl | rfl <;> rfl
set_option maxRecDepth 16000 in
theorem addG_is {F : Nat → Prop} {w : World} {p o : Nat} {t : TypeId} {M : Mst} {mk : Sp} {k : ByteArray} {v : Ver} (h : StoG F w p o t M mk) (hov : Over M k v.s) (hn : (countM M + 1) * 64 ≤ 140737488355328) :
  Calls Tryz.prog 190 #[.pointer (some ⟨p, o, none⟩), vv k v] w fun e w' => (∃ v0, e = .returned v0) ∧ ∃ F', StoG F' w' p o t (addM M k v) mk ∧ (∀ b, F' b → F b ∨ w.heap.size ≤ b) ∧ Onl F w w' ∧ Part p o 1 w w' := by
 obtain ⟨m, h, rfl⟩ := h; have hb0 : Below w.heap.size w (w.alloc (.cells (vcs k v) 108)) := Below.al (Below.refl _ _) _; have hv0 := ver_cells w k v; obtain ⟨w0, hw0⟩ : ∃ w0, w0 = w.alloc (.cells (vcs k v) 108) := ⟨_, rfl⟩; rw [← hw0] at hb0 hv0; have h0 := h.later hb0; obtain ⟨ga, n, cap, vs, hgot, hrow, hlen, hvs, hn0, hob, hoo⟩ := got_row h k; have hnb : n ≤ countM (abs m) := by
  rw [← hlen, ← hvs]; cases hg : getX (abs m) k with
  | none => simp
  | some cs => exact count_mem ((getX_some h.good.rising).1 hg)
 have HG : Hid (∀ W, Below w0.heap.size w0 W → Calls Tryz.prog 189 #[.pointer (some ⟨p, o, none⟩), .string k] W fun e w' => e = .returned (.tuple #[.slice ga n cap, .bool (getX m k).isSome]) ∧ Below W.heap.size W w') := fun W hb =>
  (get_is (h0.xi.later hb) k).mono fun e w' ⟨he, hw⟩ => ⟨by rw [he, gotX, hgot], by rw [hw]; exact Below.refl _ _⟩
 have kv0 := cell_regrown hv0.c0; have H := hid h; have HV := hid hv0; have HR := hid hrow; have HB0 := hid hb0; clear hgot hrow hb0; go_enter Tryz.func190, Tryz.ntmps190
 go_wp2_with fail
 rw [← hw0]; clear hw0; refine wp_region_quiet_below (by kernel_rfl) (by kernel_rfl) ?_; repeat (go_big_quiet_step ((go_at_call 189; exact Calls.regrown_of (HG.out _ (below_regrown _ _ _)))))
 refine wpQuiet_nil ?_; intro w1 hw; replace hw := bor hw; have hb1 : Below w.heap.size w w1 := Below.on HB0.out hw; have h1 := H.out.later hb1; have hv1 := HV.out.later hw; have d0 : w1.cell? ⟨w.heap.size, 0, none⟩ = some (.string k) := hv1.c0; have d1 : w1.cell? ⟨w.heap.size, 1, none⟩ = some (.int .u64 v.s.a) := hv1.c1; have d2 : w1.cell? ⟨w.heap.size, 2, none⟩ = some (.int .u32 v.s.b) := hv1.c2; have d3 : w1.cell? ⟨w.heap.size, 3, none⟩ = some (.int .u32 v.s.c) := hv1.c3; have d4 : w1.cell? ⟨w.heap.size, 4, none⟩ = some (.bool v.del) := hv1.c4; have d5 : w1.cell? ⟨w.heap.size, 5, none⟩ = some (.string v.val) := hv1.c5; obtain ⟨G, hG⟩ : ∃ G : Nat → Prop, G = fun b => (Value.slice ga n cap).ownBlock = some b := ⟨_, rfl⟩
 have hGF : ∀ b, G b → F b := fun b hb => by rw [hG] at hb; exact (hob b hb).1
 obtain ⟨pcs, hpb⟩ := h.blk; have hnp : ¬ G p := fun hb => by
  rw [hG] at hb; obtain ⟨_, cs, z, hc⟩ := hob p hb; exact type_ne hpb hc h.ty.2 rfl
 have hns : ¬ G w.heap.size := fun hb => Nat.lt_irrefl _ (h.lt (hGF _ hb))
 have HO : Hid (∀ W, Below w1.heap.size w1 W → W.ownsRow 0 108 6 (.slice ga n cap) n (flatV k vs)) := fun W hb => owk HR.out fun g hg => (Below.on hb1 hb).block g (HR.out.lt g hg).2
 have HX : Hid (∀ W, Onl G w1 W → Xi W p o m) := fun W ho => h1.xi.keep (h1.kp (ho.mono hGF)) (ho.block p h1.xi.lt hnp)
 have HS : Hid (∀ W (hd : Hd), Onl G w1 W → _) := fun W hd ho => set_is (h1.xi.keep (h1.kp (ho.mono hGF)) (ho.block p h1.xi.lt hnp)) k hd (by have := count_keys h.good; rw [abs_len] at this; omega)
 have HL : Hid (∀ W w3 w4 (hd : Hd), Below w1.heap.size w1 W → Row w3 k hd → W.grownBy w3 (Value.slice ga n cap).ownBlock → ((Value.slice ga n cap).ownBlock = some hd.g ∨ W.heap.size ≤ hd.g) → Xi w4 p o (setX m k hd) → Onl (fun b => b = p) w3 w4 → Part p o 1 w3 w4 → hd.vs = vs ++ [v] →
   ∃ F', StoG F' w4 p o t (addM (abs m) k v) mk ∧ (∀ b, F' b → F b ∨ w.heap.size ≤ b) ∧ Onl F w w4 ∧ Part p o 1 w w4) := fun W w3 w4 hd hb row hg hat hx ho hpt hvs' => by
  have hbW := Below.on hb1 hb; have hW := H.out.later hbW; have good : Good (setX (abs m) k hd.vs) := by rw [hvs', ← hvs]; exact h.good.add hov
  obtain ⟨F', f1, f2, f3, f4⟩ := hW.laid hd (fun b hb' => ⟨(hob b hb').1, by obtain ⟨_, cs, z, hc⟩ := hob b hb'; exact ⟨cs, z, (hbW.block b (h.lt (hob b hb').1)).trans hc⟩⟩) hoo row hg hat hx ho hpt good; refine ⟨F', ⟨_, f1, by rw [abs_set, hvs', addM, hvs]⟩, fun b hb' => (f2 b hb').imp id (fun h => Nat.le_trans hbW.size h), (Onl.of_below hbW).trans f3, (Part.below hbW).trans f4⟩
 obtain ⟨G2, hG2⟩ : ∃ G2 : Nat → Prop, G2 = fun b => G b ∨ b = p := ⟨_, rfl⟩
 have HNX : Hid (¬ G2 w.heap.size) := by
  rw [hG2]; exact fun hb => hb.elim hns (fun e => Nat.lt_irrefl _ (e ▸ h.xi.lt))
 have HM : Hid ((∀ A B, Onl G A B → Onl G2 A B) ∧ ∀ A B, Onl (fun b => b = p) A B → Onl G2 A B) := by
  rw [hG2]; exact ⟨fun A B h => h.mono fun b => .inl, fun A B h => h.mono fun b => .inr⟩
 have HGG := hid hG; have HN3 : Hid (n + 1 ≤ maxLen) := by show _ ≤ _; unfold maxLen; omega
 have HN4 : Hid ((n + 1) * 56 ≤ 140737488355328) := by show _ ≤ _; omega
 have HLEN := hid hlen; obtain ⟨i0, hi, hz0, hz1, hz2⟩ := info_ofV infoVr; clear hv1 hv0 h0 h1 hob hoo hn0 hvs hlen hnb hn hov h kv0 HG hG hGF hnp hns hw HV HR HB0 hG2 hpb; go_wp2_with fail
 go_region_held3 (fun w' => w'.cell? ⟨w.heap.size, 0, none⟩ = some (.string k) ∧ w'.cell? ⟨w.heap.size, 1, none⟩ = some (.int .u64 v.s.a) ∧ w'.cell? ⟨w.heap.size, 2, none⟩ = some (.int .u32 v.s.b) ∧ w'.cell? ⟨w.heap.size, 3, none⟩ = some (.int .u32 v.s.c) ∧ w'.cell? ⟨w.heap.size, 4, none⟩ = some (.bool v.del) ∧ w'.cell? ⟨w.heap.size, 5, none⟩ = some (.string v.val) ∧ Onl G2 w1 w')
  ((refine (fun (hO : Onl G2 w1 _) => ⟨hO.cell HNX.out d0, hO.cell HNX.out d1, hO.cell HNX.out d2, hO.cell HNX.out d3, hO.cell HNX.out d4, hO.cell HNX.out d5, hO⟩) ?_; (repeat (first | exact Onl.refl _ _ | assumption | refine Onl.drew ?_ | refine Onl.al ?_ _))))
  (first
   | (go_at_call 195; refine (HS.out w3 ⟨g, n + 1, cap', vs ++ [v]⟩ hO3).mono ?_; rintro e w4 ⟨rfl, hx, ho4, hp4⟩; have hO4 : Onl G2 w1 w4 := hO3'.trans (HM.out.2 _ _ ho4))
   | (refine step_append_lies _ (by rfl) _ _ 186 (by rfl) 0 108 i0 (vv ⟨#[]⟩ ⟨⟨0, 0, 0⟩, false, ⟨#[]⟩⟩) 6 56 Tryz.underlying186 hi hz0 hz1 hz2 rfl (by decide) (.slice ga n cap) n (flatV k vs) (by simp [Act.eval]) (HO.out _ (by (repeat (first | exact Below.refl _ _ | assumption | refine Below.drew ?_ | refine Below.al ?_ _ | refine Below.setCell ?_ (by first | exact Nat.le_refl _ | simp <;> omega) _ | refine Below.on ?_ (by assumption))))) ⟨w1.heap.size, 0, none⟩ 1 1 (vcs k v).toList (by simp [Act.eval]) rfl (lit_cells _ k v) (lit_one k v) (by decide) HN3.out HN4.out (Nat.zero_le _) _ rfl ?_; intro g cap' w3 hown hgrow hat hlt3; have hO3 : Onl G w1 w3 := (by rw [HGG.out]; exact (Onl.of_below (by (repeat (first | exact Below.refl _ _ | assumption | refine Below.drew ?_ | refine Below.al ?_ _ | refine Below.setCell ?_ (by first | exact Nat.le_refl _ | simp <;> omega) _ | refine Below.on ?_ (by assumption))))).trans (grown_onl hgrow)); have hO3' : Onl G2 w1 w3 := HM.out.1 _ _ hO3))
 go_end0
 refine ⟨⟨_, rfl⟩, HL.out _ w3 w4 ⟨g, n + 1, cap', vs ++ [v]⟩ (by (repeat (first | exact Below.refl _ _ | assumption | refine Below.drew ?_ | refine Below.al ?_ _ | refine Below.setCell ?_ (by first | exact Nat.le_refl _ | simp <;> omega) _ | refine Below.on ?_ (by assumption)))) ⟨?_, ?_⟩ hgrow (hat.imp id fun e => by rw [e]; exact Nat.le_refl _) hx ho4 hp4 rfl⟩
 ·show w3.ownsRow 0 _ 6 _ (n + 1) (flatV k (vs ++ [v])); rw [flatV_snoc]; exact hown
 ·show (vs ++ [v]).length = n + 1; rw [List.length_append, HLEN.out]; rfl
theorem add_is {F : Nat → Prop} {w : World} {p : Nat} {M : Mst} {mk : Sp} {k : ByteArray} {v : Ver} (h : Sto F w p M mk) (hov : Over M k v.s) (hn : (countM M + 1) * 64 ≤ 140737488355328) :
  Calls Tryz.prog 190 #[pt p, vv k v] w fun e w' => (∃ v0, e = .returned v0) ∧ ∃ F', Sto F' w' p (addM M k v) mk ∧ (∀ b, F' b → F b ∨ w.heap.size ≤ b) ∧ Onl F w w' :=
 (addG_is h hov hn).mono fun e w' ⟨h1, F', h2, h3, h4, _⟩ => ⟨h1, F', h2, h3, h4⟩
end Go.Proofs.YtofpaldolcnmiaaGreat.Vs
