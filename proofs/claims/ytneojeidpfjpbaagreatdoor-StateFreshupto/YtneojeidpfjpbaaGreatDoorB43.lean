import Derived.Test.YtneojeidpfjpbaaGreatDoorB42
import Derived.Test.YtneojeidpfjpbaaGreatDoorRows
import Derived.Test.YtneojeidpfjpbaaGreatDoorChecked
import Derived.OpenShut
import Derived.Deep.Slices
import Derived.Deep.DeepHandedRow
import Derived.ProofKit
import Derived.SizedLaws
set_option linter.unusedVariables false
namespace Go.Proofs.YtneojeidpfjpbaaGreatDoor.Lk
open Go.RowKit Go.Sort
def Hv.has (v : Hv) (b : Nat) : Prop := v.rV.ownBlock = some b ∨ v.wV.ownBlock = some b
theorem Hv.ok.off {F : Nat → Prop} {w w' : World} {v : Hv} (h : v.ok w) (ho : Onl F w w') (hF : ∀ b, v.has b → ¬ F b) : v.ok w' := by
 refine ⟨fun i hi => ?_, fun i hi => ?_, h.rl, h.wl⟩
 ·obtain ⟨b, off, e, h0, h1⟩ := h.r i hi; have hn : ¬ F b := hF b (.inl (by simp [Hv.rV, e, Value.ownBlock])); exact ⟨b, off, e, ho.cell hn h0, ho.cell hn h1⟩
 ·obtain ⟨b, off, e, h0, h1, h2⟩ := h.w i hi; have hn : ¬ F b := hF b (.inr (by simp [Hv.wV, e, Value.ownBlock])); exact ⟨b, off, e, ho.cell hn h0, ho.cell hn h1, ho.cell hn h2⟩
theorem Hv.typ.off {F : Nat → Prop} {w w' : World} {v : Hv} (h : v.typ w) (ho : Onl F w w') (hF : ∀ b, v.has b → ¬ F b) : v.typ w' := by
 refine ⟨fun ad e => ?_, fun ad e => ?_⟩
 ·obtain ⟨cur, hc⟩ := h.1 ad e; exact ⟨cur, (ho.block _ (Array.getElem?_eq_some_iff.1 hc).1 (hF _ (.inl (by simp [Hv.rV, e, Value.ownBlock])))).trans hc⟩
 ·obtain ⟨cur, hc⟩ := h.2 ad e; exact ⟨cur, (ho.block _ (Array.getElem?_eq_some_iff.1 hc).1 (hF _ (.inr (by simp [Hv.wV, e, Value.ownBlock])))).trans hc⟩
theorem slice_own {a : Option Addr} {n c b : Nat} (h : (Value.slice a n c).ownBlock = some b) : ∃ ad, a = some ad ∧ ad.block = b := by
 cases a with
 | none => cases h
 | some ad => exact ⟨ad, rfl, by simpa [Value.ownBlock] using h⟩
theorem Hv.low.has {B : Nat} {v : Hv} (h : v.low B) {b : Nat} (hb : v.has b) : B ≤ b := by
 rcases hb with hb | hb
 ·exact h.1 b hb
 ·exact h.2 b hb
structure Gv (B : Nat) (w : World) (a : Option Addr) (k c : Nat) (G : List Hv) : Prop where
 own : OwnH B w (.slice a k c) k G
 len : G.length = k
 fr : ∀ u ∈ G, u.fresh B w
 far : G.Pairwise Hv.far
def GB (a : Option Addr) (k c : Nat) (G : List Hv) (b : Nat) : Prop := (Value.slice a k c).ownBlock = some b ∨ ∃ u ∈ G, u.has b
theorem Hv.fresh.off {F : Nat → Prop} {B : Nat} {w w' : World} {v : Hv} (h : v.fresh B w) (ho : Onl F w w') (hF : ∀ b, v.has b → ¬ F b) : v.fresh B w' :=
 ⟨owns_keep h.r fun g hg => ho.block g (h.r.lt g hg).2 (hF g (.inl hg)), owns_keep h.w fun g hg => ho.block g (h.w.lt g hg).2 (hF g (.inr hg))⟩
theorem Hv.fresh.has {B : Nat} {w : World} {v : Hv} (h : v.fresh B w) {b : Nat} (hb : v.has b) : B ≤ b ∧ b < w.heap.size := by
 rcases hb with hb | hb
 ·exact h.r.lt b hb
 ·exact h.w.lt b hb
section
variable {B k c : Nat} {w w' : World} {a : Option Addr} {G : List Hv} {F : Nat → Prop}
theorem Gv.later (h : Gv B w a k c G) (hb : Below w.heap.size w w') : Gv B w' a k c G := ⟨owns_keep h.own fun g hg => hb.block g (h.own.lt g hg).2, h.len, fun u hu => (h.fr u hu).later hb, h.far⟩
theorem Gv.lt (h : Gv B w a k c G) {b : Nat} (hb : GB a k c G b) : B ≤ b ∧ b < w.heap.size := by
 rcases hb with hb | ⟨u, hu, hb⟩
 ·exact h.own.lt b hb
 ·exact (h.fr u hu).has hb
theorem Gv.mk' (h : Gv B w a k c G) : Mk B w k (fun i => (nthH G i).rV) (fun i => (nthH G i).wV) (fun i => (nthH G i).h.rs) (fun i => (nthH G i).h.ws) := by
 have hg : ∀ i, i < k → nthH G i ∈ G := fun i hi => nthH_mem (by rw [h.len]; exact hi)
 have hp : ∀ i j, i < j → j < k → (nthH G i).far (nthH G j) := fun i j hij hj => by
  have hi' : i < G.length := by rw [h.len]; omega
  have hj' : j < G.length := by rw [h.len]; exact hj
  have := List.pairwise_iff_getElem.1 h.far i j hi' hj' hij; simpa [nthH, hi', hj'] using this
 have hq : ∀ i j, i < k → j < k → i ≠ j → (nthH G i).far (nthH G j) := fun i j hi hj hij => by
  rcases Nat.lt_or_gt_of_ne hij with e | e
  ·exact hp i j e hj
  ·exact (hp j i e hi).symm
 have hap : ∀ (x y : Value), (∀ b, x.ownBlock = some b → y.ownBlock ≠ some b) → Fam.Ap x y := fun x y hxy => by
  cases e : x.ownBlock with
  | none => exact .inl e
  | some b => exact .inr fun e' => hxy b e (e'.symm.trans e)
 exact ⟨⟨fun i hi => (h.fr _ (hg i hi)).r, fun i j hi hj hij => hap _ _ (hq i j hi hj hij).1⟩, ⟨fun i hi => (h.fr _ (hg i hi)).w, fun i j hi hj hij => hap _ _ (hq i j hi hj hij).2⟩⟩
theorem Gv.at (h : Gv B w a k c G) {i : Nat} (hi : i < k) (o : Nat) (ho : o < 8) : (G.flatMap hcs)[i * 8 + o]? = (hcs (nthH G i))[o]? := by
 letI : Inhabited Hv := ⟨Hv.zero⟩
 have hi' : i < G.length := by rw [h.len]; exact hi
 rw [fm_get (k := 8) hcs_len G i o hi' ho]; have : G[i]! = nthH G i := by simp [nthH, hi']
 rw [this]
end
theorem markG_is {W0 w : World} {B k c : Nat} {a : Option Addr} {G : List Hv} {z : Int} (ht : PowTab W0) (hW : Below W0.heap.size W0 w) (hB0 : W0.heap.size ≤ B) (hB : B ≤ w.heap.size) (g : Gv B w a k c G)
  (hl : ∀ u ∈ G, u.h.rs.length ≤ 1073741824 ∧ u.h.ws.length ≤ 1073741824) (hk : k ≤ 1073741824) (hz : 0 ≤ z ∧ z ≤ 4611686018427387904) :
  Calls Tryz.prog 11 #[.slice a k c, .int .i64 z] w fun e w' => e = .returned (.bool true) ∧ Hid (Onl (GB a k c G) w w') := by
 have hm : ∀ i, i < k → nthH G i ∈ G := fun i hi => nthH_mem (by rw [g.len]; exact hi)
 refine (mark_is (sg := fun i j => signB z i j) g.mk' g.own hB (fun i hi => by rw [g.at hi 6 (by decide)]; rfl) (fun i hi => by rw [g.at hi 7 (by decide)]; rfl) (fun i hi => (hl _ (hm i hi)).1) (fun i hi => (hl _ (hm i hi)).2) hk
  (fun w1 i j hb hi hj => sign_is (by omega) (by omega) (by omega) w1 (ht.later (hW.trans (hb.mono hB0))))).mono ?_
 rintro e w' ⟨rfl, ho⟩; refine ⟨rfl, ho.out.mono fun b hb => ?_⟩; rcases hb with hb | ⟨i, hi, hb | hb⟩
 ·exact .inl hb
 ·exact .inr ⟨_, hm i hi, .inl hb⟩
 ·exact .inr ⟨_, hm i hi, .inr hb⟩
end Go.Proofs.YtneojeidpfjpbaaGreatDoor.Lk
namespace Go.Proofs.YtneojeidpfjpbaaGreatDoor.Vs
open Go.RowKit Go.Sort
def Nod (w w' : World) : Prop := ∀ (b : Nat) (cs : Array Value) (z : Nat × Nat), w.heap[b]? = some (.cells cs 249 z) → w'.heap[b]? = some (.cells cs 249 z)
theorem TrIn.nod {S : Nat → Prop} {w w' : World} (h : Nod w w') : ∀ {T : Tr}, TrIn S w T → TrIn S w' T
 | .nil, _ => trivial
 | .node b k v l r, ⟨⟨hb, ho⟩, h0, h1, h2, h3, h4, hl, hr⟩ => by
  have ho' := h b _ _ ho; exact ⟨⟨hb, ho'⟩, cell_of_obj ho' rfl, cell_of_obj ho' rfl, cell_of_obj ho' rfl, cell_of_obj ho' rfl, cell_of_obj ho' rfl, TrIn.nod h hl, TrIn.nod h hr⟩
theorem Xi.nod {w w' : World} {p o : Nat} {l : List En} (h : Xi w p o l) (k : Nod w w') (hp : w'.heap[p]? = w.heap[p]?) : Xi w' p o l := by
 obtain ⟨T, cs, t, hb, hi, hc, ht, hl, hr⟩ := h; exact ⟨T, cs, t, hp.trans hb, hi, hc, ht.nod k, hl, hr⟩
theorem StoG.nod {F : Nat → Prop} {w w' : World} {p o : Nat} {t : TypeId} {M : Mst} {mk : Sp} (h : StoG F w p o t M mk) (k : Nod w w') (hb : ∀ b, F b → w'.heap[b]? = w.heap[b]?) : StoG F w' p o t M mk := by
 obtain ⟨m, h, e⟩ := h; exact ⟨m, ⟨by obtain ⟨cs, hc, x⟩ := h.obj; exact ⟨cs, (hb p h.fp).trans hc, x⟩, h.ty, h.xi.nod k (hb p h.fp), fun e he => (h.row e he).keep (hb _ (h.fr e he)), h.apart, h.good, h.fp, h.fr, fun b hf => by rw [hb b hf]; exact h.own b hf⟩, e⟩
end Go.Proofs.YtneojeidpfjpbaaGreatDoor.Vs
namespace Go.Proofs.YtneojeidpfjpbaaGreatDoor.Ys
open Go.RowKit Go.Sort
section
variable {F : Nat → Prop} {w w' : World} {p : Nat} {m1 m2 m : Option Nat} {V : List Lk.Hv} {I : Lk.It} {s : Ps}
theorem St.off (T : St F w p m1 m2 m V I s) {G : Nat → Prop} (ho : Onl G w w') (hn : ∀ b, G b → ∀ (cs : Array Value) (z : Nat × Nat), w.heap[b]? ≠ some (.cells cs 249 z)) (hB : ∀ b, F b ∨ Bm p m1 m2 m b → ¬ G b) (hV : ∀ v ∈ V, ∀ b, v.has b → ¬ G b) : St F w' p m1 m2 m V I s := by
 have hlt : ∀ b, F b ∨ Bm p m1 m2 m b → w'.heap[b]? = w.heap[b]? := fun b h => ho.block b (T.all h) (hB b h)
 have hp := hlt p (.inr (.inl rfl)); obtain ⟨root, hob⟩ := T.obj; have hob' : w'.heap[p]? = some (.cells (scs s m1 m2 m root) SS (0, 0)) := hp.trans hob; refine ⟨⟨root, hob'⟩, ?_, ?_, ?_, T.h, fun v hv => (T.ty v hv).off ho (hV v hv), T.dm, T.lw.1, Nat.le_trans T.lw.2 ho.size⟩
 ·have tb := T.tb; obtain ⟨cs, hc, x0, x1⟩ := tb.obj; exact ⟨⟨cs, hp.trans hc, x0, x1⟩, bare13 hob', tb.held.same fun b e => hlt b (.inr (.inr (.inl e))), tb.ints.same fun b e => hlt b (.inr (.inr (.inr (.inl e)))), fun v hv => (tb.rows v hv).off ho (hV v hv), tb.ok, tb.nil, tb.ne⟩
 ·obtain ⟨ds, hd, z0⟩ := T.lg.obj; exact ⟨⟨ds, hp.trans hd, z0⟩, T.lg.ents.same fun b e => hlt b (.inr (.inr (.inr (.inr e))))⟩
 ·exact T.st.nod (fun b cs z hc => (ho.block b (Array.getElem?_eq_some_iff.1 hc).1 fun g => hn b g cs z hc).trans hc) fun b hf => hlt b (.inl hf)
theorem St.raise (T : St F w p m1 m2 m V I s) (hH : s.H = []) {L : Nat} (hL : L ≤ w.heap.size) : St F w p m1 m2 m V I { s with lo := L } := by
 have hV : V = [] := by have := T.h; rw [hH] at this; simpa using this
 exact ⟨T.obj, T.tb, T.lg, T.st, T.h, T.ty, T.dm, fun v hv => (by rw [hV] at hv; cases hv), hL⟩
end
theorem lay_lo (s : Ps) (e : Lg.En) : (layS s e).lo = s.lo := by
 unfold layS; repeat' split
 all_goals rfl
theorem set_lo (s : Ps) (r : Rg) : (setS s r).lo = s.lo := by
 show (layS s (enR r)).lo = s.lo
 exact lay_lo s _
theorem cmt_lo (s : Ps) (r : Rg) : (cmtS s r).lo = s.lo := by
 unfold cmtS; repeat' split
 all_goals first
  | rfl
  | exact set_lo _ _
  | exact (set_lo _ _).trans rfl
theorem ap_lo (s : Ps) (r : Rg) : (apS s r).lo = s.lo := by
 unfold apS resS prpS dcdS mrkS hldS; repeat' split
 all_goals first
  | rfl
  | exact set_lo _ _
  | exact cmt_lo _ _
theorem ax_lo (s : Ps) (r : Rg) : (axS s r).lo = s.lo := by
 unfold axS; split
 ·rfl
 ·exact ap_lo s r
def Stg (B L H : Nat) (w : World) (p : Nat) (s : Ps) : Prop := ∃ F m1 m2 m V I, St F w p m1 m2 m V I s ∧ s.lo = H ∧ ∀ b, F b ∨ Bm p m1 m2 m b → B ≤ b ∧ (b < L ∨ H ≤ b)
section
variable {B L H : Nat} {w w' : World} {p : Nat} {s : Ps}
theorem Stg.sta (T : Stg B L H w p s) : Sta B w p s := by
 obtain ⟨F, m1, m2, m, V, I, T, _, h⟩ := T; exact ⟨F, m1, m2, m, V, I, T, fun b hb => (h b hb).1⟩
theorem Stg.of (T : Sta B w p s) (hs : s.H = []) {w' : World} (hb : Below w.heap.size w w') : Stg B w.heap.size w'.heap.size w' p { s with lo := w'.heap.size } := by
 obtain ⟨F, m1, m2, m, V, I, T, h⟩ := T; exact ⟨F, m1, m2, m, V, I, (T.later hb).raise hs (Nat.le_refl _), rfl, fun b hb => ⟨h b hb, .inl (T.all hb)⟩⟩
theorem Stg.apply (T : Stg B L H w p s) (hB : B ≤ w.heap.size) (hH : H ≤ w.heap.size) (r : Rg) (hr : r.ok w) (hR : RgR r) (hc : (s.ceil == 0) = false) (hn : Vs.countM s.M ≤ 268435456) (hj : r.k = 2 → acB s (at' r) = true → jbB (at' r) = true) :
  Calls Tryz.prog 6 #[sp p, r.val] w fun e w' => e = .returned (.int .i64 (axE s r)) ∧ Hid (Stg B L H w' p (axS s r) ∧ Onl (fun b => B ≤ b ∧ (b < L ∨ H ≤ b)) w w') := by
 obtain ⟨F, m1, m2, m, V, I, T, hlo, h⟩ := T; refine (apply_all T r hr hR hc hn hj).mono ?_; rintro e w' ⟨he, F', m1', m2', m', V', I', T', g1, g2⟩; refine ⟨he, hid ⟨⟨F', m1', m2', m', V', I', T', by rw [ax_lo, hlo], fun b hb => ?_⟩, g2.mono h⟩⟩; rcases g1 b hb with k | k
 ·exact h b k
 ·exact ⟨Nat.le_trans hB k, .inr (Nat.le_trans hH k)⟩
theorem Stg.spoilt (T : Stg B L H w p s) {G : Nat → Prop} (ho : Onl G w w') (hG : ∀ b, G b → L ≤ b ∧ b < H) (hn : ∀ b, G b → ∀ (cs : Array Value) (z : Nat × Nat), w.heap[b]? ≠ some (.cells cs 249 z)) : Stg B L H w' p s := by
 obtain ⟨F, m1, m2, m, V, I, T, hlo, h⟩ := T; refine ⟨F, m1, m2, m, V, I, T.off ho hn (fun b hb g => ?_) (fun v hv b hb g => ?_), hlo, h⟩
 ·have h1 := (h b hb).2; have h2 := hG b g; omega
 ·have h1 := (T.lw.1 v hv).has hb; have h2 := hG b g; omega
end
end Go.Proofs.YtneojeidpfjpbaaGreatDoor.Ys
namespace Go.Proofs.YtneojeidpfjpbaaGreatDoor
open Go.ChangeShapes Go.WideShapes Go.ChangeAt Go.RowKit Go.Deep
def RowC {α : Type} (z : α) (cells : α → List Value) (n : Nat) (W : World) (a : Option Addr) (xs : List α) : Prop :=
 ∀ i, i < xs.length → ∃ b off, a = some ⟨b, off, none⟩ ∧ ∀ o u, (cells (xs[i]?.getD z))[o]? = some u → W.cell? ⟨b, off + i * n + o, none⟩ = some u
theorem weightsAll_mem {H : Type} {P : Program} {e : TypeId} {k : Nat} : ∀ {l : List (DataW H)} {d : DataW H}, d ∈ l → k ∈ d.weights P e → k ∈ DataW.weightsAll P e l
 | x :: l, d, hd, hk => by
  rw [DataW.weightsAll, List.mem_append]; rcases List.mem_cons.1 hd with rfl | hd
  ·exact .inl hk
  ·exact .inr (weightsAll_mem hd hk)
theorem bulk_pos {H : Type} (d : DataW H) : 1 ≤ Rows.uptoBulk d := by
 cases d with
 | lit l => cases l <;> simp [Rows.uptoBulk]
 | _ => simp [Rows.uptoBulk]
theorem bulkAll_len {H : Type} : ∀ l : List (DataW H), l.length ≤ Rows.uptoBulkAll l
 | [] => by simp
 | x :: l => by have := bulkAll_len l; have := bulk_pos x; simp only [List.length_cons, Rows.uptoBulkAll]; omega
theorem bulkAll_mem {H : Type} : ∀ {l : List (DataW H)} {d : DataW H}, d ∈ l → Rows.uptoBulk d ≤ Rows.uptoBulkAll l
 | x :: l, d, hd => by
  rcases List.mem_cons.1 hd with rfl | hd
  ·simp only [Rows.uptoBulkAll]; omega
  ·have := bulkAll_mem hd; simp only [Rows.uptoBulkAll]; omega
theorem bulkAll_sum {H α : Type} (z : α) (f : α → Nat) : ∀ {el : List (DataW H)} {xs : List α}, el.length = xs.length → (∀ i, i < xs.length → ∃ d, el[i]? = some d ∧ f (xs[i]?.getD z) ≤ Rows.uptoBulk d) → (xs.map f).sum ≤ Rows.uptoBulkAll el
 | [], [], _, _ => by simp
 | e :: el, x :: xs, hl, h => by
  obtain ⟨d, hd, h0⟩ := h 0 (by simp); simp at hd h0; subst hd; have := bulkAll_sum z f (el := el) (xs := xs) (by simpa using hl) (fun i hi => by
   obtain ⟨d, hd, h1⟩ := h (i + 1) (by simpa using hi); exact ⟨d, by simpa using hd, by simpa using h1⟩)
  simp only [List.map_cons, List.sum_cons, Rows.uptoBulkAll]; omega
def InReach {H : Type} (t : TypeId) (d : DataW H) : Prop := (∀ k ∈ d.weights Tryz.prog t, k ≤ reachBytes) ∨ Rows.uptoBulk d ≤ 1048576
theorem InReach.part {H : Type} {t : TypeId} {fs : Array Field} {ps : List (DataW H)} (h : InReach t (.agg ps)) (ht : Tryz.prog.underlying t = some (.struct fs)) {j : Nat} {f : Field} {d : DataW H} (hf : fs[j]? = some f) (hd : ps[j]? = some d) : InReach f.type d := by
 rcases h with h | h
 ·refine .inl fun k hk => h k ?_
  simp only [DataW.weights, ht]; exact DataW.weights_mem_each (j := j) (by simp [hf]) hd k hk
 ·have := bulkAll_mem (List.mem_of_getElem? hd); simp only [Rows.uptoBulk] at h; exact .inr (by omega)
theorem InReach.elem {H : Type} {t e : TypeId} {el sp : List (DataW H)} (h : InReach t (.slice el sp)) (ht : Tryz.prog.underlying t = some (.slice e)) {d : DataW H} (hd : d ∈ el) : InReach e d := by
 rcases h with h | h
 ·refine .inl fun k hk => h k ?_
  simp only [DataW.weights, ht, List.mem_cons, List.mem_append]; exact .inr (.inl (weightsAll_mem hd hk))
 ·have := bulkAll_mem hd; simp only [Rows.uptoBulk] at h; exact .inr (by omega)
theorem InReach.len {H : Type} {t e : TypeId} {el sp : List (DataW H)} (h : InReach t (.slice el sp)) (ht : Tryz.prog.underlying t = some (.slice e)) {n : Nat} (hb : Tryz.prog.bytesOf e = n) (hn : n ≤ 65536) : el.length * n ≤ reachBytes := by
 rcases h with h | h
 ·have := h ((el.length + sp.length) * Tryz.prog.bytesOf e) (by simp [DataW.weights, ht]); rw [hb] at this; exact Nat.le_trans (Nat.mul_le_mul_right _ (Nat.le_add_right _ _)) this
 ·have := bulkAll_len el; simp only [Rows.uptoBulk] at h; have h1 : el.length * n ≤ 1048576 * 65536 := Nat.mul_le_mul (by omega) hn; exact Nat.le_trans h1 (by decide)
theorem open_rows {H : Type} {enc : TypeId × Value → H} {W : World} {base fuel : Nat} {v : Value} {y : DataW H × List MemPlace} {t e : TypeId} {n : Nat} (ht : Tryz.prog.underlying t = some (.slice e)) (hn : Tryz.prog.cellsOf e = n) (hn0 : 0 < n)
  {α : Type} (z : α) (cells : α → List Value) (good : α → DataW H → Prop)
  (hrd : ∀ fuel cs y, DataW.trod enc Tryz.prog W base (fun _ => true) true fuel e cs = some y → InReach e y.1 → ∃ x, cs = cells x ∧ good x y.1)
  (hf : DataW.trod enc Tryz.prog W base (fun _ => true) true fuel t [v] = some y) (hr : InReach t y.1) :
  ∃ (a : Option Addr) (cap : Nat) (xs : List α), v = .slice a xs.length cap ∧ xs.length ≤ cap ∧ xs.length ≤ 9223372036854775807 ∧ RowC z cells n W a xs ∧
   (xs = [] ∨ ∃ el sp, y.1 = .slice el sp ∧ el.length = xs.length ∧ ∀ i, i < xs.length → ∃ d, el[i]? = some d ∧ good (xs[i]?.getD z) d) := by
 rcases open_slice ht hf with ⟨e3, _⟩ | ⟨a, len, cap, m, n', D, Pl, e3, hb, hlc, hm, hmm, hxx, hel⟩
 ·injection e3 with e3
  subst e3; exact ⟨none, 0, [], rfl, by simp, by simp, fun i hi => by simp at hi, .inl rfl⟩
 ·injection e3 with e3
  subst e3; have hlm : len ≤ m := by rw [hmm]; split <;> omega
  have each : ∀ i, i < len → ∃ x : α, good x (D i) ∧ ∃ bb off, a = ⟨bb, off, none⟩ ∧ ∀ o u, (cells x)[o]? = some u → W.cell? ⟨bb, off + i * n + o, none⟩ = some u := by
   intro i hi; obtain ⟨cs', hc, ht'⟩ := hel i (by omega); have hrD : InReach e (D i) := by
    rw [hxx] at hr; exact hr.elem ht (List.mem_map.2 ⟨i, List.mem_range.2 hi, rfl⟩)
   obtain ⟨x, rfl, hg⟩ := hrd _ _ _ ht' hrD; rw [hn] at hc; obtain ⟨_, hl, hcell⟩ := World.cells?_some hc; obtain ⟨bb, off, spot⟩ := a; have hspot : spot = none := by
    obtain ⟨cs0, hc0, ht0⟩ := hel 0 (by omega); rw [hn] at hc0; obtain ⟨_, hl0, hcell0⟩ := World.cells?_some hc0; have h0 := hcell0 0 hn0; cases hv0 : cs0[0]? with
    | none => rw [List.getElem?_eq_none_iff] at hv0; omega
    | some u =>
     rw [hv0] at h0; have hs := World.cell?_spot h0; clear hcell hcell0; simpa [Addr.add] using hs
   subst hspot; refine ⟨x, hg, bb, off, rfl, fun o u ho => ?_⟩; have hol : o < n := by have := (List.getElem?_eq_some_iff.1 ho).1; omega
   have := hcell o hol; rw [ho] at this; simpa [Addr.add_lit, Nat.add_assoc] using this
  obtain ⟨f, hq⟩ := @choose_lt α ⟨z⟩ _ _ each; have hnn : ∀ i, i < len → (((List.range len).map f)[i]?).getD z = f i := fun i hi => by simp [hi]
  refine ⟨some a, cap, (List.range len).map f, by simp, by simpa using hlc, by simp [maxLen] at hm ⊢; omega, fun i hi => ?_, .inr ⟨(List.range len).map D, (List.range (m - len)).map fun j => D (len + j), by rw [hxx], by simp, fun i hi => ?_⟩⟩
  ·have hi' : i < len := by simpa using hi
   obtain ⟨hx, bb, off, e, c⟩ := hq i hi'; rw [hnn i hi']; exact ⟨bb, off, by rw [e], c⟩
  ·have hi' : i < len := by simpa using hi
   rw [hnn i hi']; exact ⟨D i, by simp [hi'], (hq i hi').1⟩
end Go.Proofs.YtneojeidpfjpbaaGreatDoor
