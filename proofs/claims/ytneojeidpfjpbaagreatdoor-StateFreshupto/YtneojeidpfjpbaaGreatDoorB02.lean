import Derived.Test.YtneojeidpfjpbaaGreatDoorB01
import Derived.Maps.RangeWalk
import Derived.DeepKeys4
import Derived.Laws.AppendOwn
set_option linter.unusedVariables false
namespace Go.Proofs.YtneojeidpfjpbaaGreatDoor.Lk
open Go.RowKit Go.Sort
open Go.ChangeMaps (setBlock heap_setBlock_same heap_setBlock_other)
open Go.MapKept (Stamped stamped_empty stamped_push stamped_modify stamped_erase stamped_iff)
structure KeyKind {α : Type} (P : Program) (k : TypeId) (ev : α → Value) (good : α → Prop) : Prop where
 inj : ∀ a b, ev a = ev b → a = b
 check : ∀ (w : World) (em : Bool) (a : α), good a → (Instr.checkKey em 10000 k (ev a)).run P w = .ok () w
 find : ∀ (w : World) (a : α), good a → ∀ es : List MapEntry, (∀ x ∈ es, ∃ b, good b ∧ x.key = ev b) →
  ((Instr.findKey k (ev a) es).run P w = .ok none w ∧ ∀ x ∈ es, x.key ≠ ev a) ∨ ∃ j x, (Instr.findKey k (ev a) es).run P w = .ok (some (j, x.val)) w ∧ es[j]? = some x ∧ x.key = ev a
 stays : ∀ (w : World) (a : α), good a → (Instr.keyThatStays (ev a) (ev a)).run P w = .ok (ev a) w
theorem KeyKind.strings {P : Program} {k : TypeId} (hk : P.underlying k = some .string) : KeyKind P k Value.string (fun _ => True) where
 inj := fun a b e => by injection e
 check := fun w em a _ => MapKept.run_checkKey hk (d := .string) (k := .string a) trivial em 9999
 find := fun w a _ es hes => by
  have hks : ∀ y ∈ es, MapKept.IsKey .string y.key := fun y hy => by
   obtain ⟨b, _, e⟩ := hes y hy; rw [e]; trivial
  rcases MapKept.findNow_spec (d := .string) (k := .string a) trivial es 0 hks with ⟨h1, h2⟩ | ⟨j, e0, h1, h2, h3⟩
  ·exact Or.inl ⟨MapKept.run_findKey hk h1, h2⟩
  ·exact Or.inr ⟨j, e0, by simpa using MapKept.run_findKey hk h1, h2, h3⟩
 stays := fun w a _ => MapKept.run_keyThatStays (d := .string) (k := .string a) trivial
section
variable {α β : Type} {P : Program} {k e t : TypeId} {ev : α → Value} {good : α → Prop} {fv : β → Value} {w w' : World} {b r : Nat} {ps todo : List (α × β)}
abbrev kv (x : MapEntry) : Value × Value := (x.key, x.val)
abbrev ekv (ev : α → Value) (fv : β → Value) (p : α × β) : Value × Value := (ev p.1, fv p.2)
def MapAt (ev : α → Value) (good : α → Prop) (fv : β → Value) (w : World) (b : Nat) (ps : List (α × β)) : Prop :=
 ∃ es clock, w.heap[b]? = some (.map es clock) ∧ Stamped es clock ∧ es.toList.map kv = ps.map (ekv ev fv) ∧ ∀ p ∈ ps, good p.1
theorem MapAt.lt (h : MapAt ev good fv w b ps) : b < w.heap.size := by
 obtain ⟨es, clock, hb, _⟩ := h; exact (Array.getElem?_eq_some_iff.1 hb).1
theorem MapAt.same (h : MapAt ev good fv w b ps) (e : w'.heap[b]? = w.heap[b]?) : MapAt ev good fv w' b ps := by
 obtain ⟨es, clock, hb, hr⟩ := h; exact ⟨es, clock, e.trans hb, hr⟩
theorem MapAt.nodup (K : KeyKind P k ev good) (h : MapAt ev good fv w b ps) : (ps.map (·.1)).Nodup := by
 obtain ⟨es, clock, hb, hs, hm, _⟩ := h; have h1 : (es.toList.map (·.key)).Nodup := hs.2.2; have h2 : es.toList.map (·.key) = (ps.map (·.1)).map ev := by
  have := congrArg (List.map (·.1)) hm; simpa [List.map_map, Function.comp_def] using this
 rw [h2] at h1; rw [List.Nodup, List.pairwise_map] at h1; exact h1.imp (fun hne e => hne (by rw [e]))
theorem entry_pair {es : Array MapEntry} (hm : es.toList.map kv = ps.map (ekv ev fv)) {j : Nat} {x : MapEntry} (hx : es.toList[j]? = some x) : ∃ p, ps[j]? = some p ∧ x.key = ev p.1 ∧ x.val = fv p.2 := by
 have : (es.toList.map kv)[j]? = some (kv x) := by rw [List.getElem?_map, hx]; rfl
 rw [hm, List.getElem?_map] at this; cases hp : ps[j]? with
 | none => rw [hp] at this; cases this
 | some p =>
  rw [hp] at this; simp only [Option.map_some, Option.some.injEq, ekv, kv, Prod.mk.injEq] at this; exact ⟨p, rfl, this.1.symm, this.2.symm⟩
theorem entry_keys {es : Array MapEntry} (hm : es.toList.map kv = ps.map (ekv ev fv)) (hg : ∀ p ∈ ps, good p.1) : ∀ x ∈ es.toList, ∃ c, good c ∧ x.key = ev c := by
 intro x hx; obtain ⟨j, hj⟩ := List.getElem?_of_mem hx; obtain ⟨p, hp, e1, _⟩ := entry_pair hm hj; exact ⟨p.1, hg p (List.mem_of_getElem? hp), e1⟩
theorem MapAt.look (h : MapAt ev good fv w b ps) (K : KeyKind P k ev good) (ht : P.underlying t = some (.map k e)) {z : Value} (hz : (zeroValue e).run P w = .ok z w) {a : α} (ha : good a) :
  (a ∉ ps.map (·.1) ∧ ∀ c, (Instr.lookup t (.map (some b)) (ev a) c).run P w = .ok (if c then .tuple #[z, .bool false] else z) w) ∨
  ∃ v, (a, v) ∈ ps ∧ ∀ c, (Instr.lookup t (.map (some b)) (ev a) c).run P w = .ok (if c then .tuple #[fv v, .bool true] else fv v) w := by
 obtain ⟨es, clock, hb, hs, hm, hg⟩ := h; rcases K.find w a ha es.toList (entry_keys hm hg) with ⟨h1, h2⟩ | ⟨j, x, h1, h2, h3⟩
 ·refine .inl ⟨fun hin => ?_, fun c => by simp [Instr.lookup, run_underlying ht, MapKept.run_getObj_map hb, K.check w _ a ha, h1, hz, Result.andThen]⟩; obtain ⟨p, hp, rfl⟩ := List.mem_map.1 hin; obtain ⟨j, hj⟩ := List.getElem?_of_mem hp; have : (es.toList.map kv)[j]? = some (ekv ev fv p) := by rw [hm, List.getElem?_map, hj]; rfl
  rw [List.getElem?_map] at this; cases hx : es.toList[j]? with
  | none => rw [hx] at this; cases this
  | some x =>
   rw [hx] at this; simp only [Option.map_some, Option.some.injEq, ekv, kv, Prod.mk.injEq] at this; exact h2 x (List.mem_of_getElem? hx) this.1
 ·obtain ⟨p, hp, e1, e2⟩ := entry_pair hm h2; have : p.1 = a := K.inj _ _ (e1.symm.trans h3); subst this; exact .inr ⟨p.2, List.mem_of_getElem? hp, fun c => by rw [← e2]; simp [Instr.lookup, run_underlying ht, MapKept.run_getObj_map hb, K.check w _ p.1 ha, h1, Result.andThen]⟩
theorem set_putA [DecidableEq α] {a : α} {v : β} : ∀ {ps : List (α × β)} {j : Nat} {p : α × β}, (ps.map (·.1)).Nodup → ps[j]? = some p → p.1 = a → ps.set j (a, v) = ps.map (fun q => if q.1 = a then (a, v) else q)
 | [], j, p, _, h, _ => by simp at h
 | q :: ps, 0, p, hn, h, e => by
  simp at h; subst h
  rw [List.map_cons, List.nodup_cons] at hn; simp only [List.set_cons_zero, List.map_cons, e, if_true]; congr 1
  have : ps.map (fun q => if q.1 = a then (a, v) else q) = ps.map id := List.map_congr_left fun x hx => by
   have : x.1 ≠ a := fun e' => hn.1 (List.mem_map.2 ⟨x, hx, by rw [e', e]⟩)
   simp [this]
  rw [this, List.map_id]
 | q :: ps, j + 1, p, hn, h, e => by
  rw [List.map_cons, List.nodup_cons] at hn; have hq : q.1 ≠ a := fun e' => hn.1 (List.mem_map.2 ⟨p, List.mem_of_getElem? (by simpa using h), by rw [e', e]⟩)
  simp only [List.set_cons_succ, List.map_cons, hq, if_false]; rw [set_putA hn.2 (by simpa using h) e]
theorem MapAt.put [DecidableEq α] (h : MapAt ev good fv w b ps) (K : KeyKind P k ev good) (ht : P.underlying t = some (.map k e)) {a : α} (ha : good a) (v : β) :
  ∃ o, (Instr.mapUpdate t (.map (some b)) (ev a) (fv v)).run P w = .ok () (setBlock w b o) ∧ MapAt ev good fv (setBlock w b o) b (putA ps a v) := by
 have hnd := h.nodup K; obtain ⟨es, clock, hb, hs, hm, hg⟩ := h; rcases K.find w a ha es.toList (entry_keys hm hg) with ⟨h1, h2⟩ | ⟨j, x, h1, h2, h3⟩
 ·have hnot : a ∉ ps.map (·.1) := fun hin => by
   obtain ⟨p, hp, rfl⟩ := List.mem_map.1 hin; have : ev p.1 ∈ es.toList.map (·.key) := by
    have e1 : es.toList.map (·.key) = (es.toList.map kv).map (·.1) := by simp [List.map_map, Function.comp_def]
    rw [e1, hm]; exact List.mem_map.2 ⟨ekv ev fv p, List.mem_map.2 ⟨p, hp, rfl⟩, rfl⟩
   obtain ⟨x, hx, e1⟩ := List.mem_map.1 this; exact h2 x hx e1
  refine ⟨.map (es.push ⟨ev a, fv v, clock⟩) (clock + 1), ?_, _, _, heap_setBlock_same hb _, stamped_push hs h2, ?_, ?_⟩
  ·simp [Instr.mapUpdate, run_underlying ht, MapKept.run_getObj_map hb, K.check w false a ha, h1, MapKept.run_setObj_map _ hb, Result.andThen, setBlock]
  ·simp [putA, hnot, hm]
  ·intro p hp; simp only [putA, if_neg hnot, List.mem_append, List.mem_singleton] at hp; rcases hp with hp | rfl
   ·exact hg p hp
   ·exact ha
 ·obtain ⟨p, hp, e1, e2⟩ := entry_pair hm h2; have hpa : p.1 = a := K.inj _ _ (e1.symm.trans h3); have hj : es[j]? = some x := by simpa using h2
  have hkeyf : ∀ e', es[j]? = some e' → ({ e' with key := ev a, val := fv v } : MapEntry).key = e'.key := fun e' he' => by rw [hj] at he'; cases he'; exact h3.symm
  have hlist : (es.modify j (fun e' => { e' with key := ev a, val := fv v })).toList = es.toList.set j { x with key := ev a, val := fv v } := by rw [Array.toList_modify, ChangeMaps.modify_eq_set _ _ _ _ h2]
  have hin : a ∈ ps.map (·.1) := List.mem_map.2 ⟨p, List.mem_of_getElem? hp, hpa⟩; refine ⟨.map (es.modify j (fun e' => { e' with key := ev a, val := fv v })) clock, ?_, _, _, heap_setBlock_same hb _, stamped_modify hs _ _ (fun _ _ => rfl) (fun e' _ he' => hkeyf e' he'), ?_, ?_⟩
  ·simp [Instr.mapUpdate, run_underlying ht, MapKept.run_getObj_map hb, K.check w false a ha, h1, hj, h3, K.stays w a ha, MapKept.run_setObj_map _ hb, Result.andThen, setBlock]
  ·rw [hlist, List.map_set, hm, putA, if_pos hin, ← set_putA hnd hp hpa, List.map_set]
  ·intro q hq; rcases (putA_mem a v q.1 q.2).1 hq with ⟨e1, _⟩ | ⟨_, hq⟩
   ·rw [e1]; exact ha
   ·exact hg _ hq
theorem erase_dropA [DecidableEq α] {a : α} : ∀ {ps : List (α × β)} {j : Nat} {p : α × β}, (ps.map (·.1)).Nodup → ps[j]? = some p → p.1 = a → ps.eraseIdx j = dropA ps a
 | [], j, p, _, h, _ => by simp at h
 | q :: ps, 0, p, hn, h, e => by
  simp at h; subst h
  rw [List.map_cons, List.nodup_cons] at hn; simp only [List.eraseIdx_zero, List.tail_cons, dropA, List.filter_cons, e, decide_true, Bool.not_true]; refine (List.filter_eq_self.2 fun x hx => ?_).symm; have : x.1 ≠ a := fun e' => hn.1 (List.mem_map.2 ⟨x, hx, by rw [e', e]⟩)
  simp [this]
 | q :: ps, j + 1, p, hn, h, e => by
  rw [List.map_cons, List.nodup_cons] at hn; have hq : q.1 ≠ a := fun e' => hn.1 (List.mem_map.2 ⟨p, List.mem_of_getElem? (by simpa using h), by rw [e', e]⟩)
  rw [List.eraseIdx_cons_succ, erase_dropA hn.2 (by simpa using h) e]; simp [dropA, hq]
theorem dropA_not [DecidableEq α] {a : α} {ps : List (α × β)} (h : a ∉ ps.map (·.1)) : dropA ps a = ps :=
 List.filter_eq_self.2 fun x hx => by
  have : x.1 ≠ a := fun e => h (List.mem_map.2 ⟨x, hx, e⟩)
  simp [this]
theorem MapAt.drop [DecidableEq α] (h : MapAt ev good fv w b ps) (K : KeyKind P k ev good) (ht : P.underlying t = some (.map k e)) {a : α} (ha : good a) (ty : TypeId) :
  ∃ o, (Builtin.delete_ #[t, k] ty #[.map (some b), ev a]).run P w = .ok (.tuple #[]) (setBlock w b o) ∧ MapAt ev good fv (setBlock w b o) b (dropA ps a) := by
 have hnd := h.nodup K; obtain ⟨es, clock, hb, hs, hm, hg⟩ := h; rcases K.find w a ha es.toList (entry_keys hm hg) with ⟨h1, h2⟩ | ⟨j, x, h1, h2, h3⟩
 ·have hnot : a ∉ ps.map (·.1) := fun hin => by
   obtain ⟨p, hp, rfl⟩ := List.mem_map.1 hin; have : ev p.1 ∈ es.toList.map (·.key) := by
    have e1 : es.toList.map (·.key) = (es.toList.map kv).map (·.1) := by simp [List.map_map, Function.comp_def]
    rw [e1, hm]; exact List.mem_map.2 ⟨ekv ev fv p, List.mem_map.2 ⟨p, hp, rfl⟩, rfl⟩
   obtain ⟨x, hx, e1⟩ := List.mem_map.1 this; exact h2 x hx e1
  refine ⟨.map es clock, ?_, _, _, heap_setBlock_same hb _, hs, ?_, ?_⟩
  ·simp [Builtin.delete_, run_underlying ht, MapKept.run_getObj_map hb, K.check w _ a ha, h1, MapKept.run_setObj_map _ hb, Result.andThen, setBlock]
  ·rw [dropA_not hnot, hm]
  ·rw [dropA_not hnot]; exact hg
 ·obtain ⟨p, hp, e1, e2⟩ := entry_pair hm h2; have hpa : p.1 = a := K.inj _ _ (e1.symm.trans h3); have hjl : j < es.toList.length := (List.getElem?_eq_some_iff.1 h2).1; have hjs : j < es.size := by simpa using hjl
  have hsub : (es.eraseIdxIfInBounds j).toList = es.toList.eraseIdx j := by
   unfold Array.eraseIdxIfInBounds; rw [dif_pos hjs]; simp
  refine ⟨.map (es.eraseIdxIfInBounds j) clock, ?_, _, _, heap_setBlock_same hb _, stamped_erase hs j, ?_, ?_⟩
  ·simp [Builtin.delete_, run_underlying ht, MapKept.run_getObj_map hb, K.check w _ a ha, h1, MapKept.run_setObj_map _ hb, Result.andThen, setBlock]
  ·rw [hsub, ChangeMaps.map_eraseIdx, hm, ← ChangeMaps.map_eraseIdx, erase_dropA hnd hp hpa]
  ·intro q hq; exact hg q ((dropA_mem a q.1 q.2).1 hq).2
def Rng (ev : α → Value) (good : α → Prop) (fv : β → Value) (w : World) (b r : Nat) (ps todo : List (α × β)) : Prop :=
 ∃ es clock since seen c0, w.heap[b]? = some (.map es clock) ∧ Stamped es clock ∧ es.toList.map kv = ps.map (ekv ev fv) ∧ (∀ p ∈ ps, good p.1) ∧
  w.heap[r]? = some (.mapIter (some b) since seen c0) ∧ (∀ x ∈ es.toList, x.born < since) ∧ since ≤ c0 ∧ since ≤ clock ∧ (leftOf es seen).toList.map kv = todo.map (ekv ev fv) ∧ todo.Sublist ps
theorem Rng.map (h : Rng ev good fv w b r ps todo) : MapAt ev good fv w b ps := by
 obtain ⟨es, clock, _, _, _, hb, hs, hm, hg, _⟩ := h; exact ⟨es, clock, hb, hs, hm, hg⟩
theorem Rng.lt (h : Rng ev good fv w b r ps todo) : r < w.heap.size := by
 obtain ⟨es, clock, _, _, _, _, _, _, _, hr, _⟩ := h; exact (Array.getElem?_eq_some_iff.1 hr).1
theorem Rng.same (h : Rng ev good fv w b r ps todo) (e1 : w'.heap[b]? = w.heap[b]?) (e2 : w'.heap[r]? = w.heap[r]?) : Rng ev good fv w' b r ps todo := by
 obtain ⟨es, clock, since, seen, c0, hb, h1, h2, h3, hr, h4⟩ := h; exact ⟨es, clock, since, seen, c0, e1.trans hb, h1, h2, h3, e2.trans hr, h4⟩
theorem MapAt.range (h : MapAt ev good fv w b ps) (ht : P.underlying t = some (.map k e)) :
  ∃ o, (Instr.range t (.map (some b))).run P w = .ok (.pointer (some ⟨w.heap.size, 0, none⟩)) (w.alloc o) ∧ Rng ev good fv (w.alloc o) b w.heap.size ps ps := by
 have hlt := h.lt; obtain ⟨es, clock, hb, hs, hm, hg⟩ := h; exact ⟨_, run_range_map w t k e b es clock ht hb, es, clock, clock, #[], clock, ((MapKept.heap_alloc w _).2 b hlt).trans hb, hs, hm, hg, (MapKept.heap_alloc w _).1, hs.1, Nat.le_refl _, Nat.le_refl _, by rw [show leftOf es #[] = es from Array.filter_eq_self.2 (fun x _ => by simp)]; exact hm, List.Sublist.refl _⟩
theorem Rng.next (h : Rng ev good fv w b r ps todo) (ty : TypeId) :
  (todo = [] ∧ (Instr.next (.pointer (some ⟨r, 0, none⟩)) false ty).run P w = .ok (.tuple #[.bool false]) w) ∨
  ∃ p todo' w1 o, todo.Perm (p :: todo') ∧ p ∈ ps ∧ good p.1 ∧ (w1 = w ∨ w1 = w.drew) ∧ (Instr.next (.pointer (some ⟨r, 0, none⟩)) false ty).run P w = .ok (.tuple #[.bool true, ev p.1, fv p.2]) (setBlock w1 r o) ∧
   Rng ev good fv (setBlock w1 r o) b r ps todo' ∧ (Instr.entry (.pointer (some ⟨r, 0, none⟩))).run P (setBlock w1 r o) = .ok (.tuple #[ev p.1, fv p.2]) (setBlock w1 r o) ∧ r ≠ b := by
 obtain ⟨es, clock, since, seen, c0, hb, hs, hm, hg, hr, hold, hsc, hsk, hl, hsub⟩ := h; have hrb : r ≠ b := by intro e; rw [e, hb] at hr; cases hr
 rcases run_next_at (P := P) w ty r b since c0 seen es clock hr hb hold hsc with ⟨h0, hrun⟩ | ⟨x, hx, w1, hal, hrun⟩
 ·left
  refine ⟨?_, hrun⟩; have : (leftOf es seen).toList = [] := by rw [Array.eq_empty_of_size_eq_zero h0]
  rw [this] at hl; simpa using hl.symm
 ·right
  obtain ⟨hxm, hxs⟩ := mem_left hx; obtain ⟨L1, L2, hL⟩ := List.append_of_mem hx; have hl' := hl; rw [hL, List.map_append, List.map_cons] at hl'; obtain ⟨t1, t2, rfl, e1, e2⟩ := List.map_eq_append_iff.1 hl'.symm; obtain ⟨p, t3, rfl, e3, e4⟩ := List.map_eq_cons_iff.1 e2; simp only [ekv, kv, Prod.mk.injEq] at e3; have hr1 : w1.heap[r]? = some (.mapIter (some b) since seen c0) := by rcases hal with rfl | rfl <;> exact hr
  have hb1 : w1.heap[b]? = some (.map es clock) := by rcases hal with rfl | rfl <;> exact hb
  have hset := MapKept.heap_set (o' := .mapIter (some b) since (seen.push x.born) clock) hr1; have hnb := (stamped_iff es clock).1 hs; have hleft : (leftOf es (seen.push x.born)).toList = L1 ++ L2 := by
   have e5 : (leftOf es (seen.push x.born)).toList = (leftOf es seen).toList.filter (fun y => !(y.born == x.born)) := by
    simp only [leftOf, Array.toList_filter, List.filter_filter]; refine List.filter_congr fun y _ => ?_
    simp [Bool.and_comm]; rfl
   rw [e5, hL, List.filter_append, List.filter_cons]; have hnd : ((leftOf es seen).toList.map (·.born)).Nodup := by
    refine hnb.2.1.sublist (List.Sublist.map _ ?_); simp only [leftOf, Array.toList_filter]; exact List.filter_sublist
   rw [hL, List.map_append, List.map_cons, List.nodup_append, List.nodup_cons] at hnd; have hf1 : L1.filter (fun y => !(y.born == x.born)) = L1 := List.filter_eq_self.2 fun y hy => by
    have := hnd.2.2 y.born (List.mem_map.2 ⟨y, hy, rfl⟩) x.born (by simp); simpa using this
   have hf2 : L2.filter (fun y => !(y.born == x.born)) = L2 := List.filter_eq_self.2 fun y hy => by
    have : y.born ≠ x.born := fun e => hnd.2.1.1 (e ▸ List.mem_map.2 ⟨y, hy, rfl⟩)
    simpa using this
   rw [hf1, hf2]; simp
  refine ⟨p, t1 ++ t3, w1, .mapIter (some b) since (seen.push x.born) clock, List.perm_middle, hsub.subset (by simp), hg p (hsub.subset (by simp)), hal, ?_, ?_, ?_, hrb⟩
  ·rw [hrun, e3.1, e3.2]
  ·refine ⟨es, clock, since, seen.push x.born, clock, ?_, hs, hm, hg, hset.1, hold, hsk, hsk, ?_, ?_⟩
   ·exact (hset.2 b (Ne.symm hrb)).trans hb1
   ·rw [hleft, List.map_append, List.map_append, e1, e4]
   ·exact List.Sublist.trans (List.Sublist.append (List.Sublist.refl _) (List.sublist_cons_self _ _)) hsub
  ·rw [e3.1, e3.2]; exact run_entry_at _ r b since seen es clock x hset.1 ((hset.2 b (Ne.symm hrb)).trans hb1) hxm hnb.2.1
end
abbrev ixv (i : Ix) : Value := .agg #[.int .u32 i.1, .int .u32 i.2]
def sameI (a b : Ix) : Bool := decide (a = b)
theorem sameI_eq (a b : Ix) : sameI a b = (a.1 == b.1 && a.2 == b.2) := by
 obtain ⟨a1, a2⟩ := a; obtain ⟨b1, b2⟩ := b; rw [Bool.eq_iff_iff]; simp [sameI]
theorem eq_u32 (d : Nat) (x y : Int) (w : World) : (Op.equalIn (d + 1) 22 (.int .u32 x) (.int .u32 y)).run Tryz.prog w = .ok (x == y) w := by
 unfold Op.equalIn; simp only [Sem.run_bind, run_underlying Tryz.underlying22, Result.andThen]; simp
theorem run_equal (a b : Ix) (w : World) : (Op.equal 38 (ixv a) (ixv b)).run Tryz.prog w = .ok (sameI a b) w := by
 rw [sameI_eq]; have hi : ∀ (x y : Int) (w : World), (Op.equalIn 9999 22 (.int .u32 x) (.int .u32 y)).run Tryz.prog w = .ok (x == y) w := fun x y w => eq_u32 9998 x y w
 show (Op.equalIn (9999 + 1) _ _ _).run _ _ = _
 rw [run_equalIn_struct w _ _ _ _ (by kernel_rfl) (by kernel_rfl)]; by_cases h1 : a.1 = b.1 <;> by_cases h2 : a.2 = b.2 <;> simp [h1, h2, hi, go_sem, Tryz.underlying38]
theorem run_eqI (a b : Ix) (w : World) : (binOp .eql 38 (ixv a) (ixv b)).run Tryz.prog w = .ok (.bool (sameI a b)) w := by
 rw [sameI_eq]; by_cases h1 : a.1 = b.1 <;> by_cases h2 : a.2 = b.2 <;> simp [h1, h2, go_sem, Tryz.underlying38]
theorem run_neI (a b : Ix) (w : World) : (binOp .neq 38 (ixv a) (ixv b)).run Tryz.prog w = .ok (.bool (!sameI a b)) w := by
 rw [sameI_eq]; by_cases h1 : a.1 = b.1 <;> by_cases h2 : a.2 = b.2 <;> simp [h1, h2, go_sem, Tryz.underlying38]
theorem ixv_inj (a b : Ix) (h : ixv a = ixv b) : a = b := by
 obtain ⟨a1, a2⟩ := a; obtain ⟨b1, b2⟩ := b; simp at h; rw [h.1, h.2]
theorem asking (a : Ix) (w : World) : ∀ (es : List MapEntry) (i : Nat), (∀ x ∈ es, ∃ b, True ∧ x.key = ixv b) →
  ((Instr.findAsking 38 (ixv a) es i).run Tryz.prog w = .ok none w ∧ ∀ x ∈ es, x.key ≠ ixv a) ∨ ∃ j x, (Instr.findAsking 38 (ixv a) es i).run Tryz.prog w = .ok (some (i + j, x.val)) w ∧ es[j]? = some x ∧ x.key = ixv a
 | [], i, _ => .inl ⟨by simp [Instr.findAsking], by simp⟩
 | y :: es, i, h => by
  obtain ⟨b, _, e⟩ := h y (by simp); by_cases hab : a = b
  ·subst hab; refine .inr ⟨0, y, ?_, rfl, e⟩; have := run_equal a a w; simp [Instr.findAsking, e, this, sameI, Result.andThen]
  ·have hf : sameI a b = false := by simp [sameI, hab]
   have hrun := run_equal a b w; rw [hf] at hrun; have hne : y.key ≠ ixv a := fun k => hab (ixv_inj _ _ (k.symm.trans e))
   have step : (Instr.findAsking 38 (ixv a) (y :: es) i).run Tryz.prog w = (Instr.findAsking 38 (ixv a) es (i + 1)).run Tryz.prog w := by
    simp [Instr.findAsking, e, hrun, Result.andThen]
   rw [step]; rcases asking a w es (i + 1) (fun x hx => h x (by simp [hx])) with ⟨h1, h2⟩ | ⟨j, x, h1, h2, h3⟩
   ·refine .inl ⟨h1, fun x hx => ?_⟩; rcases List.mem_cons.1 hx with rfl | hx
    ·exact hne
    ·exact h2 x hx
   ·exact .inr ⟨j + 1, x, by rw [h1, show i + 1 + j = i + (j + 1) by omega], by simpa using h2, h3⟩
set_option maxRecDepth 1000000 in
theorem check_ix (em : Bool) (a : Ix) (w : World) : (Instr.checkKey em 10000 38 (ixv a)).run Tryz.prog w = .ok () w := by kernel_rfl
theorem ids : KeyKind Tryz.prog 38 ixv (fun _ => True) where
 inj := ixv_inj
 check := fun w em a _ => check_ix em a w
 find := fun w a _ es hes => by
  have hw : (Instr.findKey 38 (ixv a) es).run Tryz.prog w = (Instr.findAsking 38 (ixv a) es).run Tryz.prog w := by
   cases es with
   | nil => simp [Instr.findKey, run_underlying Tryz.underlying38, Instr.findNow, Instr.findAsking, Result.andThen]
   | cons y es =>
    obtain ⟨b, _, e⟩ := hes y (by simp); simp [Instr.findKey, run_underlying Tryz.underlying38, Instr.findNow, Instr.sameNow, e, Result.andThen]
  rw [hw]; simpa using asking a w es 0 hes
 stays := fun w a _ => by simp [Instr.keyThatStays, Instr.sameBits]
theorem keysS : KeyKind Tryz.prog 9 Value.string (fun _ => True) := KeyKind.strings Tryz.underlying9
section
variable {α β : Type} {P : Program} {k e t : TypeId} {ev : α → Value} {fv : β → Value} {w w' : World} {m : Option Nat} {r : Nat} {ps todo : List (α × β)}
def MapO (ev : α → Value) (fv : β → Value) (w : World) (m : Option Nat) (ps : List (α × β)) : Prop :=
 match m with
 | none => ps = []
 | some b => MapAt ev (fun _ => True) fv w b ps
theorem MapO.at {b : Nat} (h : MapO ev fv w (some b) ps) : MapAt ev (fun _ => True) fv w b ps := h
theorem MapO.same (h : MapO ev fv w m ps) (hs : ∀ b, m = some b → w'.heap[b]? = w.heap[b]?) : MapO ev fv w' m ps := by
 cases m with
 | none => exact h
 | some b => exact MapAt.same h.at (hs b rfl)
theorem MapO.lt (h : MapO ev fv w m ps) : ∀ b, m = some b → b < w.heap.size := by
 rintro b rfl; exact MapAt.lt h.at
theorem MapO.later (h : MapO ev fv w m ps) (hb : Below w.heap.size w w') : MapO ev fv w' m ps := h.same fun b e => hb.block b (h.lt b e)
theorem MapO.nodup (h : MapO ev fv w m ps) (K : KeyKind P k ev (fun _ => True)) : (ps.map (·.1)).Nodup := by
 cases m with
 | none => rw [show ps = [] from h]; simp
 | some b => exact MapAt.nodup K h.at
theorem MapO.look (h : MapO ev fv w m ps) (K : KeyKind P k ev (fun _ => True)) (ht : P.underlying t = some (.map k e)) {z : Value} (hz : (zeroValue e).run P w = .ok z w) (a : α) :
  (a ∉ ps.map (·.1) ∧ ∀ c, (Instr.lookup t (.map m) (ev a) c).run P w = .ok (if c then .tuple #[z, .bool false] else z) w) ∨
  ∃ v, (a, v) ∈ ps ∧ ∀ c, (Instr.lookup t (.map m) (ev a) c).run P w = .ok (if c then .tuple #[fv v, .bool true] else fv v) w := by
 cases m with
 | some b => exact MapAt.look h.at K ht hz trivial
 | none =>
  rw [show ps = [] from h]; refine .inl ⟨by simp, fun c => ?_⟩; have hk : (Instr.findKey k (ev a) []).run P w = .ok none w := by
   rcases K.find w a trivial [] (by simp) with ⟨h1, _⟩ | ⟨j, x, _, h2, _⟩
   ·exact h1
   ·simp at h2
  simp [Instr.lookup, run_underlying ht, K.check w _ a trivial, hk, hz, Result.andThen]
theorem MapO.looks (h : MapO ev fv w m ps) (K : KeyKind P k ev (fun _ => True)) (ht : P.underlying t = some (.map k e)) {z : Value} (hz : ∀ W, (zeroValue e).run P W = .ok z W) (a : α) :
  (a ∉ ps.map (·.1) ∧ ∀ W, (∀ b, m = some b → W.heap[b]? = w.heap[b]?) → ∀ c, (Instr.lookup t (.map m) (ev a) c).run P W = .ok (if c then .tuple #[z, .bool false] else z) W) ∨
  ∃ v, (a, v) ∈ ps ∧ ∀ W, (∀ b, m = some b → W.heap[b]? = w.heap[b]?) → ∀ c, (Instr.lookup t (.map m) (ev a) c).run P W = .ok (if c then .tuple #[fv v, .bool true] else fv v) W := by
 have hnd := h.nodup K; rcases h.look K ht (hz w) a with ⟨h1, _⟩ | ⟨v, h1, _⟩
 ·refine .inl ⟨h1, fun W hW => ?_⟩; rcases (h.same hW).look K ht (hz W) a with ⟨_, h2⟩ | ⟨v, h2, _⟩
  ·exact h2
  ·exact absurd (List.mem_map.2 ⟨_, h2, rfl⟩) h1
 ·refine .inr ⟨v, h1, fun W hW => ?_⟩; rcases (h.same hW).look K ht (hz W) a with ⟨h2, _⟩ | ⟨v', h2, h3⟩
  ·exact absurd (List.mem_map.2 ⟨_, h1, rfl⟩) h2
  ·have := nodup_inj hnd h1 h2 rfl; injection this with _ e
   subst e; exact h3
theorem MapO.lookT (h : MapO ev fv w m ps) (K : KeyKind P k ev (fun _ => True)) (ht : P.underlying t = some (.map k e)) {z : β} (hz : ∀ W, (zeroValue e).run P W = .ok (fv z) W) (a : α) :
  ∃ v ok, (ok = true → (a, v) ∈ ps) ∧ (ok = false → a ∉ ps.map (·.1) ∧ v = z) ∧ ∀ W, (∀ b, m = some b → W.heap[b]? = w.heap[b]?) → (Instr.lookup t (.map m) (ev a) true).run P W = .ok (.tuple #[fv v, .bool ok]) W := by
 rcases h.looks K ht hz a with ⟨h1, h2⟩ | ⟨v, h1, h2⟩
 ·exact ⟨z, false, by simp, fun _ => ⟨h1, rfl⟩, fun W hW => h2 W hW true⟩
 ·exact ⟨v, true, fun _ => h1, by simp, fun W hW => h2 W hW true⟩
theorem MapO.drop [DecidableEq α] (h : MapO ev fv w m ps) (K : KeyKind P k ev (fun _ => True)) (ht : P.underlying t = some (.map k e)) (a : α) (ty : TypeId) :
  ∃ w', (Builtin.delete_ #[t, k] ty #[.map m, ev a]).run P w = .ok (.tuple #[]) w' ∧ MapO ev fv w' m (dropA ps a) ∧ Onl (fun b => m = some b) w w' ∧ w'.heap.size = w.heap.size := by
 cases m with
 | some b =>
  have hb : b < w.heap.size := MapAt.lt h.at; obtain ⟨es, clock, hbk, _⟩ := h.at; obtain ⟨o, h1, h2⟩ := MapAt.drop h.at K ht trivial ty; exact ⟨_, h1, h2, ⟨rfl, rfl, rfl, by simp [setBlock], fun i _ hne => heap_setBlock_other hbk _ (fun e => hne (by rw [e]))⟩, by simp [setBlock]⟩
 | none =>
  rw [show ps = [] from h]; refine ⟨w, ?_, rfl, Onl.refl _ _, rfl⟩; simp [Builtin.delete_, run_underlying ht, K.check w _ a trivial, Result.andThen]
theorem MapO.put [DecidableEq α] {b : Nat} (h : MapO ev fv w (some b) ps) (K : KeyKind P k ev (fun _ => True)) (ht : P.underlying t = some (.map k e)) (a : α) (v : β) :
  ∃ w', (Instr.mapUpdate t (.map (some b)) (ev a) (fv v)).run P w = .ok () w' ∧ MapO ev fv w' (some b) (putA ps a v) ∧ Onl (fun c => b = c) w w' ∧ w'.heap.size = w.heap.size := by
 obtain ⟨es, clock, hbk, _⟩ := h.at; obtain ⟨o, h1, h2⟩ := MapAt.put h.at K ht trivial v; exact ⟨_, h1, h2, ⟨rfl, rfl, rfl, by simp [setBlock], fun i _ hne => heap_setBlock_other hbk _ (fun e => hne (by rw [e]))⟩, by simp [setBlock]⟩
def RngO (ev : α → Value) (fv : β → Value) (w : World) (m : Option Nat) (r : Nat) (ps todo : List (α × β)) : Prop :=
 match m with
 | none => ps = [] ∧ todo = [] ∧ w.heap[r]? = some (.mapIter none 0 #[] 0)
 | some b => Rng ev (fun _ => True) fv w b r ps todo
theorem RngO.at {b : Nat} (h : RngO ev fv w (some b) r ps todo) : Rng ev (fun _ => True) fv w b r ps todo := h
theorem RngO.same (h : RngO ev fv w m r ps todo) (hs : ∀ b, m = some b → w'.heap[b]? = w.heap[b]?) (hr : w'.heap[r]? = w.heap[r]?) : RngO ev fv w' m r ps todo := by
 cases m with
 | none => exact ⟨h.1, h.2.1, hr.trans h.2.2⟩
 | some b => exact Rng.same h.at (hs b rfl) hr
theorem RngO.lt (h : RngO ev fv w m r ps todo) : r < w.heap.size ∧ ∀ b, m = some b → b < w.heap.size := by
 cases m with
 | none => exact ⟨(Array.getElem?_eq_some_iff.1 h.2.2).1, by simp⟩
 | some b => exact ⟨Rng.lt h.at, by rintro b' e; injection e with e; subst e; exact MapAt.lt (Rng.map h.at)⟩
theorem RngO.later (h : RngO ev fv w m r ps todo) (hb : Below w.heap.size w w') : RngO ev fv w' m r ps todo := h.same (fun b e => hb.block b (h.lt.2 b e)) (hb.block r h.lt.1)
theorem MapO.range (h : MapO ev fv w m ps) (ht : P.underlying t = some (.map k e)) :
  ∃ o, (Instr.range t (.map m)).run P w = .ok (.pointer (some ⟨w.heap.size, 0, none⟩)) (w.alloc o) ∧ RngO ev fv (w.alloc o) m w.heap.size ps ps := by
 cases m with
 | some b => exact MapAt.range h.at ht
 | none =>
  refine ⟨.mapIter none 0 #[] 0, ?_, h, h, (MapKept.heap_alloc w _).1⟩; simp [Instr.range, run_underlying ht, Result.andThen]
theorem RngO.next (P : Program) (h : RngO ev fv w m r ps todo) :
  (todo = [] ∧ ∀ ty, (Instr.next (.pointer (some ⟨r, 0, none⟩)) false ty).run P w = .ok (.tuple #[.bool false]) w) ∨
  ∃ p todo' w', todo.Perm (p :: todo') ∧ p ∈ ps ∧ (∀ ty, (Instr.next (.pointer (some ⟨r, 0, none⟩)) false ty).run P w = .ok (.tuple #[.bool true, ev p.1, fv p.2]) w') ∧
   RngO ev fv w' m r ps todo' ∧ (Instr.entry (.pointer (some ⟨r, 0, none⟩))).run P w' = .ok (.tuple #[ev p.1, fv p.2]) w' ∧ Onl (fun b => b = r) w w' ∧ w'.heap.size = w.heap.size := by
 cases m with
 | none =>
  refine .inl ⟨h.2.1, fun ty => ?_⟩; simp [Instr.next, getObj, Sem.run, h.2.2, Result.andThen]
 | some b =>
  have hlt := Rng.lt h.at; rcases Rng.next (P := P) h.at 0 with ⟨h1, h2⟩ | ⟨p, todo', w1, o, h1, h2, _, h3, h4, h5, h6, h7⟩
  ·exact .inl ⟨h1, fun ty => h2⟩
  ·refine .inr ⟨p, todo', _, h1, h2, fun ty => h4, h5, h6, ?_, ?_⟩
   ·have e0 : w1.heap = w.heap := by rcases h3 with rfl | rfl <;> rfl
    have hr1 : w1.heap[r]? = some w.heap[r] := by rw [e0]; exact Array.getElem?_eq_getElem hlt
    refine ⟨by rcases h3 with rfl | rfl <;> rfl, by rcases h3 with rfl | rfl <;> rfl, by rcases h3 with rfl | rfl <;> rfl, by simp [setBlock, e0], fun i _ hne => ?_⟩; simp only [setBlock, e0]; rw [Array.getElem?_setIfInBounds_ne (Ne.symm hne)]
   ·have e0 : w1.heap = w.heap := by rcases h3 with rfl | rfl <;> rfl
    simp [setBlock, e0]
end
abbrev spv (s : T2) : Value := .agg #[.string s.1, .string s.2]
theorem inside_is {k : ByteArray} {s : T2} {u : Bool} (hu : insB k s = u) (w : World) :
  Calls Tryz.prog 119 #[.string k, spv s] w fun e w' => e = .returned (.bool u) ∧ Below w.heap.size w w' := by
 subst hu; obtain ⟨lo, hi⟩ := s; go_enter Tryz.func119, Tryz.ntmps119
 go_wp2_with fail
 all_goals go_ret
 all_goals refine ⟨ret_bool ?_, by (repeat (first | exact Below.refl _ _ | assumption | refine Below.drew ?_ | refine Below.al ?_ _ | refine Below.setCell ?_ (by first | exact Nat.le_refl _ | (simp; omega) | (simp; done)) _ | refine Below.on ?_ (by assumption)))⟩
 all_goals simp only [insB, emS, ltS, leq_less]
 ·rename_i h1 h0; rw [h0]; simp
 ·rename_i h; rw [← leq_less]; have : (Op.bytesLess lo.toList k.toList || lo.toList == k.toList) = false := by
   rw [Bool.eq_false_iff]; intro h2; apply h
   simpa using h2
  rw [this]; rfl
abbrev encS (x : T2) : List Value := [.string x.1, .string x.2]
abbrev encW (x : Wr) : List Value := [.string x.key, .bool x.del, .string x.val]
theorem cell_objF {w : World} {b o : Nat} {cs : Array Value} {t : TypeId} {z : Nat × Nat} {v : Value} (h : w.heap[b]? = some (.cells cs t z)) (hv : cs[o]? = some v) : w.cell? ⟨b, o, none⟩ = some v := by
 simp [World.cell?, h, hv]
def flat2 (xs : List T2) : List Value := xs.flatMap encS
def flatW (xs : List Wr) : List Value := xs.flatMap encW
theorem flat2_len (xs : List T2) : (flat2 xs).length = xs.length * 2 := by
 induction xs with
 | nil => rfl
 | cons x xs ih => simp only [flat2, List.flatMap_cons, List.length_append, List.length_cons] at ih ⊢; simp at ih ⊢; omega
theorem flatW_len (xs : List Wr) : (flatW xs).length = xs.length * 3 := by
 induction xs with
 | nil => rfl
 | cons x xs ih => simp only [flatW, List.flatMap_cons, List.length_append, List.length_cons] at ih ⊢; simp at ih ⊢; omega
theorem flat2_get : ∀ (xs : List T2) (i o : Nat), i < xs.length → o < 2 → (flat2 xs)[i * 2 + o]? = (encS (nth2 xs i))[o]?
 | x :: xs, 0, o, _, ho => by
  rw [flat2, List.flatMap_cons, List.getElem?_append_left (by simp; omega)]; simp [nth2]
 | x :: xs, i + 1, o, hi, ho => by
  have ih := flat2_get xs i o (by simpa using hi) ho; rw [flat2, List.flatMap_cons, List.getElem?_append_right (by simp; omega), show (i + 1) * 2 + o - (encS x).length = i * 2 + o by simp; omega]; rw [show nth2 (x :: xs) (i + 1) = nth2 xs i by simp [nth2]]; exact ih
theorem flatW_get : ∀ (xs : List Wr) (i o : Nat), i < xs.length → o < 3 → (flatW xs)[i * 3 + o]? = (encW (nthW xs i))[o]?
 | x :: xs, 0, o, _, ho => by
  rw [flatW, List.flatMap_cons, List.getElem?_append_left (by simp; omega)]; simp [nthW]
 | x :: xs, i + 1, o, hi, ho => by
  have ih := flatW_get xs i o (by simpa using hi) ho; rw [flatW, List.flatMap_cons, List.getElem?_append_right (by simp; omega), show (i + 1) * 3 + o - (encW x).length = i * 3 + o by simp; omega]; rw [show nthW (x :: xs) (i + 1) = nthW xs i by simp [nthW]]; exact ih
theorem flat2_one (xs : List T2) : ∀ v ∈ flat2 xs, v.oneCell' = true := by
 intro v hv; simp only [flat2, List.mem_flatMap, encS] at hv; obtain ⟨x, _, hv⟩ := hv; simp at hv; rcases hv with rfl | rfl <;> rfl
theorem flatW_one (xs : List Wr) : ∀ v ∈ flatW xs, v.oneCell' = true := by
 intro v hv; simp only [flatW, List.mem_flatMap, encW] at hv; obtain ⟨x, _, hv⟩ := hv; simp at hv; rcases hv with rfl | rfl | rfl <;> rfl
theorem own_cells {w : World} {B n size : Nat} {e : TypeId} {a : Option Addr} {c : Nat} {xs : List Value} (h : w.ownsRow B e size (.slice a n c) n xs) (hn : 0 < n) : ∃ g, a = some ⟨g, 0, none⟩ ∧ B ≤ g ∧ ∀ j v, xs[j]? = some v → w.cell? ⟨g, j, none⟩ = some v := by
 obtain ⟨hl, ⟨e1, rfl⟩ | ⟨g, cap, cur, e1, hB, hh, h1, h2, h3, h4⟩⟩ := h
 ·omega
 ·injection e1 with e1 _ _
  subst e1; refine ⟨g, rfl, hB, fun j v hj => (cell_objF hh ?_)⟩; rw [← h4] at hj; rw [List.getElem?_take] at hj; split at hj
  ·simpa using hj
  ·cases hj
theorem info_of {P : Program} {t : TypeId} {z : Value} {n m : Nat} (h : (P.info? t).map (fun i => (i.zero, i.size, i.bytes)) = some (some z, n, m)) : ∃ i, P.info? t = some i ∧ i.zero = some z ∧ i.size = n ∧ i.bytes = m := by
 cases hi : P.info? t with
 | none => rw [hi] at h; cases h
 | some i =>
  rw [hi] at h; simp only [Option.map_some, Option.some.injEq, Prod.mk.injEq] at h; exact ⟨i, rfl, h.1, h.2.1, h.2.2⟩
theorem infoSp : (Tryz.prog.info? 25).map (fun i => (i.zero, i.size, i.bytes)) = some (some (.agg #[.string ⟨#[]⟩, .string ⟨#[]⟩]), 2, 32) := by kernel_rfl
theorem infoWr : (Tryz.prog.info? 103).map (fun i => (i.zero, i.size, i.bytes)) = some (some (.agg #[.string ⟨#[]⟩, .bool false, .string ⟨#[]⟩]), 3, 40) := by kernel_rfl
end Go.Proofs.YtneojeidpfjpbaaGreatDoor.Lk
