import Derived.Test.YtiheilkjlapoiaaQPlain
import Derived.Maps.RangeWalk
import Derived.DeepKeys4
/- Maps, told as lists of pairs: keys of any kind that the model finds by their values, elements of any kind. -/
namespace Go.Proofs.Ytiheilkjlapoiaa.Lk
open Go.RowKit Go.Sort
open Go.ChangeMaps (setBlock heap_setBlock_same heap_setBlock_other)
open Go.MapKept (Stamped stamped_empty stamped_push stamped_modify stamped_erase stamped_iff)
set_option linter.unusedVariables false

/-- keys of a kind -/
structure KeyKind {α : Type} (P : Program) (k : TypeId) (ev : α → Value) (good : α → Prop) : Prop where
  inj : ∀ a b, ev a = ev b → a = b
  check : ∀ (w : World) (em : Bool) (a : α), good a → (Instr.checkKey em 10000 k (ev a)).run P w = .ok () w
  find : ∀ (w : World) (a : α), good a → ∀ es : List MapEntry, (∀ x ∈ es, ∃ b, good b ∧ x.key = ev b) →
    ((Instr.findKey k (ev a) es).run P w = .ok none w ∧ ∀ x ∈ es, x.key ≠ ev a) ∨ ∃ j x, (Instr.findKey k (ev a) es).run P w = .ok (some (j, x.val)) w ∧ es[j]? = some x ∧ x.key = ev a
  stays : ∀ (w : World) (a : α), good a → (Instr.keyThatStays (ev a) (ev a)).run P w = .ok (ev a) w

theorem KeyKind.of_keyed {α : Type} {P : Program} {k : TypeId} {ev : α → Value} {good : α → Prop} (K : Go.Maps.Keyed P k) (inj : ∀ a b, ev a = ev b → a = b) (hk : ∀ a, good a → ∃ l, keyOf P k (ev a) = some l) : KeyKind P k ev good where
  inj := inj
  check := fun w em a ha => by obtain ⟨l, hl⟩ := hk a ha; exact K.check w em hl
  find := fun w a ha es hes => by
    obtain ⟨l, hl⟩ := hk a ha
    exact K.find w hl es (fun x hx => by obtain ⟨b, hb, e⟩ := hes x hx; rw [e]; exact hk b hb)
  stays := fun w a ha => by obtain ⟨l, hl⟩ := hk a ha; exact K.stays w hl
theorem KeyKind.strings {P : Program} {k : TypeId} (hk : P.underlying k = some .string) : KeyKind P k Value.string (fun _ => True) where
  inj := fun a b e => by injection e
  check := fun w em a _ => MapKept.run_checkKey hk (d := .string) (k := .string a) trivial em 9999
  find := fun w a _ es hes => by
    have hks : ∀ y ∈ es, MapKept.IsKey .string y.key := fun y hy => by
      obtain ⟨b, _, e⟩ := hes y hy
      rw [e]; trivial
    rcases MapKept.findNow_spec (d := .string) (k := .string a) trivial es 0 hks with ⟨h1, h2⟩ | ⟨j, e0, h1, h2, h3⟩
    · exact Or.inl ⟨MapKept.run_findKey hk h1, h2⟩
    · exact Or.inr ⟨j, e0, by simpa using MapKept.run_findKey hk h1, h2, h3⟩
  stays := fun w a _ => MapKept.run_keyThatStays (d := .string) (k := .string a) trivial

section
variable {α β : Type} {P : Program} {k e t : TypeId} {ev : α → Value} {good : α → Prop} {fv : β → Value} {w w' : World} {b r : Nat} {ps todo : List (α × β)}

abbrev kv (x : MapEntry) : Value × Value := (x.key, x.val)
abbrev ekv (ev : α → Value) (fv : β → Value) (p : α × β) : Value × Value := (ev p.1, fv p.2)
/-- block b is a map with these pairs -/
def MapAt (ev : α → Value) (good : α → Prop) (fv : β → Value) (w : World) (b : Nat) (ps : List (α × β)) : Prop :=
  ∃ es clock, w.heap[b]? = some (.map es clock) ∧ Stamped es clock ∧ es.toList.map kv = ps.map (ekv ev fv) ∧ ∀ p ∈ ps, good p.1

theorem MapAt.lt (h : MapAt ev good fv w b ps) : b < w.heap.size := by
  obtain ⟨es, clock, hb, _⟩ := h
  exact (Array.getElem?_eq_some_iff.1 hb).1
theorem MapAt.same (h : MapAt ev good fv w b ps) (e : w'.heap[b]? = w.heap[b]?) : MapAt ev good fv w' b ps := by
  obtain ⟨es, clock, hb, hr⟩ := h
  exact ⟨es, clock, e.trans hb, hr⟩
theorem MapAt.nodup (K : KeyKind P k ev good) (h : MapAt ev good fv w b ps) : (ps.map (·.1)).Nodup := by
  obtain ⟨es, clock, hb, hs, hm, _⟩ := h
  have h1 : (es.toList.map (·.key)).Nodup := hs.2.2
  have h2 : es.toList.map (·.key) = (ps.map (·.1)).map ev := by
    have := congrArg (List.map (·.1)) hm
    simpa [List.map_map, Function.comp_def] using this
  rw [h2] at h1
  rw [List.Nodup, List.pairwise_map] at h1
  exact h1.imp (fun hne e => hne (by rw [e]))
theorem map_made (w : World) (T : Nat) : MapAt ev good fv (w.alloc (.map #[] 0)) w.heap.size ([] : List (α × β)) :=
  ⟨#[], 0, (MapKept.heap_alloc w _).1, stamped_empty 0, by simp, by simp⟩

theorem entry_pair {es : Array MapEntry} (hm : es.toList.map kv = ps.map (ekv ev fv)) {j : Nat} {x : MapEntry} (hx : es.toList[j]? = some x) : ∃ p, ps[j]? = some p ∧ x.key = ev p.1 ∧ x.val = fv p.2 := by
  have : (es.toList.map kv)[j]? = some (kv x) := by rw [List.getElem?_map, hx]; rfl
  rw [hm, List.getElem?_map] at this
  cases hp : ps[j]? with
  | none => rw [hp] at this; cases this
  | some p =>
    rw [hp] at this
    simp only [Option.map_some, Option.some.injEq, ekv, kv, Prod.mk.injEq] at this
    exact ⟨p, rfl, this.1.symm, this.2.symm⟩
theorem entry_keys {es : Array MapEntry} (hm : es.toList.map kv = ps.map (ekv ev fv)) (hg : ∀ p ∈ ps, good p.1) : ∀ x ∈ es.toList, ∃ c, good c ∧ x.key = ev c := by
  intro x hx
  obtain ⟨j, hj⟩ := List.getElem?_of_mem hx
  obtain ⟨p, hp, e1, _⟩ := entry_pair hm hj
  exact ⟨p.1, hg p (List.mem_of_getElem? hp), e1⟩

/-- a look-up -/
theorem MapAt.look (h : MapAt ev good fv w b ps) (K : KeyKind P k ev good) (ht : P.underlying t = some (.map k e)) {z : Value} (hz : (zeroValue e).run P w = .ok z w) {a : α} (ha : good a) :
    (a ∉ ps.map (·.1) ∧ ∀ c, (Instr.lookup t (.map (some b)) (ev a) c).run P w = .ok (if c then .tuple #[z, .bool false] else z) w) ∨
    ∃ v, (a, v) ∈ ps ∧ ∀ c, (Instr.lookup t (.map (some b)) (ev a) c).run P w = .ok (if c then .tuple #[fv v, .bool true] else fv v) w := by
  obtain ⟨es, clock, hb, hs, hm, hg⟩ := h
  rcases K.find w a ha es.toList (entry_keys hm hg) with ⟨h1, h2⟩ | ⟨j, x, h1, h2, h3⟩
  · refine .inl ⟨fun hin => ?_, fun c => by simp [Instr.lookup, run_underlying ht, MapKept.run_getObj_map hb, K.check w _ a ha, h1, hz, Result.andThen]⟩
    obtain ⟨p, hp, rfl⟩ := List.mem_map.1 hin
    obtain ⟨j, hj⟩ := List.getElem?_of_mem hp
    have : (es.toList.map kv)[j]? = some (ekv ev fv p) := by rw [hm, List.getElem?_map, hj]; rfl
    rw [List.getElem?_map] at this
    cases hx : es.toList[j]? with
    | none => rw [hx] at this; cases this
    | some x =>
      rw [hx] at this
      simp only [Option.map_some, Option.some.injEq, ekv, kv, Prod.mk.injEq] at this
      exact h2 x (List.mem_of_getElem? hx) this.1
  · obtain ⟨p, hp, e1, e2⟩ := entry_pair hm h2
    have : p.1 = a := K.inj _ _ (e1.symm.trans h3)
    subst this
    exact .inr ⟨p.2, List.mem_of_getElem? hp, fun c => by rw [← e2]; simp [Instr.lookup, run_underlying ht, MapKept.run_getObj_map hb, K.check w _ p.1 ha, h1, Result.andThen]⟩

theorem set_putA [DecidableEq α] {a : α} {v : β} : ∀ {ps : List (α × β)} {j : Nat} {p : α × β}, (ps.map (·.1)).Nodup → ps[j]? = some p → p.1 = a → ps.set j (a, v) = ps.map (fun q => if q.1 = a then (a, v) else q)
  | [], j, p, _, h, _ => by simp at h
  | q :: ps, 0, p, hn, h, e => by
    simp at h; subst h
    rw [List.map_cons, List.nodup_cons] at hn
    simp only [List.set_cons_zero, List.map_cons, e, if_true]
    congr 1
    have : ps.map (fun q => if q.1 = a then (a, v) else q) = ps.map id := List.map_congr_left fun x hx => by
      have : x.1 ≠ a := fun e' => hn.1 (List.mem_map.2 ⟨x, hx, by rw [e', e]⟩)
      simp [this]
    rw [this, List.map_id]
  | q :: ps, j + 1, p, hn, h, e => by
    rw [List.map_cons, List.nodup_cons] at hn
    have hq : q.1 ≠ a := fun e' => hn.1 (List.mem_map.2 ⟨p, List.mem_of_getElem? (by simpa using h), by rw [e', e]⟩)
    simp only [List.set_cons_succ, List.map_cons, hq, if_false]
    rw [set_putA hn.2 (by simpa using h) e]
/-- a store -/
theorem MapAt.put [DecidableEq α] (h : MapAt ev good fv w b ps) (K : KeyKind P k ev good) (ht : P.underlying t = some (.map k e)) {a : α} (ha : good a) (v : β) :
    ∃ o, (Instr.mapUpdate t (.map (some b)) (ev a) (fv v)).run P w = .ok () (setBlock w b o) ∧ MapAt ev good fv (setBlock w b o) b (putA ps a v) := by
  have hnd := h.nodup K
  obtain ⟨es, clock, hb, hs, hm, hg⟩ := h
  rcases K.find w a ha es.toList (entry_keys hm hg) with ⟨h1, h2⟩ | ⟨j, x, h1, h2, h3⟩
  · have hnot : a ∉ ps.map (·.1) := fun hin => by
      obtain ⟨p, hp, rfl⟩ := List.mem_map.1 hin
      have : ev p.1 ∈ es.toList.map (·.key) := by
        have e1 : es.toList.map (·.key) = (es.toList.map kv).map (·.1) := by simp [List.map_map, Function.comp_def]
        rw [e1, hm]
        exact List.mem_map.2 ⟨ekv ev fv p, List.mem_map.2 ⟨p, hp, rfl⟩, rfl⟩
      obtain ⟨x, hx, e1⟩ := List.mem_map.1 this
      exact h2 x hx e1
    refine ⟨.map (es.push ⟨ev a, fv v, clock⟩) (clock + 1), ?_, _, _, heap_setBlock_same hb _, stamped_push hs h2, ?_, ?_⟩
    · simp [Instr.mapUpdate, run_underlying ht, MapKept.run_getObj_map hb, K.check w false a ha, h1, MapKept.run_setObj_map _ hb, Result.andThen, setBlock]
    · simp [putA, hnot, hm]
    · intro p hp
      simp only [putA, if_neg hnot, List.mem_append, List.mem_singleton] at hp
      rcases hp with hp | rfl
      · exact hg p hp
      · exact ha
  · obtain ⟨p, hp, e1, e2⟩ := entry_pair hm h2
    have hpa : p.1 = a := K.inj _ _ (e1.symm.trans h3)
    have hj : es[j]? = some x := by simpa using h2
    have hkeyf : ∀ e', es[j]? = some e' → ({ e' with key := ev a, val := fv v } : MapEntry).key = e'.key := fun e' he' => by rw [hj] at he'; cases he'; exact h3.symm
    have hlist : (es.modify j (fun e' => { e' with key := ev a, val := fv v })).toList = es.toList.set j { x with key := ev a, val := fv v } := by rw [Array.toList_modify, ChangeMaps.modify_eq_set _ _ _ _ h2]
    have hin : a ∈ ps.map (·.1) := List.mem_map.2 ⟨p, List.mem_of_getElem? hp, hpa⟩
    refine ⟨.map (es.modify j (fun e' => { e' with key := ev a, val := fv v })) clock, ?_, _, _, heap_setBlock_same hb _, stamped_modify hs _ _ (fun _ _ => rfl) (fun e' _ he' => hkeyf e' he'), ?_, ?_⟩
    · simp [Instr.mapUpdate, run_underlying ht, MapKept.run_getObj_map hb, K.check w false a ha, h1, hj, h3, K.stays w a ha, MapKept.run_setObj_map _ hb, Result.andThen, setBlock]
    · rw [hlist, List.map_set, hm, putA, if_pos hin, ← set_putA hnd hp hpa, List.map_set]
    · intro q hq
      rcases (putA_mem a v q.1 q.2).1 hq with ⟨e1, _⟩ | ⟨_, hq⟩
      · rw [e1]; exact ha
      · exact hg _ hq

theorem erase_dropA [DecidableEq α] {a : α} : ∀ {ps : List (α × β)} {j : Nat} {p : α × β}, (ps.map (·.1)).Nodup → ps[j]? = some p → p.1 = a → ps.eraseIdx j = dropA ps a
  | [], j, p, _, h, _ => by simp at h
  | q :: ps, 0, p, hn, h, e => by
    simp at h; subst h
    rw [List.map_cons, List.nodup_cons] at hn
    simp only [List.eraseIdx_zero, List.tail_cons, dropA, List.filter_cons, e, decide_true, Bool.not_true]
    refine (List.filter_eq_self.2 fun x hx => ?_).symm
    have : x.1 ≠ a := fun e' => hn.1 (List.mem_map.2 ⟨x, hx, by rw [e', e]⟩)
    simp [this]
  | q :: ps, j + 1, p, hn, h, e => by
    rw [List.map_cons, List.nodup_cons] at hn
    have hq : q.1 ≠ a := fun e' => hn.1 (List.mem_map.2 ⟨p, List.mem_of_getElem? (by simpa using h), by rw [e', e]⟩)
    rw [List.eraseIdx_cons_succ, erase_dropA hn.2 (by simpa using h) e]
    simp [dropA, hq]
theorem dropA_not [DecidableEq α] {a : α} {ps : List (α × β)} (h : a ∉ ps.map (·.1)) : dropA ps a = ps :=
  List.filter_eq_self.2 fun x hx => by
    have : x.1 ≠ a := fun e => h (List.mem_map.2 ⟨x, hx, e⟩)
    simp [this]
/-- delete -/
theorem MapAt.drop [DecidableEq α] (h : MapAt ev good fv w b ps) (K : KeyKind P k ev good) (ht : P.underlying t = some (.map k e)) {a : α} (ha : good a) (ty : TypeId) :
    ∃ o, (Builtin.delete_ #[t, k] ty #[.map (some b), ev a]).run P w = .ok (.tuple #[]) (setBlock w b o) ∧ MapAt ev good fv (setBlock w b o) b (dropA ps a) := by
  have hnd := h.nodup K
  obtain ⟨es, clock, hb, hs, hm, hg⟩ := h
  rcases K.find w a ha es.toList (entry_keys hm hg) with ⟨h1, h2⟩ | ⟨j, x, h1, h2, h3⟩
  · have hnot : a ∉ ps.map (·.1) := fun hin => by
      obtain ⟨p, hp, rfl⟩ := List.mem_map.1 hin
      have : ev p.1 ∈ es.toList.map (·.key) := by
        have e1 : es.toList.map (·.key) = (es.toList.map kv).map (·.1) := by simp [List.map_map, Function.comp_def]
        rw [e1, hm]
        exact List.mem_map.2 ⟨ekv ev fv p, List.mem_map.2 ⟨p, hp, rfl⟩, rfl⟩
      obtain ⟨x, hx, e1⟩ := List.mem_map.1 this
      exact h2 x hx e1
    refine ⟨.map es clock, ?_, _, _, heap_setBlock_same hb _, hs, ?_, ?_⟩
    · simp [Builtin.delete_, run_underlying ht, MapKept.run_getObj_map hb, K.check w _ a ha, h1, MapKept.run_setObj_map _ hb, Result.andThen, setBlock]
    · rw [dropA_not hnot, hm]
    · rw [dropA_not hnot]; exact hg
  · obtain ⟨p, hp, e1, e2⟩ := entry_pair hm h2
    have hpa : p.1 = a := K.inj _ _ (e1.symm.trans h3)
    have hjl : j < es.toList.length := (List.getElem?_eq_some_iff.1 h2).1
    have hjs : j < es.size := by simpa using hjl
    have hsub : (es.eraseIdxIfInBounds j).toList = es.toList.eraseIdx j := by
      unfold Array.eraseIdxIfInBounds
      rw [dif_pos hjs]
      simp
    refine ⟨.map (es.eraseIdxIfInBounds j) clock, ?_, _, _, heap_setBlock_same hb _, stamped_erase hs j, ?_, ?_⟩
    · simp [Builtin.delete_, run_underlying ht, MapKept.run_getObj_map hb, K.check w _ a ha, h1, MapKept.run_setObj_map _ hb, Result.andThen, setBlock]
    · rw [hsub, ChangeMaps.map_eraseIdx, hm, ← ChangeMaps.map_eraseIdx, erase_dropA hnd hp hpa]
    · intro q hq
      exact hg q ((dropA_mem a q.1 q.2).1 hq).2

theorem MapAt.len (h : MapAt ev good fv w b ps) (ht : P.underlying t = some (.map k e)) (ty : TypeId) : (Builtin.len_ #[t] ty #[.map (some b)]).run P w = .ok (goInt ps.length) w := by
  obtain ⟨es, clock, hb, hs, hm, hg⟩ := h
  have : es.size = ps.length := by
    have := congrArg List.length hm
    simpa using this
  simp [Builtin.len_, run_underlying ht, MapKept.run_getObj_map hb, Result.andThen, this]

/-- a loop over the map: what is still to come -/
def Rng (ev : α → Value) (good : α → Prop) (fv : β → Value) (w : World) (b r : Nat) (ps todo : List (α × β)) : Prop :=
  ∃ es clock since seen c0, w.heap[b]? = some (.map es clock) ∧ Stamped es clock ∧ es.toList.map kv = ps.map (ekv ev fv) ∧ (∀ p ∈ ps, good p.1) ∧
    w.heap[r]? = some (.mapIter (some b) since seen c0) ∧ (∀ x ∈ es.toList, x.born < since) ∧ since ≤ c0 ∧ since ≤ clock ∧ (leftOf es seen).toList.map kv = todo.map (ekv ev fv) ∧ todo.Sublist ps
theorem Rng.map (h : Rng ev good fv w b r ps todo) : MapAt ev good fv w b ps := by
  obtain ⟨es, clock, _, _, _, hb, hs, hm, hg, _⟩ := h
  exact ⟨es, clock, hb, hs, hm, hg⟩
theorem Rng.lt (h : Rng ev good fv w b r ps todo) : r < w.heap.size := by
  obtain ⟨es, clock, _, _, _, _, _, _, _, hr, _⟩ := h
  exact (Array.getElem?_eq_some_iff.1 hr).1
theorem Rng.same (h : Rng ev good fv w b r ps todo) (e1 : w'.heap[b]? = w.heap[b]?) (e2 : w'.heap[r]? = w.heap[r]?) : Rng ev good fv w' b r ps todo := by
  obtain ⟨es, clock, since, seen, c0, hb, h1, h2, h3, hr, h4⟩ := h
  exact ⟨es, clock, since, seen, c0, e1.trans hb, h1, h2, h3, e2.trans hr, h4⟩
theorem MapAt.range (h : MapAt ev good fv w b ps) (ht : P.underlying t = some (.map k e)) :
    ∃ o, (Instr.range t (.map (some b))).run P w = .ok (.pointer (some ⟨w.heap.size, 0, none⟩)) (w.alloc o) ∧ Rng ev good fv (w.alloc o) b w.heap.size ps ps := by
  have hlt := h.lt
  obtain ⟨es, clock, hb, hs, hm, hg⟩ := h
  exact ⟨_, run_range_map w t k e b es clock ht hb, es, clock, clock, #[], clock, ((MapKept.heap_alloc w _).2 b hlt).trans hb, hs, hm, hg, (MapKept.heap_alloc w _).1, hs.1, Nat.le_refl _, Nat.le_refl _, by rw [show leftOf es #[] = es from Array.filter_eq_self.2 (fun x _ => by simp)]; exact hm, List.Sublist.refl _⟩
/-- the step: nothing is left, or one of what is left -/
theorem Rng.next (h : Rng ev good fv w b r ps todo) (ty : TypeId) :
    (todo = [] ∧ (Instr.next (.pointer (some ⟨r, 0, none⟩)) false ty).run P w = .ok (.tuple #[.bool false]) w) ∨
    ∃ p todo' w1 o, todo.Perm (p :: todo') ∧ p ∈ ps ∧ good p.1 ∧ (w1 = w ∨ w1 = w.drew) ∧ (Instr.next (.pointer (some ⟨r, 0, none⟩)) false ty).run P w = .ok (.tuple #[.bool true, ev p.1, fv p.2]) (setBlock w1 r o) ∧
      Rng ev good fv (setBlock w1 r o) b r ps todo' ∧ (Instr.entry (.pointer (some ⟨r, 0, none⟩))).run P (setBlock w1 r o) = .ok (.tuple #[ev p.1, fv p.2]) (setBlock w1 r o) ∧ r ≠ b := by
  obtain ⟨es, clock, since, seen, c0, hb, hs, hm, hg, hr, hold, hsc, hsk, hl, hsub⟩ := h
  have hrb : r ≠ b := by intro e; rw [e, hb] at hr; cases hr
  rcases run_next_at (P := P) w ty r b since c0 seen es clock hr hb hold hsc with ⟨h0, hrun⟩ | ⟨x, hx, w1, hal, hrun⟩
  · left
    refine ⟨?_, hrun⟩
    have : (leftOf es seen).toList = [] := by rw [Array.eq_empty_of_size_eq_zero h0]
    rw [this] at hl
    simpa using hl.symm
  · right
    obtain ⟨hxm, hxs⟩ := mem_left hx
    obtain ⟨L1, L2, hL⟩ := List.append_of_mem hx
    have hl' := hl
    rw [hL, List.map_append, List.map_cons] at hl'
    obtain ⟨t1, t2, rfl, e1, e2⟩ := List.map_eq_append_iff.1 hl'.symm
    obtain ⟨p, t3, rfl, e3, e4⟩ := List.map_eq_cons_iff.1 e2
    simp only [ekv, kv, Prod.mk.injEq] at e3
    have hr1 : w1.heap[r]? = some (.mapIter (some b) since seen c0) := by rcases hal with rfl | rfl <;> exact hr
    have hb1 : w1.heap[b]? = some (.map es clock) := by rcases hal with rfl | rfl <;> exact hb
    have hset := MapKept.heap_set (o' := .mapIter (some b) since (seen.push x.born) clock) hr1
    have hnb := (stamped_iff es clock).1 hs
    have hleft : (leftOf es (seen.push x.born)).toList = L1 ++ L2 := by
      have e5 : (leftOf es (seen.push x.born)).toList = (leftOf es seen).toList.filter (fun y => !(y.born == x.born)) := by
        simp only [leftOf, Array.toList_filter, List.filter_filter]
        refine List.filter_congr fun y _ => ?_
        simp [Bool.and_comm]; rfl
      rw [e5, hL, List.filter_append, List.filter_cons]
      have hnd : ((leftOf es seen).toList.map (·.born)).Nodup := by
        refine hnb.2.1.sublist (List.Sublist.map _ ?_)
        simp only [leftOf, Array.toList_filter]; exact List.filter_sublist
      rw [hL, List.map_append, List.map_cons, List.nodup_append, List.nodup_cons] at hnd
      have hf1 : L1.filter (fun y => !(y.born == x.born)) = L1 := List.filter_eq_self.2 fun y hy => by
        have := hnd.2.2 y.born (List.mem_map.2 ⟨y, hy, rfl⟩) x.born (by simp)
        simpa using this
      have hf2 : L2.filter (fun y => !(y.born == x.born)) = L2 := List.filter_eq_self.2 fun y hy => by
        have : y.born ≠ x.born := fun e => hnd.2.1.1 (e ▸ List.mem_map.2 ⟨y, hy, rfl⟩)
        simpa using this
      rw [hf1, hf2]; simp
    refine ⟨p, t1 ++ t3, w1, .mapIter (some b) since (seen.push x.born) clock, List.perm_middle, hsub.subset (by simp), hg p (hsub.subset (by simp)), hal, ?_, ?_, ?_, hrb⟩
    · rw [hrun, e3.1, e3.2]
    · refine ⟨es, clock, since, seen.push x.born, clock, ?_, hs, hm, hg, hset.1, hold, hsk, hsk, ?_, ?_⟩
      · exact (hset.2 b (Ne.symm hrb)).trans hb1
      · rw [hleft, List.map_append, List.map_append, e1, e4]
      · exact List.Sublist.trans (List.Sublist.append (List.Sublist.refl _) (List.sublist_cons_self _ _)) hsub
    · rw [e3.1, e3.2]
      exact run_entry_at _ r b since seen es clock x hset.1 ((hset.2 b (Ne.symm hrb)).trans hb1) hxm hnb.2.1

end
end Go.Proofs.Ytiheilkjlapoiaa.Lk
