import Derived.Test.YtaknkodjganacaaDoorVWith
namespace Go.Proofs.YtaknkodjganacaaDoor.Vs
open Go.RowKit Go.Sort
set_option linter.unusedVariables false

/-- of an object's cells only those from o on, k of them, may change -/
def Part (p o k : Nat) (w w' : World) : Prop := ∀ cs t z, w.heap[p]? = some (.cells cs t z) → ∃ cs', w'.heap[p]? = some (.cells cs' t z) ∧ cs'.size = cs.size ∧ ∀ j, j < o ∨ o + k ≤ j → cs'[j]? = cs[j]?
theorem Part.same {p o k : Nat} {w w' : World} (h : w'.heap[p]? = w.heap[p]?) : Part p o k w w' := fun cs t z hc => ⟨cs, h.trans hc, rfl, fun _ _ => rfl⟩
theorem Part.refl (p o k : Nat) (w : World) : Part p o k w w := Part.same rfl
theorem Part.trans {p o k : Nat} {a b c : World} (h : Part p o k a b) (h' : Part p o k b c) : Part p o k a c := fun cs t z hc => by
  obtain ⟨cs1, h1, s1, e1⟩ := h cs t z hc
  obtain ⟨cs2, h2, s2, e2⟩ := h' cs1 t z h1
  exact ⟨cs2, h2, s2.trans s1, fun j hj => (e2 j hj).trans (e1 j hj)⟩
theorem Part.wide {p o k o' k' : Nat} {w w' : World} (h : Part p o k w w') (h1 : o' ≤ o) (h2 : o + k ≤ o' + k') : Part p o' k' w w' := fun cs t z hc => by
  obtain ⟨cs1, h3, s1, e1⟩ := h cs t z hc
  exact ⟨cs1, h3, s1, fun j hj => e1 j (by omega)⟩
theorem Part.below {p o k : Nat} {w w' : World} (h : Below w.heap.size w w') : Part p o k w w' := fun cs t z hc => ⟨cs, (h.block p (Array.getElem?_eq_some_iff.1 hc).1).trans hc, rfl, fun _ _ => rfl⟩
theorem Part.onl {F : Nat → Prop} {p o k : Nat} {w w' : World} (h : Onl F w w') (hp : ¬ F p) : Part p o k w w' := fun cs t z hc => ⟨cs, (h.block p (Array.getElem?_eq_some_iff.1 hc).1 hp).trans hc, rfl, fun _ _ => rfl⟩
theorem heap_put {w : World} {p o : Nat} {cs : Array Value} {t : TypeId} {z : Nat × Nat} (v : Value) (h : w.heap[p]? = some (.cells cs t z)) : (w.setCell ⟨p, o, none⟩ v).heap[p]? = some (.cells (cs.setIfInBounds o v) t z) := by
  obtain ⟨hlt, hk⟩ := Array.getElem?_eq_some_iff.1 h
  show (w.heap.modify p _)[p]? = _
  rw [Array.getElem?_eq_getElem (by rw [Array.size_modify]; exact hlt), Array.getElem_modify_self, hk]
  rfl
theorem Part.set (w : World) (p o : Nat) (v : Value) : Part p o 1 w (w.setCell ⟨p, o, none⟩ v) := fun cs t z hc => ⟨_, heap_put v hc, by simp, fun j hj => by rw [Array.getElem?_setIfInBounds_ne (by omega)]⟩
/-- the index at p, o holds the entries l -/
def Xi (w : World) (p o : Nat) (l : List En) : Prop := ∃ (T : Tr) (cs : Array Value) (t : TypeId), w.heap[p]? = some (.cells cs t (0, 0)) ∧ ¬ IxT t ∧ cs[o]? = some (.pointer T.pt) ∧ TrIn (fun _ => True) w T ∧ T.list = l ∧ Rising l
theorem Xi.rising {w : World} {p o : Nat} {l : List En} (h : Xi w p o l) : Rising l := by obtain ⟨T, cs, t, h⟩ := h; exact h.2.2.2.2.2
theorem Xi.lt {w : World} {p o : Nat} {l : List En} (h : Xi w p o l) : p < w.heap.size := by obtain ⟨T, cs, t, hb, _⟩ := h; exact (Array.getElem?_eq_some_iff.1 hb).1
theorem Xi.keepC {w w' : World} {p o : Nat} {l : List En} (h : Xi w p o l) (k : Kp w w') (hp : ∀ cs t, w.heap[p]? = some (.cells cs t (0, 0)) → ∃ cs', w'.heap[p]? = some (.cells cs' t (0, 0)) ∧ cs'[o]? = cs[o]?) : Xi w' p o l := by
  obtain ⟨T, cs, t, hb, hi, hc, ht, hl, hr⟩ := h
  obtain ⟨cs', hb', e⟩ := hp cs t hb
  exact ⟨T, cs', t, hb', hi, e.trans hc, ht.kp k, hl, hr⟩
theorem Xi.keep {w w' : World} {p o : Nat} {l : List En} (h : Xi w p o l) (k : Kp w w') (hp : w'.heap[p]? = w.heap[p]?) : Xi w' p o l := h.keepC k fun cs t hc => ⟨cs, hp.trans hc, rfl⟩
theorem Xi.later {w w' : World} {p o : Nat} {l : List En} (h : Xi w p o l) (hb : Below w.heap.size w w') : Xi w' p o l := h.keep (Kp.of_below hb) (hb.block p h.lt)
/-- calls that change the index at p change no other block -/
theorem Kp.of_index {w w' : World} {p : Nat} {cs : Array Value} {t : TypeId} {z : Nat × Nat} (h : Onl (fun b => b = p) w w') (hb : w.heap[p]? = some (.cells cs t z)) (hi : ¬ IxT t) : Kp w w' :=
  Kp.of_onl h fun b cs' t' z' hf ho ht => by
    subst hf
    rw [hb] at ho
    cases ho
    exact hi ht
theorem Xi.kp {w w' : World} {p o : Nat} {l : List En} (h : Xi w p o l) (ho : Onl (fun b => b = p) w w') : Kp w w' := by obtain ⟨T, cs, t, hb, hi, _⟩ := h; exact Kp.of_index ho hb hi
theorem Xi.other {w w' : World} {p o q o' : Nat} {l m : List En} (h : Xi w p o l) (k : Xi w q o' m) (ho : Onl (fun b => b = q) w w') (hne : p ≠ q) : Xi w' p o l := h.keep (k.kp ho) (ho.block p h.lt hne)
theorem Xi.put {w : World} {p o : Nat} {cs : Array Value} {t : TypeId} {T T' : Tr} {l : List En} (hb : w.heap[p]? = some (.cells cs t (0, 0))) (hi : ¬ IxT t) (hc : cs[o]? = some (.pointer T.pt)) (ht : TrIn (fun _ => True) w T') (hl : T'.list = l) (hr : Rising l) : Xi (w.setCell ⟨p, o, none⟩ (.pointer T'.pt)) p o l := by
  refine ⟨T', _, t, heap_put _ hb, hi, ?_, ht.kp (Kp.of_index (Onl.set (F := fun b => b = p) (Onl.refl _ _) rfl _ _) hb hi), hl, hr⟩
  have hlt := (Array.getElem?_eq_some_iff.1 hc).1
  simp [hlt]

theorem setX_length {l : List En} (h : Rising l) (k : ByteArray) (v : Hd) : (setX l k v).length = l.length + (if (getX l k).isSome then 0 else 1) := by
  induction l with
  | nil => rfl
  | cons x l ih =>
    have h' := List.pairwise_cons.1 h
    unfold setX
    split
    · rename_i hlt
      have : getX (x :: l) k = getX l k := by unfold getX; rw [List.find?_cons_of_neg (by simpa using lt_ne hlt)]
      rw [this, List.length_cons, ih h'.2, List.length_cons]; omega
    · split
      · rename_i heq
        have : getX (x :: l) k = some x.2 := by unfold getX; rw [List.find?_cons_of_pos (by simpa using heq)]; rfl
        rw [this]; simp
      · rename_i hnl hne
        have : getX (x :: l) k = none := getX_none.2 fun u hu => by
          rcases List.mem_cons.1 hu with e | e
          · exact hne (by rw [← e])
          · have h3 := h'.1 _ e
            exact hnl h3
        rw [this]; simp
theorem setX_more {l : List En} (h : Rising l) (k : ByteArray) (v : Hd) : decide (l.length < (setX l k v).length) = (getX l k).isNone := by
  rw [setX_length h]
  cases getX l k <;> simp

theorem len_is {w : World} {p o : Nat} {l : List En} (h : Xi w p o l) :
    Calls Tryd.prog 56 #[.pointer (some ⟨p, o, none⟩)] w fun e w' => e = .returned (.int .i64 (l.length : Int)) ∧ w' = w := by
  obtain ⟨T, cs, t, hb, hix, hcs, ht, rfl, hr⟩ := h
  have c0 : w.cell? ⟨p, o, none⟩ = some (.pointer T.pt) := cell_of_obj hb hcs
  have hc := hid (count_is ht)
  rw [Tr.len]
  obtain ⟨m, hm⟩ : ∃ m, m = T.n := ⟨_, rfl⟩
  rw [← hm] at hc ⊢
  clear ht hr hb hix hcs hm
  go_enter Tryd.func56, Tryd.ntmps56
  go_wp2_with (go_at_call 65; refine hc.out.mono ?_; rintro e w' ⟨rfl, rfl⟩)
  go_ret
  exact ⟨rfl, rfl⟩
/-- what Get answers -/
def hdv (o : Option Hd) : Value := o.elim (.slice none 0 0) fun v => .slice (some ⟨v.g, 0, none⟩) v.n v.cap
def gotX (o : Option Hd) : Value := .tuple #[hdv o, .bool o.isSome]
theorem get_is {w : World} {p o : Nat} {l : List En} (h : Xi w p o l) (key : ByteArray) :
    Calls Tryd.prog 31 #[.pointer (some ⟨p, o, none⟩), .string key] w fun e w' => e = .returned (gotX (getX l key)) ∧ w' = w := by
  obtain ⟨T, cs, t, hb, hix, hcs, ht, rfl, hr⟩ := h
  have c0 : w.cell? ⟨p, o, none⟩ = some (.pointer T.pt) := cell_of_obj hb hcs
  have hf := hid (find_is key ht)
  have hv := Tr.find_is T key hr
  have htf := ht.find key
  rw [← hv]
  cases hF : T.find key with
  | nil =>
    rw [hF] at hf
    simp only [Tr.pt] at hf
    clear ht hr hb hix hcs hF htf hv
    go_enter Tryd.func31, Tryd.ntmps31
    go_wp2_with (go_at_call 46; refine hf.out.mono ?_; rintro e w' ⟨rfl, rfl⟩)
    go_ret2
    exact ⟨rfl, rfl⟩
  | node b k v tl tr =>
    rw [hF] at hf htf
    simp only [Tr.pt] at hf
    have n1 := htf.2.2.1
    clear ht hr hb hix hcs hF htf hv
    go_enter Tryd.func31, Tryd.ntmps31
    go_wp2_with (go_at_call 46; refine hf.out.mono ?_; rintro e w' ⟨rfl, rfl⟩)
    go_ret2
    exact ⟨rfl, rfl⟩
theorem set_is {w : World} {p o : Nat} {l : List En} (h : Xi w p o l) (key : ByteArray) (v : Hd) (hn : l.length + 1 ≤ 1152921504606846976) :
    Calls Tryd.prog 47 #[.pointer (some ⟨p, o, none⟩), .string key, .slice (some ⟨v.g, 0, none⟩) v.n v.cap] w fun e w' => e = .returned (.bool (getX l key).isNone) ∧ Xi w' p o (setX l key v) ∧ Onl (fun b => b = p) w w' ∧ Part p o 1 w w' := by
  have hl0 := hid (len_is h)
  obtain ⟨T, cs, t, hb, hix, hcs, ht, rfl, hr⟩ := h
  have c0 : w.cell? ⟨p, o, none⟩ = some (.pointer T.pt) := cell_of_obj hb hcs
  have f0 : w.frozen? ⟨p, o, none⟩ = false := by simp [World.frozen?, hb]
  have HW : Hid (Calls Tryd.prog 57 #[.pointer T.pt, .string key, .slice (some ⟨v.g, 0, none⟩) v.n v.cap] w fun e w' => ∃ T' : Tr, e = .returned (.pointer T'.pt) ∧ w'.cell? ⟨p, o, none⟩ = some (.pointer T.pt) ∧ w'.frozen? ⟨p, o, none⟩ = false ∧ Hid (Xi (w'.setCell ⟨p, o, none⟩ (.pointer T'.pt)) p o (setX T.list key v)) ∧ Hid (Below w.heap.size w w') ∧
      Calls Tryd.prog 56 #[.pointer (some ⟨p, o, none⟩)] (w'.setCell ⟨p, o, none⟩ (.pointer T'.pt)) fun e w2 => e = .returned (.int .i64 ((setX T.list key v).length : Int)) ∧ w2 = w'.setCell ⟨p, o, none⟩ (.pointer T'.pt)) :=
    (with_is key v T (fun _ => True) w (fun _ _ => trivial) ht hr (by rw [← Tr.len]; exact hn)).mono fun e w' ⟨T', he, t', hl', hb'⟩ => by
      have hbx : w'.heap[p]? = some (.cells cs t (0, 0)) := (hb'.block p (Array.getElem?_eq_some_iff.1 hb).1).trans hb
      have hx : Xi (w'.setCell ⟨p, o, none⟩ (.pointer T'.pt)) p o (setX T.list key v) := Xi.put hbx hix hcs t' hl' (setX_rising hr _ _)
      exact ⟨T', he, cell_of_obj hbx hcs, by simp [World.frozen?, hbx], hx, hb', len_is hx⟩
  have hm := setX_more hr key v
  obtain ⟨n1, h1⟩ : ∃ n, n = T.list.length := ⟨_, rfl⟩
  obtain ⟨n2, h2⟩ : ∃ n, n = (setX T.list key v).length := ⟨_, rfl⟩
  rw [← h1] at hl0 hm
  rw [← h2] at hm HW
  clear h1 h2 hn ht hr hb hix hcs
  go_enter Tryd.func47, Tryd.ntmps47
  go_wp2_with (first
    | (go_at_call 56; refine hl0.out.mono ?_; clear hl0; rintro e w1 ⟨rfl, rfl⟩)
    | (go_at_call 57; refine HW.out.mono ?_; rintro e w2 ⟨T', rfl, d0, g0, hx, hb2, hl2⟩)
    | (go_at_call 56; refine hl2.mono ?_; rintro e w3 ⟨rfl, rfl⟩))
  go_ret
  exact ⟨by rw [← hm]; rfl, hx.out, Onl.set (F := fun b => b = p) (Onl.of_below hb2.out) rfl _ _, (Part.below hb2.out).trans (Part.set _ _ _ _)⟩
theorem del_is {w : World} {p o : Nat} {l : List En} (h : Xi w p o l) (key : ByteArray) (hn : l.length + 1 ≤ 1152921504606846976) :
    Calls Tryd.prog 52 #[.pointer (some ⟨p, o, none⟩), .string key] w fun e w' => e = .returned (.bool (getX l key).isSome) ∧ Xi w' p o (delX l key) ∧ Onl (fun b => b = p) w w' ∧ Part p o 1 w w' := by
  have hX := hid h
  obtain ⟨T, cs, t, hb, hix, hcs, ht, rfl, hr⟩ := h
  have c0 : w.cell? ⟨p, o, none⟩ = some (.pointer T.pt) := cell_of_obj hb hcs
  have f0 : w.frozen? ⟨p, o, none⟩ = false := by simp [World.frozen?, hb]
  have hf := hid (find_is key ht)
  have hv := Tr.find_is T key hr
  cases hF : T.find key with
  | nil =>
    rw [hF] at hf hv
    simp only [Tr.pt] at hf
    have hg : getX T.list key = none := hv.symm
    have hd : delX T.list key = T.list := delX_none fun e he e' => getX_none.1 hg e.2 (by rw [← e']; exact he)
    rw [hg, hd]
    clear ht hr hb hix hcs hF hv hd hg
    go_enter Tryd.func52, Tryd.ntmps52
    go_wp2_with (go_at_call 46; refine hf.out.mono ?_; rintro e w' ⟨rfl, rfl⟩)
    go_ret
    exact ⟨rfl, hX.out, Onl.refl _ _, Part.refl _ _ _ _⟩
  | node b k v tl tr =>
    rw [hF] at hf hv
    simp only [Tr.pt] at hf
    have hg : getX T.list key = some v := hv.symm
    have HW : Hid (Calls Tryd.prog 63 #[.pointer T.pt, .string key] w fun e w' => ∃ T' : Tr, e = .returned (.pointer T'.pt) ∧ w'.cell? ⟨p, o, none⟩ = some (.pointer T.pt) ∧ w'.frozen? ⟨p, o, none⟩ = false ∧ Hid (Xi (w'.setCell ⟨p, o, none⟩ (.pointer T'.pt)) p o (delX T.list key)) ∧ Hid (Below w.heap.size w w')) :=
      (without_is T key (fun _ => True) w (fun _ _ => trivial) ht hr (by rw [← Tr.len]; exact hn) (by rw [hg]; rfl)).mono fun e w' ⟨T', he, t', hl', hb'⟩ => by
        have hbx : w'.heap[p]? = some (.cells cs t (0, 0)) := (hb'.block p (Array.getElem?_eq_some_iff.1 hb).1).trans hb
        have hx : Xi (w'.setCell ⟨p, o, none⟩ (.pointer T'.pt)) p o (delX T.list key) := Xi.put hbx hix hcs t' hl' (delX_rising hr _)
        exact ⟨T', he, cell_of_obj hbx hcs, by simp [World.frozen?, hbx], hx, hb'⟩
    rw [hg]
    clear ht hr hb hix hcs hF hv hg hX
    go_enter Tryd.func52, Tryd.ntmps52
    go_wp2_with (first
      | (go_at_call 46; refine hf.out.mono ?_; rintro e w' ⟨rfl, rfl⟩)
      | (go_at_call 63; refine HW.out.mono ?_; rintro e w2 ⟨T', rfl, d0, g0, hx, hb2⟩))
    go_ret
    exact ⟨rfl, hx.out, Onl.set (F := fun b => b = p) (Onl.of_below hb2.out) rfl _ _, (Part.below hb2.out).trans (Part.set _ _ _ _)⟩

end Go.Proofs.YtaknkodjganacaaDoor.Vs
