import Derived.Test.YtmlacdfdpdkdaaaDoorDOnl
import Derived.Test.YtmlacdfdpdkdaaaDoorVWith
import Derived.Test.YtmlacdfdpdkdaaaDoorVUpB
/- Some cells of an object may change. -/
namespace Go.Proofs.YtmlacdfdpdkdaaaDoor
open Go.RowKit
set_option linter.unusedVariables false

/-- of an object's cells only those from o on, k of them, may change -/
def Part (p o k : Nat) (w w' : World) : Prop := ∀ cs t z, w.heap[p]? = some (.cells cs t z) → ∃ cs', w'.heap[p]? = some (.cells cs' t z) ∧ cs'.size = cs.size ∧ ∀ j, j < o ∨ o + k ≤ j → cs'[j]? = cs[j]?
theorem Part.same {p o k : Nat} {w w' : World} (h : w'.heap[p]? = w.heap[p]?) : Part p o k w w' := fun cs t z hc => ⟨cs, h.trans hc, rfl, fun _ _ => rfl⟩
theorem Part.refl (p o k : Nat) (w : World) : Part p o k w w := Part.same rfl
theorem Part.trans {p o k : Nat} {a b c : World} (h : Part p o k a b) (h' : Part p o k b c) : Part p o k a c := fun cs t z hc => by
  obtain ⟨cs1, h1, s1, e1⟩ := h cs t z hc
  obtain ⟨cs2, h2, s2, e2⟩ := h' cs1 t z h1
  exact ⟨cs2, h2, s2.trans s1, fun j hj => (e2 j hj).trans (e1 j hj)⟩
theorem Part.wide {p o k o' k' : Nat} {w w' : World} (h : Part p o k w w') (h1 : o' ≤ o) (h2 : o + k ≤ o' + k') : Part p o' k' w w' := fun cs t z hc => by
  obtain ⟨cs1, h3, s1, e1⟩ := h cs t z hc
  exact ⟨cs1, h3, s1, fun j hj => e1 j (by omega)⟩
theorem Part.below {p o k : Nat} {w w' : World} (h : Below w.heap.size w w') : Part p o k w w' := fun cs t z hc => ⟨cs, (h.block p (Array.getElem?_eq_some_iff.1 hc).1).trans hc, rfl, fun _ _ => rfl⟩
theorem Part.onl {F : Nat → Prop} {p o k : Nat} {w w' : World} (h : Onl F w w') (hp : ¬ F p) : Part p o k w w' := fun cs t z hc => ⟨cs, (h.block p (Array.getElem?_eq_some_iff.1 hc).1 hp).trans hc, rfl, fun _ _ => rfl⟩
theorem heap_put {w : World} {p o : Nat} {cs : Array Value} {t : TypeId} {z : Nat × Nat} (v : Value) (h : w.heap[p]? = some (.cells cs t z)) : (w.setCell ⟨p, o, none⟩ v).heap[p]? = some (.cells (cs.setIfInBounds o v) t z) := by
  obtain ⟨hlt, hk⟩ := Array.getElem?_eq_some_iff.1 h
  show (w.heap.modify p _)[p]? = _
  rw [Array.getElem?_eq_getElem (by rw [Array.size_modify]; exact hlt), Array.getElem_modify_self, hk]
  rfl
theorem Part.set (w : World) (p o : Nat) (v : Value) : Part p o 1 w (w.setCell ⟨p, o, none⟩ v) := fun cs t z hc => ⟨_, heap_put v hc, by simp, fun j hj => by rw [Array.getElem?_setIfInBounds_ne (by omega)]⟩
theorem Part.al {p o k : Nat} {w w' : World} (h : Part p o k w w') (x : Obj) : Part p o k w (w'.alloc x) := h.trans (Part.below (Below.al (Below.refl _ _) x))
end Go.Proofs.YtmlacdfdpdkdaaaDoor
namespace Go.Proofs.YtmlacdfdpdkdaaaDoor.Vs
open Go.RowKit Go.Sort
set_option linter.unusedVariables false

/-- the index at p, o holds the entries l -/
def Xi (w : World) (p o : Nat) (l : List En) : Prop := ∃ (T : Tr) (cs : Array Value) (t : TypeId), w.heap[p]? = some (.cells cs t (0, 0)) ∧ ¬ IxT t ∧ cs[o]? = some (.pointer T.pt) ∧ TrIn (fun _ => True) w T ∧ T.list = l ∧ Rising l
theorem Xi.rising {w : World} {p o : Nat} {l : List En} (h : Xi w p o l) : Rising l := by obtain ⟨T, cs, t, h⟩ := h; exact h.2.2.2.2.2
theorem Xi.lt {w : World} {p o : Nat} {l : List En} (h : Xi w p o l) : p < w.heap.size := by obtain ⟨T, cs, t, hb, _⟩ := h; exact (Array.getElem?_eq_some_iff.1 hb).1
theorem Xi.keepC {w w' : World} {p o : Nat} {l : List En} (h : Xi w p o l) (k : Kp w w') (hp : ∀ cs t, w.heap[p]? = some (.cells cs t (0, 0)) → ∃ cs', w'.heap[p]? = some (.cells cs' t (0, 0)) ∧ cs'[o]? = cs[o]?) : Xi w' p o l := by
  obtain ⟨T, cs, t, hb, hi, hc, ht, hl, hr⟩ := h
  obtain ⟨cs', hb', e⟩ := hp cs t hb
  exact ⟨T, cs', t, hb', hi, e.trans hc, ht.kp k, hl, hr⟩
theorem Xi.keep {w w' : World} {p o : Nat} {l : List En} (h : Xi w p o l) (k : Kp w w') (hp : w'.heap[p]? = w.heap[p]?) : Xi w' p o l := h.keepC k fun cs t hc => ⟨cs, hp.trans hc, rfl⟩
theorem Xi.later {w w' : World} {p o : Nat} {l : List En} (h : Xi w p o l) (hb : Below w.heap.size w w') : Xi w' p o l := h.keep (Kp.of_below hb) (hb.block p h.lt)
/-- calls that change the index at p change no other block -/
theorem Kp.of_index {w w' : World} {p : Nat} {cs : Array Value} {t : TypeId} {z : Nat × Nat} (h : Onl (fun b => b = p) w w') (hb : w.heap[p]? = some (.cells cs t z)) (hi : ¬ IxT t) : Kp w w' :=
  Kp.of_onl h fun b cs' t' z' hf ho ht => by
    subst hf
    rw [hb] at ho
    cases ho
    exact hi ht
theorem Xi.kp {w w' : World} {p o : Nat} {l : List En} (h : Xi w p o l) (ho : Onl (fun b => b = p) w w') : Kp w w' := by obtain ⟨T, cs, t, hb, hi, _⟩ := h; exact Kp.of_index ho hb hi
theorem Xi.other {w w' : World} {p o q o' : Nat} {l m : List En} (h : Xi w p o l) (k : Xi w q o' m) (ho : Onl (fun b => b = q) w w') (hne : p ≠ q) : Xi w' p o l := h.keep (k.kp ho) (ho.block p h.lt hne)
theorem Xi.put {w : World} {p o : Nat} {cs : Array Value} {t : TypeId} {T T' : Tr} {l : List En} (hb : w.heap[p]? = some (.cells cs t (0, 0))) (hi : ¬ IxT t) (hc : cs[o]? = some (.pointer T.pt)) (ht : TrIn (fun _ => True) w T') (hl : T'.list = l) (hr : Rising l) : Xi (w.setCell ⟨p, o, none⟩ (.pointer T'.pt)) p o l := by
  refine ⟨T', _, t, heap_put _ hb, hi, ?_, ht.kp (Kp.of_index (Onl.set (F := fun b => b = p) (Onl.refl _ _) rfl _ _) hb hi), hl, hr⟩
  have hlt := (Array.getElem?_eq_some_iff.1 hc).1
  simp [hlt]

theorem setX_length {l : List En} (h : Rising l) (k : ByteArray) (v : Hd) : (setX l k v).length = l.length + (if (getX l k).isSome then 0 else 1) := by
  induction l with
  | nil => rfl
  | cons x l ih =>
    have h' := List.pairwise_cons.1 h
    unfold setX
    split
    · rename_i hlt
      have : getX (x :: l) k = getX l k := by unfold getX; rw [List.find?_cons_of_neg (by simpa using lt_ne hlt)]
      rw [this, List.length_cons, ih h'.2, List.length_cons]; omega
    · split
      · rename_i heq
        have : getX (x :: l) k = some x.2 := by unfold getX; rw [List.find?_cons_of_pos (by simpa using heq)]; rfl
        rw [this]; simp
      · rename_i hnl hne
        have : getX (x :: l) k = none := getX_none.2 fun u hu => by
          rcases List.mem_cons.1 hu with e | e
          · exact hne (by rw [← e])
          · have h3 := h'.1 _ e
            exact hnl h3
        rw [this]; simp
theorem setX_more {l : List En} (h : Rising l) (k : ByteArray) (v : Hd) : decide (l.length < (setX l k v).length) = (getX l k).isNone := by
  rw [setX_length h]
  cases getX l k <;> simp

theorem len_is {w : World} {p o : Nat} {l : List En} (h : Xi w p o l) :
    Calls Tryd.prog 71 #[.pointer (some ⟨p, o, none⟩)] w fun e w' => e = .returned (.int .i64 (l.length : Int)) ∧ w' = w := by
  obtain ⟨T, cs, t, hb, hix, hcs, ht, rfl, hr⟩ := h
  have c0 : w.cell? ⟨p, o, none⟩ = some (.pointer T.pt) := cell_of_obj hb hcs
  have hc := hid (count_is ht)
  rw [Tr.len]
  obtain ⟨m, hm⟩ : ∃ m, m = T.n := ⟨_, rfl⟩
  rw [← hm] at hc ⊢
  clear ht hr hb hix hcs hm
  go_enter Tryd.func71, Tryd.ntmps71
  go_wp2_with (go_at_call 81; refine hc.out.mono ?_; rintro e w' ⟨rfl, rfl⟩)
  go_ret
  exact ⟨rfl, rfl⟩
/-- what Get answers -/
def hdv (o : Option Hd) : Value := o.elim (.slice none 0 0) fun v => .slice (some ⟨v.g, 0, none⟩) v.n v.cap
def gotX (o : Option Hd) : Value := .tuple #[hdv o, .bool o.isSome]
theorem get_is {w : World} {p o : Nat} {l : List En} (h : Xi w p o l) (key : ByteArray) :
    Calls Tryd.prog 14 #[.pointer (some ⟨p, o, none⟩), .string key] w fun e w' => e = .returned (gotX (getX l key)) ∧ w' = w := by
  obtain ⟨T, cs, t, hb, hix, hcs, ht, rfl, hr⟩ := h
  have c0 : w.cell? ⟨p, o, none⟩ = some (.pointer T.pt) := cell_of_obj hb hcs
  have hf := hid (find_is key ht)
  have hv := Tr.find_is T key hr
  have htf := ht.find key
  rw [← hv]
  cases hF : T.find key with
  | nil =>
    rw [hF] at hf
    simp only [Tr.pt] at hf
    clear ht hr hb hix hcs hF htf hv
    go_enter Tryd.func14, Tryd.ntmps14
    go_wp2_with (go_at_call 48; refine hf.out.mono ?_; rintro e w' ⟨rfl, rfl⟩)
    go_ret2
    exact ⟨rfl, rfl⟩
  | node b k v tl tr =>
    rw [hF] at hf htf
    simp only [Tr.pt] at hf
    have n1 := htf.2.2.1
    clear ht hr hb hix hcs hF htf hv
    go_enter Tryd.func14, Tryd.ntmps14
    go_wp2_with (go_at_call 48; refine hf.out.mono ?_; rintro e w' ⟨rfl, rfl⟩)
    go_ret2
    exact ⟨rfl, rfl⟩
theorem set_is {w : World} {p o : Nat} {l : List En} (h : Xi w p o l) (key : ByteArray) (v : Hd) (hn : l.length + 1 ≤ 1152921504606846976) :
    Calls Tryd.prog 49 #[.pointer (some ⟨p, o, none⟩), .string key, .slice (some ⟨v.g, 0, none⟩) v.n v.cap] w fun e w' => e = .returned (.bool (getX l key).isNone) ∧ Xi w' p o (setX l key v) ∧ Onl (fun b => b = p) w w' ∧ Part p o 1 w w' := by
  have hl0 := hid (len_is h)
  obtain ⟨T, cs, t, hb, hix, hcs, ht, rfl, hr⟩ := h
  have c0 : w.cell? ⟨p, o, none⟩ = some (.pointer T.pt) := cell_of_obj hb hcs
  have f0 : w.frozen? ⟨p, o, none⟩ = false := by simp [World.frozen?, hb]
  have HW : Hid (Calls Tryd.prog 72 #[.pointer T.pt, .string key, .slice (some ⟨v.g, 0, none⟩) v.n v.cap] w fun e w' => ∃ T' : Tr, e = .returned (.pointer T'.pt) ∧ w'.cell? ⟨p, o, none⟩ = some (.pointer T.pt) ∧ w'.frozen? ⟨p, o, none⟩ = false ∧ Hid (Xi (w'.setCell ⟨p, o, none⟩ (.pointer T'.pt)) p o (setX T.list key v)) ∧ Hid (Below w.heap.size w w') ∧
      Calls Tryd.prog 71 #[.pointer (some ⟨p, o, none⟩)] (w'.setCell ⟨p, o, none⟩ (.pointer T'.pt)) fun e w2 => e = .returned (.int .i64 ((setX T.list key v).length : Int)) ∧ w2 = w'.setCell ⟨p, o, none⟩ (.pointer T'.pt)) :=
    (with_is key v T (fun _ => True) w (fun _ _ => trivial) ht hr (by rw [← Tr.len]; exact hn)).mono fun e w' ⟨T', he, t', hl', hb'⟩ => by
      have hbx : w'.heap[p]? = some (.cells cs t (0, 0)) := (hb'.block p (Array.getElem?_eq_some_iff.1 hb).1).trans hb
      have hx : Xi (w'.setCell ⟨p, o, none⟩ (.pointer T'.pt)) p o (setX T.list key v) := Xi.put hbx hix hcs t' hl' (setX_rising hr _ _)
      exact ⟨T', he, cell_of_obj hbx hcs, by simp [World.frozen?, hbx], hx, hb', len_is hx⟩
  have hm := setX_more hr key v
  obtain ⟨n1, h1⟩ : ∃ n, n = T.list.length := ⟨_, rfl⟩
  obtain ⟨n2, h2⟩ : ∃ n, n = (setX T.list key v).length := ⟨_, rfl⟩
  rw [← h1] at hl0 hm
  rw [← h2] at hm HW
  clear h1 h2 hn ht hr hb hix hcs
  go_enter Tryd.func49, Tryd.ntmps49
  go_wp2_with (first
    | (go_at_call 71; refine hl0.out.mono ?_; clear hl0; rintro e w1 ⟨rfl, rfl⟩)
    | (go_at_call 72; refine HW.out.mono ?_; rintro e w2 ⟨T', rfl, d0, g0, hx, hb2, hl2⟩)
    | (go_at_call 71; refine hl2.mono ?_; rintro e w3 ⟨rfl, rfl⟩))
  go_ret
  exact ⟨by rw [← hm]; rfl, hx.out, Onl.set (F := fun b => b = p) (Onl.of_below hb2.out) rfl _ _, (Part.below hb2.out).trans (Part.set _ _ _ _)⟩
theorem del_is {w : World} {p o : Nat} {l : List En} (h : Xi w p o l) (key : ByteArray) (hn : l.length + 1 ≤ 1152921504606846976) :
    Calls Tryd.prog 79 #[.pointer (some ⟨p, o, none⟩), .string key] w fun e w' => e = .returned (.bool (getX l key).isSome) ∧ Xi w' p o (delX l key) ∧ Onl (fun b => b = p) w w' ∧ Part p o 1 w w' := by
  have hX := hid h
  obtain ⟨T, cs, t, hb, hix, hcs, ht, rfl, hr⟩ := h
  have c0 : w.cell? ⟨p, o, none⟩ = some (.pointer T.pt) := cell_of_obj hb hcs
  have f0 : w.frozen? ⟨p, o, none⟩ = false := by simp [World.frozen?, hb]
  have hf := hid (find_is key ht)
  have hv := Tr.find_is T key hr
  cases hF : T.find key with
  | nil =>
    rw [hF] at hf hv
    simp only [Tr.pt] at hf
    have hg : getX T.list key = none := hv.symm
    have hd : delX T.list key = T.list := delX_none fun e he e' => getX_none.1 hg e.2 (by rw [← e']; exact he)
    rw [hg, hd]
    clear ht hr hb hix hcs hF hv hd hg
    go_enter Tryd.func79, Tryd.ntmps79
    go_wp2_with (go_at_call 48; refine hf.out.mono ?_; rintro e w' ⟨rfl, rfl⟩)
    go_ret
    exact ⟨rfl, hX.out, Onl.refl _ _, Part.refl _ _ _ _⟩
  | node b k v tl tr =>
    rw [hF] at hf hv
    simp only [Tr.pt] at hf
    have hg : getX T.list key = some v := hv.symm
    have HW : Hid (Calls Tryd.prog 84 #[.pointer T.pt, .string key] w fun e w' => ∃ T' : Tr, e = .returned (.pointer T'.pt) ∧ w'.cell? ⟨p, o, none⟩ = some (.pointer T.pt) ∧ w'.frozen? ⟨p, o, none⟩ = false ∧ Hid (Xi (w'.setCell ⟨p, o, none⟩ (.pointer T'.pt)) p o (delX T.list key)) ∧ Hid (Below w.heap.size w w')) :=
      (without_is T key (fun _ => True) w (fun _ _ => trivial) ht hr (by rw [← Tr.len]; exact hn) (by rw [hg]; rfl)).mono fun e w' ⟨T', he, t', hl', hb'⟩ => by
        have hbx : w'.heap[p]? = some (.cells cs t (0, 0)) := (hb'.block p (Array.getElem?_eq_some_iff.1 hb).1).trans hb
        have hx : Xi (w'.setCell ⟨p, o, none⟩ (.pointer T'.pt)) p o (delX T.list key) := Xi.put hbx hix hcs t' hl' (delX_rising hr _)
        exact ⟨T', he, cell_of_obj hbx hcs, by simp [World.frozen?, hbx], hx, hb'⟩
    rw [hg]
    clear ht hr hb hix hcs hF hv hg hX
    go_enter Tryd.func79, Tryd.ntmps79
    go_wp2_with (first
      | (go_at_call 48; refine hf.out.mono ?_; rintro e w' ⟨rfl, rfl⟩)
      | (go_at_call 84; refine HW.out.mono ?_; rintro e w2 ⟨T', rfl, d0, g0, hx, hb2⟩))
    go_ret
    exact ⟨rfl, hx.out, Onl.set (F := fun b => b = p) (Onl.of_below hb2.out) rfl _ _, (Part.below hb2.out).trans (Part.set _ _ _ _)⟩

end Go.Proofs.YtmlacdfdpdkdaaaDoor.Vs
namespace Go.Proofs.YtmlacdfdpdkdaaaDoor.Vs
open Go.RowKit Go.Sort Go.Shelf
set_option linter.unusedVariables false

theorem Loops.box {α : Type} {f : α → En} {l N : Nat} {J Jx : List α → World → Prop} (H : Loops f l N J Jx) {pre : List α} {W : World} (hJ : J pre W) (o : Obj) : J pre (W.alloc o) := H.later _ _ _ hJ (Below.al (Below.refl _ W) o)
set_option maxHeartbeats 1000000 in
theorem up_nil {α : Type} {f : α → En} {l N : Nat} {J Jx : List α → World → Prop} (H : Loops f l N J Jx) {lo hi : ByteArray} {pre : List α} {W : World} (hJ : J pre W) :
    Calls Tryd.prog 51 #[.pointer none, .agg #[.string lo, .string hi], .func (.yield l) #[] #[]] W (Ran J Jx pre [] W) := by
  have h1 := hid (H.box hJ (.cells #[.string lo, .string hi] 38))
  clear H hJ
  go_enter Tryd.func51, Tryd.ntmps51
  go_wp2_with fail
  go_ret
  exact ⟨true, rfl, fun _ => ⟨by simpa using h1.out, Kp.of_below (Below.al (Below.refl _ _) _)⟩, fun e => (by cases e)⟩
theorem up_is {α : Type} {f : α → En} {l N : Nat} {J Jx : List α → World → Prop} (H : Loops f l N J Jx) (lo hi : ByteArray) (T : Tr) : ∀ (pre ys : List α) (W : World), TrIn (fun _ => True) W T → Rising T.list → ys.map f = rangeX T.list lo hi → J pre W → pre.length + ys.length ≤ N →
    Calls Tryd.prog 51 #[.pointer T.pt, .agg #[.string lo, .string hi], .func (.yield l) #[] #[]] W (Ran J Jx pre ys W) := by
  induction T with
  | nil =>
    intro pre ys W _ _ hys hJ _
    obtain rfl : ys = [] := by simpa [Tr.list, rangeX] using hys
    exact up_nil H hJ
  | node b k v tl tr ihl ihr =>
    intro pre ys W ht hR hys hJ hN
    obtain ⟨hRl, hRr, hkl, hkr⟩ := rising_parts hR
    have htl := ht.2.2.2.2.2.2.1
    have htr := ht.2.2.2.2.2.2.2
    rw [Tr.list, range_node] at hys
    cases hf : fromB lo k with
    | true =>
      cases hu : underB hi k with
      | true =>
        rw [inS_is, hf, hu] at hys
        obtain ⟨y1, y2, y3, rfl, e1, e2, e3⟩ := map_parts hys
        obtain ⟨y, rfl, ey⟩ := map_one e2
        simp only [List.length_append, List.length_cons, List.length_nil] at hN
        exact up_tt H ht hf hu ey hJ (by simp only [List.length_append]; omega) (fun W' k' hJ' => ihl pre y1 W' (htl.kp k') hRl e1 hJ' (by omega))
          (fun W' k' hJ' => ihr (pre ++ y1 ++ [y]) y3 W' (htr.kp k') hRr e3 hJ' (by simp only [List.length_append, List.length_cons, List.length_nil]; omega))
      | false =>
        rw [inS_is, hf, hu, range_right hkr hu] at hys
        simp only [Bool.and_false, Bool.false_eq_true, if_false, List.append_nil] at hys
        exact up_tf H ht hf hu hJ (fun W' k' hJ' => ihl pre ys W' (htl.kp k') hRl hys hJ' hN)
    | false =>
      rw [inS_is, hf, range_left hkl hf] at hys
      simp only [Bool.false_and, Bool.false_eq_true, if_false, List.append_nil, List.nil_append] at hys
      cases hu : underB hi k with
      | true => exact up_ft H ht hf hu hJ (fun W' k' hJ' => ihr pre ys W' (htr.kp k') hRr hys hJ' hN)
      | false =>
        rw [range_right hkr hu] at hys
        obtain rfl : ys = [] := by simpa using hys
        exact up_ff H ht hf hu hJ
/-- an iterator over the entries l, in a span: the root's box, the span's box -/
structure It (w : World) (R B : Nat) (l : List En) (lo hi : ByteArray) : Prop where
  tree : ∃ T : Tr, Boxed w R 62 (.pointer T.pt) ∧ TrIn (fun _ => True) w T ∧ T.list = l
  span : w.heap[B]? = some (.cells #[.string lo, .string hi] 38 (0, 0))
  rising : Rising l
theorem It.kp {w w' : World} {R B : Nat} {l : List En} {lo hi : ByteArray} (h : It w R B l lo hi) (k : Kp w w') : It w' R B l lo hi := by
  obtain ⟨⟨T, hb, ht, hl⟩, hs, hr⟩ := h
  exact ⟨⟨T, k.2 R _ _ _ (.inr (.inr rfl)) hb, ht.kp k, hl⟩, k.2 B _ _ _ (.inr (.inl rfl)) hs, hr⟩
theorem It.later {w w' : World} {R B : Nat} {l : List En} {lo hi : ByteArray} (h : It w R B l lo hi) (hb : Below w.heap.size w w') : It w' R B l lo hi := h.kp (Kp.of_below hb)
abbrev itv (f R B : Nat) : Value := .func (.func f) #[] #[.pointer (some ⟨R, 0, none⟩), .pointer (some ⟨B, 0, none⟩)]
theorem it_new {w : World} {lo hi : ByteArray} {T : Tr} (ht : TrIn (fun _ => True) w T) (hr : Rising T.list) :
    It ((w.alloc (.cells #[.string lo, .string hi] 38)).alloc (.cells #[.pointer T.pt] 62)) (w.heap.size + 1) w.heap.size T.list lo hi ∧
    Below w.heap.size w ((w.alloc (.cells #[.string lo, .string hi] 38)).alloc (.cells #[.pointer T.pt] 62)) := by
  have hb : Below w.heap.size w ((w.alloc (.cells #[.string lo, .string hi] 38)).alloc (.cells #[.pointer T.pt] 62)) := Below.al (Below.al (Below.refl _ _) _) _
  have b1 := Boxed.new (w.alloc (.cells #[.string lo, .string hi] 38)) 62 (.pointer T.pt)
  rw [World.size_alloc] at b1
  have s1 := box_new w lo hi
  have s2 := (Below.heap_alloc (w.alloc (.cells #[.string lo, .string hi] 38)) (.cells #[.pointer T.pt] 62) w.heap.size (by simp)).trans s1
  exact ⟨⟨⟨T, b1, ht.later hb, rfl⟩, s2, hr⟩, hb⟩

theorem range_is {w : World} {p o : Nat} {l : List En} (h : Xi w p o l) (lo hi : ByteArray) :
    Calls Tryd.prog 18 #[.pointer (some ⟨p, o, none⟩), .agg #[.string lo, .string hi]] w fun e w' => ∃ R B, e = .returned (itv 50 R B) ∧ It w' R B l lo hi ∧ Below w.heap.size w w' ∧ w.heap.size ≤ R ∧ w.heap.size ≤ B := by
  obtain ⟨T, cs, t, hb, hix, hcs, ht, rfl, hr⟩ := h
  have c0 : (w.alloc (.cells #[.string lo, .string hi] 38)).cell? ⟨p, o, none⟩ = some (.pointer T.pt) := cell_later (Below.al (Below.refl _ _) _) (cell_of_obj hb hcs)
  have hi' := hid (it_new (lo := lo) (hi := hi) ht hr)
  have hp := (Array.getElem?_eq_some_iff.1 hb).1
  clear ht hr hb hix hcs
  go_enter Tryd.func18, Tryd.ntmps18
  go_wp2_with fail
  go_ret
  exact ⟨_, _, rfl, hi'.out.1, hi'.out.2, by simp, by simp⟩
theorem range1_is {α : Type} {f : α → En} {l N : Nat} {J Jx : List α → World → Prop} (H : Loops f l N J Jx) {R B : Nat} {xs : List En} {lo hi : ByteArray} {ys : List α} {W : World} (h : It W R B xs lo hi) (hys : ys.map f = rangeX xs lo hi) (hJ : J [] W) (hN : ys.length ≤ N) :
    Calls Tryd.prog 50 #[.func (.yield l) #[] #[], .pointer (some ⟨R, 0, none⟩), .pointer (some ⟨B, 0, none⟩)] W fun e W' => (∃ v, e = .returned v) ∧ (J ys W' ∨ ∃ q, q <+: ys ∧ Jx q W') := by
  obtain ⟨⟨T, hb, ht, rfl⟩, hs, hr⟩ := h
  have c0 := hb.cell
  have d0 : W.cell? ⟨B, 0, none⟩ = some (.string lo) := cell_of_obj hs rfl
  have d1 : W.cell? ⟨B, 1, none⟩ = some (.string hi) := cell_of_obj hs rfl
  have hu := hid (up_is H lo hi T [] ys W ht hr hys hJ (by simpa using hN))
  clear hb ht hr hs hys hJ hN H
  go_enter Tryd.func50, Tryd.ntmps50
  go_wp2_with (go_at_call 51; refine hu.out.mono ?_; rintro e w1 ⟨u, rfl, t1, t2⟩)
  go_end0
  refine ⟨⟨_, rfl⟩, ?_⟩
  cases u with
  | true => exact .inl (by simpa using (t1 rfl).1)
  | false => obtain ⟨q, hq, hx⟩ := t2 rfl; exact .inr ⟨q, hq, by simpa using hx⟩
/-- what a loop over xs is handed: entries of xs -/
abbrev Of (xs : List En) : Type := { e : En // e ∈ xs }
abbrev encs (xs : List En) : Of xs → Array Value := fun x => #[.string x.1.1, .slice (some ⟨x.1.2.g, 0, none⟩) x.1.2.n x.1.2.cap]
theorem loops_of {xs : List En} {n l : Nat} {J Jx : List (Of xs) → World → Prop} {W0 : World} (hJ : AbidesFrom W0.heap.size J)
    (hY : ∀ pre x W1, J pre W1 → pre.length < xs.length → YieldAt Fence.wide n Tryd.prog l (encs xs x) W1 fun e W' =>
      (e = .returned (.bool true) ∧ J (pre ++ [x]) W' ∧ Kp W1 W') ∨ (e = .returned (.bool false) ∧ Jx (pre ++ [x]) W')) :
    Loops (fun x : Of xs => x.1) l xs.length J Jx :=
  ⟨fun m pre x W hj hl => YieldAt.anyD m (YieldAt.mono (hY pre x W hj hl) fun e W' h => h.elim (fun ⟨he, h1, h2⟩ => ⟨true, he, fun _ => ⟨h1, h2⟩, fun e => (by cases e)⟩) (fun ⟨he, h1⟩ => ⟨false, he, fun e => (by cases e), fun _ => h1⟩)),
   fun pre W W' hj hb => hJ pre W W' none hj ⟨hb.os, hb.tape, hb.output, hb.size, fun k hk _ => hb.block k hk⟩ (fun r e => by cases e)⟩
theorem attach_val (xs : List En) : xs.attach.map (fun x : Of xs => x.1) = xs := List.attach_map_subtype_val xs
/-- **a loop over Range** -/
theorem range_stops {w : World} {R B : Nat} {l : List En} {lo hi : ByteArray} (n : Nat) (h : It w R B l lo hi) :
    SeqStopsK Fence.wide n Tryd.prog 50 #[.pointer (some ⟨R, 0, none⟩), .pointer (some ⟨B, 0, none⟩)] (encs (rangeX l lo hi)) Kp (fun ys => ys.map (fun x => x.1) = rangeX l lo hi) (fun pre => pre.map (fun x => x.1) <+: rangeX l lo hi) (rangeX l lo hi).length w := fun y J Jx W hW hJ hJx hY h0 =>
  callsIn_wide.2 ((range1_is (loops_of hJ hY) (h.later hW) (attach_val _) h0 (by simp)).mono fun e W' ⟨hv, hh⟩ => ⟨hv, hh.imp (fun hj => ⟨_, attach_val _, hj⟩) (fun ⟨q, hq, hx⟩ => ⟨q, by have := hq.map (fun x : Of (rangeX l lo hi) => x.1); rwa [attach_val] at this, hx⟩)⟩)
/-- the law's own book-keeping keeps it -/
theorem kp_t {A B C : World} (h : Kp A B) (k : Kp B C) : Kp A C := h.trans k
theorem kp_b {w : World} (W : World) (l : Nat) (o o' : Obj) (_ : w.heap.size ≤ l) (h : W.heap[l]? = some o) (ho : o.isCells = false) (_ : o.isWalk = false) : Kp W (W.putObj l o') :=
  ⟨by simp, fun b cs t z _ hb => (World.putObj_heap_other (fun e => by subst e; rw [hb] at h; cases h; cases ho)).trans hb⟩

end Go.Proofs.YtmlacdfdpdkdaaaDoor.Vs
/- Plain: chains of versions, what a read sees, what a prune drops. -/
namespace Go.Proofs.YtmlacdfdpdkdaaaDoor.Vs
set_option linter.unusedVariables false

def Sp.lt (s t : Sp) : Bool := lessB s.a s.b s.c t.a t.b t.c
theorem Sp.irr (s : Sp) : s.lt s = false := less_irr _ _ _
theorem Sp.trans {r s t : Sp} (h : r.lt s = true) (k : s.lt t = true) : r.lt t = true := less_trans h k
theorem Sp.le_lt {r s t : Sp} (h : s.lt r = false) (k : s.lt t = true) : r.lt t = true := by
  unfold Sp.lt at *; rw [lessB_iff_false] at h; rw [lessB_iff] at *; omega
theorem Sp.lt_le {r s t : Sp} (h : r.lt s = true) (k : t.lt s = false) : r.lt t = true := by
  unfold Sp.lt at *; rw [lessB_iff_false] at k; rw [lessB_iff] at *; omega
theorem Sp.le_trans {r s t : Sp} (h : s.lt r = false) (k : t.lt s = false) : t.lt r = false := by
  unfold Sp.lt at *; rw [lessB_iff_false] at *; omega
theorem Sp.lt_asymm {r s : Sp} (h : r.lt s = true) : s.lt r = false := by
  unfold Sp.lt at *; rw [lessB_iff_false]; rw [lessB_iff] at h; omega

abbrev Chain := List Ver
/-- stamps rising -/
def Ris (cs : Chain) : Prop := cs.Pairwise fun x y => x.s.lt y.s = true
/-- the versions at or below t -/
def low (cs : Chain) (t : Sp) : Chain := cs.filter fun v => !t.lt v.s
def upTo (cs : Chain) (t : Sp) : Nat := (low cs t).length
def valOf (o : Option Ver) : Option ByteArray := o.bind fun v => if v.del then none else some v.val
/-- the value at t -/
def valAt (cs : Chain) (t : Sp) : Option ByteArray := valOf (low cs t).getLast?
theorem low_append (a b : Chain) (t : Sp) : low (a ++ b) t = low a t ++ low b t := List.filter_append ..
theorem upTo_le (cs : Chain) (t : Sp) : upTo cs t ≤ cs.length := List.length_filter_le _ _
theorem low_all {cs : Chain} {t : Sp} (h : ∀ v ∈ cs, t.lt v.s = false) : low cs t = cs := List.filter_eq_self.2 fun v hv => by simp [h v hv]
theorem low_none {cs : Chain} {t : Sp} (h : ∀ v ∈ cs, t.lt v.s = true) : low cs t = [] := List.filter_eq_nil_iff.2 fun v hv => by simp [h v hv]
theorem valAt_snoc (cs : Chain) (v : Ver) (t : Sp) : valAt (cs ++ [v]) t = if t.lt v.s then valAt cs t else if v.del then none else some v.val := by
  unfold valAt
  rw [low_append]
  cases h : t.lt v.s with
  | true => rw [low_none (cs := [v]) (by simpa using h)]; simp
  | false => rw [low_all (cs := [v]) (by simpa using h)]; simp [valOf]
theorem valAt_nil (t : Sp) : valAt [] t = none := rfl
theorem low_take {cs : Chain} (h : Ris cs) (t : Sp) : low cs t = cs.take (upTo cs t) := by
  induction cs with
  | nil => rfl
  | cons x cs ih =>
    have h' := List.pairwise_cons.1 h
    cases hx : t.lt x.s with
    | true =>
      have e : low (x :: cs) t = [] := low_none fun v hv => by
        rcases List.mem_cons.1 hv with rfl | hv
        · exact hx
        · exact Sp.trans hx (h'.1 v hv)
      simp [upTo, e]
    | false =>
      have e : low (x :: cs) t = x :: low cs t := by simp [low, hx]
      rw [upTo, e, List.length_cons, List.take_succ_cons, ← upTo, ← ih h'.2]
theorem upTo_iff {cs : Chain} (h : Ris cs) (t : Sp) {i : Nat} (hi : i < cs.length) : t.lt (cs[i]).s = true ↔ upTo cs t ≤ i := by
  induction cs generalizing i with
  | nil => simp at hi
  | cons x cs ih =>
    have h' := List.pairwise_cons.1 h
    cases hx : t.lt x.s with
    | true =>
      have hall : ∀ v ∈ x :: cs, t.lt v.s = true := fun v hv => by
        rcases List.mem_cons.1 hv with rfl | hv
        · exact hx
        · exact Sp.trans hx (h'.1 v hv)
      have e : low (x :: cs) t = [] := low_none hall
      simp only [upTo, e, List.length_nil, Nat.zero_le, iff_true]
      exact hall _ (List.getElem_mem hi)
    | false =>
      have e : low (x :: cs) t = x :: low cs t := by simp [low, hx]
      rw [upTo, e, List.length_cons, ← upTo]
      cases i with
      | zero => simp [hx]
      | succ i =>
        simp only [List.length_cons] at hi
        rw [List.getElem_cons_succ, ih h'.2 (by omega)]; omega
/-- the newest at or below t -/
theorem low_last {cs : Chain} (h : Ris cs) (t : Sp) (hn : 0 < upTo cs t) : (low cs t).getLast? = cs[upTo cs t - 1]? := by
  have hl := upTo_le cs t
  rw [low_take h, List.getLast?_eq_getElem?, List.length_take, Nat.min_eq_left hl, List.getElem?_take]
  simp; omega
theorem low_last0 {cs : Chain} (t : Sp) (hn : upTo cs t = 0) : (low cs t).getLast? = none := by
  have : low cs t = [] := List.length_eq_zero_iff.1 hn
  rw [this]; rfl
/-- how many versions nobody at or above m needs -/
def unseen (cs : Chain) (m : Sp) : Nat := if (low cs m).getLast?.elim true (·.del) then upTo cs m else upTo cs m - 1
theorem unseen_le (cs : Chain) (m : Sp) : unseen cs m ≤ cs.length := by have := upTo_le cs m; unfold unseen; split <;> omega
theorem prune_val {cs : Chain} (h : Ris cs) {m t : Sp} (hm : t.lt m = false) : valAt (cs.drop (unseen cs m)) t = valAt cs t := by
  have hL := low_take h m
  have hlen := upTo_le cs m
  have hcs : cs = low cs m ++ cs.drop (upTo cs m) := by rw [hL, List.take_append_drop]
  have hLt : low (low cs m) t = low cs m := low_all fun v hv => by
    have := (List.mem_filter.1 hv).2
    exact Sp.le_trans (by simpa using this) hm
  have hval : valAt cs t = valOf ((low (cs.drop (upTo cs m)) t).getLast?.or (low cs m).getLast?) := by
    conv => lhs; rw [hcs]
    unfold valAt
    rw [low_append, hLt, List.getLast?_append]
  rw [hval]
  cases hg : (low cs m).getLast? with
  | none =>
    have hu : unseen cs m = upTo cs m := by unfold unseen; rw [hg]; rfl
    rw [hu]; simp [valAt]
  | some v =>
    cases hd : v.del with
    | true =>
      have hu : unseen cs m = upTo cs m := by unfold unseen; rw [hg]; simp [hd]
      rw [hu, valAt]
      cases hr : (low (cs.drop (upTo cs m)) t).getLast? with
      | none => simp [valOf, hd]
      | some u => simp
    | false =>
      have hu : unseen cs m = upTo cs m - 1 := by unfold unseen; rw [hg]; simp [hd]
      have hne : low cs m ≠ [] := by intro e; rw [e] at hg; cases hg
      have hv : (low cs m).getLast hne = v := by rw [List.getLast?_eq_some_getLast hne] at hg; injection hg
      have hsp : low cs m = (low cs m).dropLast ++ [v] := by rw [← hv]; exact (List.dropLast_concat_getLast hne).symm
      have hdr : cs.drop (upTo cs m - 1) = v :: cs.drop (upTo cs m) := by
        have hn : upTo cs m - 1 = (low cs m).dropLast.length := by rw [List.length_dropLast]; rfl
        have h2 : cs = (low cs m).dropLast ++ (v :: cs.drop (upTo cs m)) := by
          have : low cs m ++ cs.drop (upTo cs m) = (low cs m).dropLast ++ (v :: cs.drop (upTo cs m)) := by
            conv => lhs; rw [hsp]
            rw [List.append_assoc]; rfl
          exact hcs.trans this
        rw [hn]
        conv => lhs; rw [h2]
        rw [show (low ((low cs m).dropLast ++ (v :: cs.drop (upTo cs m))) m) = low cs m from by rw [← h2]]
        exact List.drop_left
      have hvt : t.lt v.s = false := by
        have : v ∈ low cs m := by rw [hsp]; simp
        rw [← hLt] at this
        simpa using (List.mem_filter.1 this).2
      rw [hu, hdr, valAt, show low (v :: cs.drop (upTo cs m)) t = [v] ++ low (cs.drop (upTo cs m)) t by simp [low, hvt], List.getLast?_append]
      rfl

/-! ### stores: chains by key -/
abbrev Mst := List (ByteArray × Chain)
abbrev Prs := List (ByteArray × ByteArray)
def readAll (M : Mst) (t : Sp) : Prs := M.filterMap fun e => (valAt e.2 t).map fun x => (e.1, x)
def readM (M : Mst) (lo hi : ByteArray) (t : Sp) : Prs := readAll (rangeX M lo hi) t
theorem readM_is (M : Mst) (lo hi : ByteArray) (t : Sp) : readM M lo hi t = rangeX (readAll M t) lo hi := by
  unfold readM readAll rangeX
  induction M with
  | nil => rfl
  | cons x M ih =>
    simp only [List.filter_cons, List.filterMap_cons]
    cases hv : valAt x.2 t with
    | none =>
      simp only [Option.map_none]
      split
      · rw [List.filterMap_cons, hv]; exact ih
      · exact ih
    | some u =>
      simp only [Option.map_some, List.filter_cons]
      split
      · rw [List.filterMap_cons, hv]; simp only [Option.map_some]; rw [ih]
      · exact ih
theorem readAll_mem {M : Mst} {t : Sp} {k x : ByteArray} : (k, x) ∈ readAll M t ↔ ∃ cs, (k, cs) ∈ M ∧ valAt cs t = some x := by
  unfold readAll
  rw [List.mem_filterMap]
  constructor
  · rintro ⟨⟨k', cs⟩, h, e⟩
    obtain ⟨y, hy, e⟩ := Option.map_eq_some_iff.1 e
    injection e with e1 e2
    subst e1 e2
    exact ⟨cs, h, hy⟩
  · rintro ⟨cs, h, e⟩
    exact ⟨(k, cs), h, by rw [e]; rfl⟩
theorem readAll_rising {M : Mst} (h : Rising M) (t : Sp) : Rising (readAll M t) := by
  unfold readAll Rising
  refine List.Pairwise.filterMap _ ?_ h
  intro a a' haa b hb b' hb'
  obtain ⟨y, hy, rfl⟩ := Option.map_eq_some_iff.1 hb
  obtain ⟨y', hy', rfl⟩ := Option.map_eq_some_iff.1 hb'
  exact haa
/-- one version more -/
def addM (M : Mst) (k : ByteArray) (v : Ver) : Mst := setX M k ((getX M k).getD [] ++ [v])
theorem addM_rising {M : Mst} (h : Rising M) (k : ByteArray) (v : Ver) : Rising (addM M k v) := setX_rising h _ _
theorem readAll_add_low {M : Mst} (h : Rising M) {k : ByteArray} {v : Ver} {t : Sp} (hv : t.lt v.s = false) : readAll (addM M k v) t = if v.del then delX (readAll M t) k else setX (readAll M t) k v.val := by
  have hr := readAll_rising h t
  refine rising_ext (readAll_rising (addM_rising h k v) t) (by split; exact delX_rising hr _; exact setX_rising hr _ _) ?_
  rintro ⟨k', x⟩
  rw [readAll_mem]
  have hmem : ∀ cs, (k', cs) ∈ addM M k v ↔ (k', cs) = (k, (getX M k).getD [] ++ [v]) ∨ ((k', cs) ∈ M ∧ k' ≠ k) := fun cs => setX_mem h _ _ _
  by_cases hk : k' = k
  · subst hk
    have hval : valAt ((getX M k').getD [] ++ [v]) t = if v.del then none else some v.val := by rw [valAt_snoc, hv]; rfl
    cases hd : v.del with
    | true =>
      rw [hd] at hval
      rw [if_pos rfl, delX_mem]
      constructor
      · rintro ⟨cs, hc, hx⟩
        rcases (hmem cs).1 hc with e | ⟨_, e⟩
        · injection e with _ e; rw [e, hval] at hx; cases hx
        · exact absurd rfl e
      · rintro ⟨_, e⟩; exact absurd rfl e
    | false =>
      rw [hd] at hval
      rw [if_neg (by decide), setX_mem hr]
      constructor
      · rintro ⟨cs, hc, hx⟩
        rcases (hmem cs).1 hc with e | ⟨_, e⟩
        · injection e with _ e; rw [e, hval] at hx; injection hx with hx; exact .inl (by rw [hx])
        · exact absurd rfl e
      · rintro (e | ⟨_, e⟩)
        · injection e with _ e; subst e; exact ⟨_, (hmem _).2 (.inl rfl), hval⟩
        · exact absurd rfl e
  · have hlhs : (∃ cs, (k', cs) ∈ addM M k v ∧ valAt cs t = some x) ↔ (k', x) ∈ readAll M t := by
      rw [readAll_mem]
      constructor
      · rintro ⟨cs, hc, hx⟩
        rcases (hmem cs).1 hc with e | ⟨hc, _⟩
        · injection e with e _; exact absurd e hk
        · exact ⟨cs, hc, hx⟩
      · rintro ⟨cs, hc, hx⟩; exact ⟨cs, (hmem cs).2 (.inr ⟨hc, hk⟩), hx⟩
    rw [hlhs]
    split
    · rw [delX_mem]; exact ⟨fun h => ⟨h, hk⟩, fun h => h.1⟩
    · rw [setX_mem hr]
      constructor
      · intro h; exact .inr ⟨h, hk⟩
      · rintro (e | ⟨h, _⟩)
        · injection e with e _; exact absurd e hk
        · exact h
theorem getD_mem {M : Mst} (h : Rising M) {k : ByteArray} {t : Sp} {x : ByteArray} (hv : valAt ((getX M k).getD []) t = some x) : (k, (getX M k).getD []) ∈ M := by
  cases hg : getX M k with
  | none => rw [hg] at hv; cases hv
  | some cs => exact (getX_some h).1 hg
theorem readAll_add_high {M : Mst} (h : Rising M) {k : ByteArray} {v : Ver} {t : Sp} (hv : t.lt v.s = true) : readAll (addM M k v) t = readAll M t := by
  refine rising_ext (readAll_rising (addM_rising h k v) t) (readAll_rising h t) ?_
  rintro ⟨k', x⟩
  rw [readAll_mem, readAll_mem]
  have hmem : ∀ cs, (k', cs) ∈ addM M k v ↔ (k', cs) = (k, (getX M k).getD [] ++ [v]) ∨ ((k', cs) ∈ M ∧ k' ≠ k) := fun cs => setX_mem h _ _ _
  have hval : valAt ((getX M k).getD [] ++ [v]) t = valAt ((getX M k).getD []) t := by rw [valAt_snoc, hv]; rfl
  constructor
  · rintro ⟨cs, hc, hx⟩
    rcases (hmem cs).1 hc with e | ⟨hc, _⟩
    · injection e with e1 e2
      subst e1 e2
      rw [hval] at hx
      exact ⟨_, getD_mem h hx, hx⟩
    · exact ⟨cs, hc, hx⟩
  · rintro ⟨cs, hc, hx⟩
    by_cases hk : k' = k
    · subst hk
      have hg := (getX_some h).2 hc
      refine ⟨_, (hmem _).2 (.inl rfl), ?_⟩
      rw [hval, hg]; exact hx
    · exact ⟨cs, (hmem cs).2 (.inr ⟨hc, hk⟩), hx⟩

/-- what always holds of a store -/
structure Good (M : Mst) : Prop where
  rising : Rising M
  chain : ∀ e ∈ M, e.2 ≠ [] ∧ Ris e.2
/-- the stamp is above all that stand at the key -/
def Over (M : Mst) (k : ByteArray) (t : Sp) : Prop := ∀ cs, getX M k = some cs → ∀ u ∈ cs, u.s.lt t = true
theorem ris_snoc {cs : Chain} {v : Ver} (h : Ris cs) (hv : ∀ u ∈ cs, u.s.lt v.s = true) : Ris (cs ++ [v]) :=
  List.pairwise_append.2 ⟨h, List.pairwise_singleton _ _, fun a ha b hb => by simp at hb; subst hb; exact hv a ha⟩
theorem Good.add {M : Mst} (h : Good M) {k : ByteArray} {v : Ver} (ho : Over M k v.s) : Good (addM M k v) := by
  refine ⟨addM_rising h.rising k v, fun e he => ?_⟩
  rcases (setX_mem h.rising _ _ e).1 he with rfl | ⟨he, _⟩
  · refine ⟨by simp, ?_⟩
    cases hg : getX M k with
    | none => exact List.pairwise_singleton _ _
    | some cs => exact ris_snoc (h.chain _ ((getX_some h.rising).1 hg)).2 (ho cs hg)
  · exact h.chain e he
theorem Good.nil : Good [] := ⟨List.Pairwise.nil, fun e he => (by cases he)⟩
/-- the last one decides -/
theorem over_last {cs : Chain} {u : Ver} {t : Sp} (h : Ris (cs ++ [u])) (hu : u.s.lt t = true) : ∀ v ∈ cs ++ [u], v.s.lt t = true := fun v hv => by
  rcases List.mem_append.1 hv with hv | hv
  · exact Sp.trans ((List.pairwise_append.1 h).2.2 v hv u (by simp)) hu
  · simp at hv; subst hv; exact hu
def countM (M : Mst) : Nat := (M.map (·.2.length)).sum
theorem countM_set {M : Mst} (h : Rising M) (k : ByteArray) (cs : Chain) : countM (setX M k cs) + ((getX M k).getD []).length = countM M + cs.length := by
  induction M with
  | nil => simp [setX, countM, getX]
  | cons x M ih =>
    have h' := List.pairwise_cons.1 h
    unfold setX
    split
    · rename_i hlt
      have : getX (x :: M) k = getX M k := by unfold getX; rw [List.find?_cons_of_neg (by simpa using lt_ne hlt)]
      rw [this]
      have := ih h'.2
      simp only [countM, List.map_cons, List.sum_cons] at this ⊢
      omega
    · split
      · rename_i heq
        have : getX (x :: M) k = some x.2 := by unfold getX; rw [List.find?_cons_of_pos (by simpa using heq)]; rfl
        rw [this]; simp [countM]; omega
      · rename_i hnl hne
        have : getX (x :: M) k = none := getX_none.2 fun u hu => by
          rcases List.mem_cons.1 hu with e | e
          · exact hne (by rw [← e])
          · exact hnl (h'.1 _ e)
        rw [this]; simp [countM]; omega
theorem countM_add {M : Mst} (h : Rising M) (k : ByteArray) (v : Ver) : countM (addM M k v) = countM M + 1 := by
  have := countM_set h k ((getX M k).getD [] ++ [v])
  rw [List.length_append, List.length_singleton] at this
  unfold addM; omega

/-! ### a prune -/
def pruneM (M : Mst) (m : Sp) : Mst := M.filterMap fun e => if unseen e.2 m = e.2.length then none else some (e.1, e.2.drop (unseen e.2 m))
def goneM (M : Mst) (m : Sp) : Nat := (M.map fun e => unseen e.2 m).sum
theorem pruneM_rising {M : Mst} (h : Rising M) (m : Sp) : Rising (pruneM M m) := by
  unfold pruneM Rising
  refine List.Pairwise.filterMap _ ?_ h
  intro a a' haa b hb b' hb'
  split at hb <;> split at hb' <;> simp at hb hb'
  subst hb hb'; exact haa
theorem pruneM_good {M : Mst} (h : Good M) (m : Sp) : Good (pruneM M m) := by
  refine ⟨pruneM_rising h.rising m, fun e he => ?_⟩
  obtain ⟨x, hx, hxe⟩ := List.mem_filterMap.1 he
  split at hxe
  · cases hxe
  · rename_i hne
    injection hxe with hxe
    subst hxe
    have hl := unseen_le x.2 m
    refine ⟨fun e => ?_, List.Pairwise.drop (h.chain x hx).2⟩
    have := congrArg List.length e
    simp at this; omega
theorem pruneM_read {M : Mst} (h : Good M) {m t : Sp} (hm : t.lt m = false) : readAll (pruneM M m) t = readAll M t := by
  have hc := h.chain
  clear h
  unfold readAll pruneM
  induction M with
  | nil => rfl
  | cons x M ih =>
    have hv := prune_val (hc x (by simp)).2 hm
    rw [List.filterMap_cons]
    split
    · rename_i e
      split at e
      · rename_i hu
        rw [List.filterMap_cons]
        have hv0 : valAt x.2 t = none := by rw [← hv, hu, List.drop_length]; rfl
        rw [hv0]
        exact ih (fun e he => hc e (by simp [he]))
      · cases e
    · rename_i y e
      split at e
      · cases e
      · injection e with e
        subst e
        rw [List.filterMap_cons, List.filterMap_cons, hv, ih (fun e he => hc e (by simp [he]))]
theorem countM_prune (M : Mst) (m : Sp) : countM (pruneM M m) + goneM M m = countM M := by
  unfold countM pruneM goneM
  induction M with
  | nil => rfl
  | cons x M ih =>
    have hl := unseen_le x.2 m
    rw [List.filterMap_cons]
    split
    · rename_i e
      split at e
      · simp only [List.map_cons, List.sum_cons]; omega
      · cases e
    · rename_i y e
      split at e
      · cases e
      · injection e with e
        subst e
        simp only [List.map_cons, List.sum_cons, List.length_drop]; omega
end Go.Proofs.YtmlacdfdpdkdaaaDoor.Vs
