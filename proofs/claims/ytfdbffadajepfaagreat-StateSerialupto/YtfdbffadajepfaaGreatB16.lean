import Derived.Test.YtfdbffadajepfaaGreatB15
import Derived.Test.YtfdbffadajepfaaGreatB03
import Derived.Test.YtfdbffadajepfaaGreatB12
import Derived.Test.YtfdbffadajepfaaGreatB13
namespace Go.Proofs.YtfdbffadajepfaaGreat.Vs
open Go.RowKit Go.Sort
set_option linter.unusedVariables false

/-- the index at p, o holds the entries l -/
def Xi (w : World) (p o : Nat) (l : List En) : Prop := ∃ (T : Tr) (cs : Array Value) (t : TypeId), w.heap[p]? = some (.cells cs t (0, 0)) ∧ ¬ IxT t ∧ cs[o]? = some (.pointer T.pt) ∧ TrIn (fun _ => True) w T ∧ T.list = l ∧ Rising l
theorem Xi.rising {w : World} {p o : Nat} {l : List En} (h : Xi w p o l) : Rising l := by obtain ⟨T, cs, t, h⟩ := h; exact h.2.2.2.2.2
theorem Xi.lt {w : World} {p o : Nat} {l : List En} (h : Xi w p o l) : p < w.heap.size := by obtain ⟨T, cs, t, hb, _⟩ := h; exact (Array.getElem?_eq_some_iff.1 hb).1
theorem Xi.keepC {w w' : World} {p o : Nat} {l : List En} (h : Xi w p o l) (k : Kp w w') (hp : ∀ cs t, w.heap[p]? = some (.cells cs t (0, 0)) → ∃ cs', w'.heap[p]? = some (.cells cs' t (0, 0)) ∧ cs'[o]? = cs[o]?) : Xi w' p o l := by
  obtain ⟨T, cs, t, hb, hi, hc, ht, hl, hr⟩ := h
  obtain ⟨cs', hb', e⟩ := hp cs t hb
  exact ⟨T, cs', t, hb', hi, e.trans hc, ht.kp k, hl, hr⟩
theorem Xi.keep {w w' : World} {p o : Nat} {l : List En} (h : Xi w p o l) (k : Kp w w') (hp : w'.heap[p]? = w.heap[p]?) : Xi w' p o l := h.keepC k fun cs t hc => ⟨cs, hp.trans hc, rfl⟩
theorem Xi.later {w w' : World} {p o : Nat} {l : List En} (h : Xi w p o l) (hb : Below w.heap.size w w') : Xi w' p o l := h.keep (Kp.of_below hb) (hb.block p h.lt)
/-- calls that change the index at p change no other block -/
theorem Kp.of_index {w w' : World} {p : Nat} {cs : Array Value} {t : TypeId} {z : Nat × Nat} (h : Onl (fun b => b = p) w w') (hb : w.heap[p]? = some (.cells cs t z)) (hi : ¬ IxT t) : Kp w w' :=
  Kp.of_onl h fun b cs' t' z' hf ho ht => by
    subst hf
    rw [hb] at ho
    cases ho
    exact hi ht
theorem Xi.kp {w w' : World} {p o : Nat} {l : List En} (h : Xi w p o l) (ho : Onl (fun b => b = p) w w') : Kp w w' := by obtain ⟨T, cs, t, hb, hi, _⟩ := h; exact Kp.of_index ho hb hi
theorem Xi.other {w w' : World} {p o q o' : Nat} {l m : List En} (h : Xi w p o l) (k : Xi w q o' m) (ho : Onl (fun b => b = q) w w') (hne : p ≠ q) : Xi w' p o l := h.keep (k.kp ho) (ho.block p h.lt hne)
theorem Xi.put {w : World} {p o : Nat} {cs : Array Value} {t : TypeId} {T T' : Tr} {l : List En} (hb : w.heap[p]? = some (.cells cs t (0, 0))) (hi : ¬ IxT t) (hc : cs[o]? = some (.pointer T.pt)) (ht : TrIn (fun _ => True) w T') (hl : T'.list = l) (hr : Rising l) : Xi (w.setCell ⟨p, o, none⟩ (.pointer T'.pt)) p o l := by
  refine ⟨T', _, t, heap_put _ hb, hi, ?_, ht.kp (Kp.of_index (Onl.set (F := fun b => b = p) (Onl.refl _ _) rfl _ _) hb hi), hl, hr⟩
  have hlt := (Array.getElem?_eq_some_iff.1 hc).1
  simp [hlt]

theorem setX_length {l : List En} (h : Rising l) (k : ByteArray) (v : Hd) : (setX l k v).length = l.length + (if (getX l k).isSome then 0 else 1) := by
  induction l with
  | nil => rfl
  | cons x l ih =>
    have h' := List.pairwise_cons.1 h
    unfold setX
    split
    · rename_i hlt
      have : getX (x :: l) k = getX l k := by unfold getX; rw [List.find?_cons_of_neg (by simpa using lt_ne hlt)]
      rw [this, List.length_cons, ih h'.2, List.length_cons]; omega
    · split
      · rename_i heq
        have : getX (x :: l) k = some x.2 := by unfold getX; rw [List.find?_cons_of_pos (by simpa using heq)]; rfl
        rw [this]; simp
      · rename_i hnl hne
        have : getX (x :: l) k = none := getX_none.2 fun u hu => by
          rcases List.mem_cons.1 hu with e | e
          · exact hne (by rw [← e])
          · have h3 := h'.1 _ e
            exact hnl h3
        rw [this]; simp
theorem setX_more {l : List En} (h : Rising l) (k : ByteArray) (v : Hd) : decide (l.length < (setX l k v).length) = (getX l k).isNone := by
  rw [setX_length h]
  cases getX l k <;> simp

theorem len_is {w : World} {p o : Nat} {l : List En} (h : Xi w p o l) :
    Calls Tryz.prog 177 #[.pointer (some ⟨p, o, none⟩)] w fun e w' => e = .returned (.int .i64 (l.length : Int)) ∧ w' = w := by
  obtain ⟨T, cs, t, hb, hix, hcs, ht, rfl, hr⟩ := h
  have c0 : w.cell? ⟨p, o, none⟩ = some (.pointer T.pt) := cell_of_obj hb hcs
  have hc := hid (count_is ht)
  rw [Tr.len]
  obtain ⟨m, hm⟩ : ∃ m, m = T.n := ⟨_, rfl⟩
  rw [← hm] at hc ⊢
  clear ht hr hb hix hcs hm
  go_enter Tryz.func177, Tryz.ntmps177
  go_wp2_with (go_at_call 213; refine hc.out.mono ?_; rintro e w' ⟨rfl, rfl⟩)
  go_ret
  exact ⟨rfl, rfl⟩
/-- what Get answers -/
def hdv (o : Option Hd) : Value := o.elim (.slice none 0 0) fun v => .slice (some ⟨v.g, 0, none⟩) v.n v.cap
def gotX (o : Option Hd) : Value := .tuple #[hdv o, .bool o.isSome]
theorem get_is {w : World} {p o : Nat} {l : List En} (h : Xi w p o l) (key : ByteArray) :
    Calls Tryz.prog 129 #[.pointer (some ⟨p, o, none⟩), .string key] w fun e w' => e = .returned (gotX (getX l key)) ∧ w' = w := by
  obtain ⟨T, cs, t, hb, hix, hcs, ht, rfl, hr⟩ := h
  have c0 : w.cell? ⟨p, o, none⟩ = some (.pointer T.pt) := cell_of_obj hb hcs
  have hf := hid (find_is key ht)
  have hv := Tr.find_is T key hr
  have htf := ht.find key
  rw [← hv]
  cases hF : T.find key with
  | nil =>
    rw [hF] at hf
    simp only [Tr.pt] at hf
    clear ht hr hb hix hcs hF htf hv
    go_enter Tryz.func129, Tryz.ntmps129
    go_wp2_with (go_at_call 172; refine hf.out.mono ?_; rintro e w' ⟨rfl, rfl⟩)
    go_ret2
    exact ⟨rfl, rfl⟩
  | node b k v tl tr =>
    rw [hF] at hf htf
    simp only [Tr.pt] at hf
    have n1 := htf.2.2.1
    clear ht hr hb hix hcs hF htf hv
    go_enter Tryz.func129, Tryz.ntmps129
    go_wp2_with (go_at_call 172; refine hf.out.mono ?_; rintro e w' ⟨rfl, rfl⟩)
    go_ret2
    exact ⟨rfl, rfl⟩
theorem set_is {w : World} {p o : Nat} {l : List En} (h : Xi w p o l) (key : ByteArray) (v : Hd) (hn : l.length + 1 ≤ 1152921504606846976) :
    Calls Tryz.prog 133 #[.pointer (some ⟨p, o, none⟩), .string key, .slice (some ⟨v.g, 0, none⟩) v.n v.cap] w fun e w' => e = .returned (.bool (getX l key).isNone) ∧ Xi w' p o (setX l key v) ∧ Onl (fun b => b = p) w w' ∧ Part p o 1 w w' := by
  have hl0 := hid (len_is h)
  obtain ⟨T, cs, t, hb, hix, hcs, ht, rfl, hr⟩ := h
  have c0 : w.cell? ⟨p, o, none⟩ = some (.pointer T.pt) := cell_of_obj hb hcs
  have f0 : w.frozen? ⟨p, o, none⟩ = false := by simp [World.frozen?, hb]
  have HW : Hid (Calls Tryz.prog 178 #[.pointer T.pt, .string key, .slice (some ⟨v.g, 0, none⟩) v.n v.cap] w fun e w' => ∃ T' : Tr, e = .returned (.pointer T'.pt) ∧ w'.cell? ⟨p, o, none⟩ = some (.pointer T.pt) ∧ w'.frozen? ⟨p, o, none⟩ = false ∧ Hid (Xi (w'.setCell ⟨p, o, none⟩ (.pointer T'.pt)) p o (setX T.list key v)) ∧ Hid (Below w.heap.size w w') ∧
      Calls Tryz.prog 177 #[.pointer (some ⟨p, o, none⟩)] (w'.setCell ⟨p, o, none⟩ (.pointer T'.pt)) fun e w2 => e = .returned (.int .i64 ((setX T.list key v).length : Int)) ∧ w2 = w'.setCell ⟨p, o, none⟩ (.pointer T'.pt)) :=
    (with_is key v T (fun _ => True) w (fun _ _ => trivial) ht hr (by rw [← Tr.len]; exact hn)).mono fun e w' ⟨T', he, t', hl', hb'⟩ => by
      have hbx : w'.heap[p]? = some (.cells cs t (0, 0)) := (hb'.block p (Array.getElem?_eq_some_iff.1 hb).1).trans hb
      have hx : Xi (w'.setCell ⟨p, o, none⟩ (.pointer T'.pt)) p o (setX T.list key v) := Xi.put hbx hix hcs t' hl' (setX_rising hr _ _)
      exact ⟨T', he, cell_of_obj hbx hcs, by simp [World.frozen?, hbx], hx, hb', len_is hx⟩
  have hm := setX_more hr key v
  obtain ⟨n1, h1⟩ : ∃ n, n = T.list.length := ⟨_, rfl⟩
  obtain ⟨n2, h2⟩ : ∃ n, n = (setX T.list key v).length := ⟨_, rfl⟩
  rw [← h1] at hl0 hm
  rw [← h2] at hm HW
  clear h1 h2 hn ht hr hb hix hcs
  go_enter Tryz.func133, Tryz.ntmps133
  go_wp2_with (first
    | (go_at_call 177; refine hl0.out.mono ?_; clear hl0; rintro e w1 ⟨rfl, rfl⟩)
    | (go_at_call 178; refine HW.out.mono ?_; rintro e w2 ⟨T', rfl, d0, g0, hx, hb2, hl2⟩)
    | (go_at_call 177; refine hl2.mono ?_; rintro e w3 ⟨rfl, rfl⟩))
  go_ret
  exact ⟨by rw [← hm]; rfl, hx.out, Onl.set (F := fun b => b = p) (Onl.of_below hb2.out) rfl _ _, (Part.below hb2.out).trans (Part.set _ _ _ _)⟩
theorem del_is {w : World} {p o : Nat} {l : List En} (h : Xi w p o l) (key : ByteArray) (hn : l.length + 1 ≤ 1152921504606846976) :
    Calls Tryz.prog 132 #[.pointer (some ⟨p, o, none⟩), .string key] w fun e w' => e = .returned (.bool (getX l key).isSome) ∧ Xi w' p o (delX l key) ∧ Onl (fun b => b = p) w w' ∧ Part p o 1 w w' := by
  have hX := hid h
  obtain ⟨T, cs, t, hb, hix, hcs, ht, rfl, hr⟩ := h
  have c0 : w.cell? ⟨p, o, none⟩ = some (.pointer T.pt) := cell_of_obj hb hcs
  have f0 : w.frozen? ⟨p, o, none⟩ = false := by simp [World.frozen?, hb]
  have hf := hid (find_is key ht)
  have hv := Tr.find_is T key hr
  cases hF : T.find key with
  | nil =>
    rw [hF] at hf hv
    simp only [Tr.pt] at hf
    have hg : getX T.list key = none := hv.symm
    have hd : delX T.list key = T.list := delX_none fun e he e' => getX_none.1 hg e.2 (by rw [← e']; exact he)
    rw [hg, hd]
    clear ht hr hb hix hcs hF hv hd hg
    go_enter Tryz.func132, Tryz.ntmps132
    go_wp2_with (go_at_call 172; refine hf.out.mono ?_; rintro e w' ⟨rfl, rfl⟩)
    go_ret
    exact ⟨rfl, hX.out, Onl.refl _ _, Part.refl _ _ _ _⟩
  | node b k v tl tr =>
    rw [hF] at hf hv
    simp only [Tr.pt] at hf
    have hg : getX T.list key = some v := hv.symm
    have HW : Hid (Calls Tryz.prog 176 #[.pointer T.pt, .string key] w fun e w' => ∃ T' : Tr, e = .returned (.pointer T'.pt) ∧ w'.cell? ⟨p, o, none⟩ = some (.pointer T.pt) ∧ w'.frozen? ⟨p, o, none⟩ = false ∧ Hid (Xi (w'.setCell ⟨p, o, none⟩ (.pointer T'.pt)) p o (delX T.list key)) ∧ Hid (Below w.heap.size w w')) :=
      (without_is T key (fun _ => True) w (fun _ _ => trivial) ht hr (by rw [← Tr.len]; exact hn) (by rw [hg]; rfl)).mono fun e w' ⟨T', he, t', hl', hb'⟩ => by
        have hbx : w'.heap[p]? = some (.cells cs t (0, 0)) := (hb'.block p (Array.getElem?_eq_some_iff.1 hb).1).trans hb
        have hx : Xi (w'.setCell ⟨p, o, none⟩ (.pointer T'.pt)) p o (delX T.list key) := Xi.put hbx hix hcs t' hl' (delX_rising hr _)
        exact ⟨T', he, cell_of_obj hbx hcs, by simp [World.frozen?, hbx], hx, hb'⟩
    rw [hg]
    clear ht hr hb hix hcs hF hv hg hX
    go_enter Tryz.func132, Tryz.ntmps132
    go_wp2_with (first
      | (go_at_call 172; refine hf.out.mono ?_; rintro e w' ⟨rfl, rfl⟩)
      | (go_at_call 176; refine HW.out.mono ?_; rintro e w2 ⟨T', rfl, d0, g0, hx, hb2⟩))
    go_ret
    exact ⟨rfl, hx.out, Onl.set (F := fun b => b = p) (Onl.of_below hb2.out) rfl _ _, (Part.below hb2.out).trans (Part.set _ _ _ _)⟩

end Go.Proofs.YtfdbffadajepfaaGreat.Vs
namespace Go.Proofs.YtfdbffadajepfaaGreat.Vs
open Go.RowKit Go.Sort Go.Shelf
set_option linter.unusedVariables false

theorem Loops.box {α : Type} {f : α → En} {l N : Nat} {J Jx : List α → World → Prop} (H : Loops f l N J Jx) {pre : List α} {W : World} (hJ : J pre W) (o : Obj) : J pre (W.alloc o) := H.later _ _ _ hJ (Below.al (Below.refl _ W) o)
set_option maxHeartbeats 1000000 in
theorem up_nil {α : Type} {f : α → En} {l N : Nat} {J Jx : List α → World → Prop} (H : Loops f l N J Jx) {lo hi : ByteArray} {pre : List α} {W : World} (hJ : J pre W) :
    Calls Tryz.prog 73 #[.pointer none, .agg #[.string lo, .string hi], .func (.yield l) #[] #[]] W (Ran J Jx pre [] W) := by
  have h1 := hid (H.box hJ (.cells #[.string lo, .string hi] 25))
  clear H hJ
  go_enter Tryz.func73, Tryz.ntmps73
  go_wp2_with fail
  go_ret
  exact ⟨true, rfl, fun _ => ⟨by simpa using h1.out, Kp.of_below (Below.al (Below.refl _ _) _)⟩, fun e => (by cases e)⟩
theorem up_is {α : Type} {f : α → En} {l N : Nat} {J Jx : List α → World → Prop} (H : Loops f l N J Jx) (lo hi : ByteArray) (T : Tr) : ∀ (pre ys : List α) (W : World), TrIn (fun _ => True) W T → Rising T.list → ys.map f = rangeX T.list lo hi → J pre W → pre.length + ys.length ≤ N →
    Calls Tryz.prog 73 #[.pointer T.pt, .agg #[.string lo, .string hi], .func (.yield l) #[] #[]] W (Ran J Jx pre ys W) := by
  induction T with
  | nil =>
    intro pre ys W _ _ hys hJ _
    obtain rfl : ys = [] := by simpa [Tr.list, rangeX] using hys
    exact up_nil H hJ
  | node b k v tl tr ihl ihr =>
    intro pre ys W ht hR hys hJ hN
    obtain ⟨hRl, hRr, hkl, hkr⟩ := rising_parts hR
    have htl := ht.2.2.2.2.2.2.1
    have htr := ht.2.2.2.2.2.2.2
    rw [Tr.list, range_node] at hys
    cases hf : fromB lo k with
    | true =>
      cases hu : underB hi k with
      | true =>
        rw [inS_is, hf, hu] at hys
        obtain ⟨y1, y2, y3, rfl, e1, e2, e3⟩ := map_parts hys
        obtain ⟨y, rfl, ey⟩ := map_one e2
        simp only [List.length_append, List.length_cons, List.length_nil] at hN
        exact up_tt H ht hf hu ey hJ (by simp only [List.length_append]; omega) (fun W' k' hJ' => ihl pre y1 W' (htl.kp k') hRl e1 hJ' (by omega))
          (fun W' k' hJ' => ihr (pre ++ y1 ++ [y]) y3 W' (htr.kp k') hRr e3 hJ' (by simp only [List.length_append, List.length_cons, List.length_nil]; omega))
      | false =>
        rw [inS_is, hf, hu, range_right hkr hu] at hys
        simp only [Bool.and_false, Bool.false_eq_true, if_false, List.append_nil] at hys
        exact up_tf H ht hf hu hJ (fun W' k' hJ' => ihl pre ys W' (htl.kp k') hRl hys hJ' hN)
    | false =>
      rw [inS_is, hf, range_left hkl hf] at hys
      simp only [Bool.false_and, Bool.false_eq_true, if_false, List.append_nil, List.nil_append] at hys
      cases hu : underB hi k with
      | true => exact up_ft H ht hf hu hJ (fun W' k' hJ' => ihr pre ys W' (htr.kp k') hRr hys hJ' hN)
      | false =>
        rw [range_right hkr hu] at hys
        obtain rfl : ys = [] := by simpa using hys
        exact up_ff H ht hf hu hJ
/-- an iterator over the entries l, in a span: the root's box, the span's box -/
structure It (w : World) (R B : Nat) (l : List En) (lo hi : ByteArray) : Prop where
  tree : ∃ T : Tr, Boxed w R 75 (.pointer T.pt) ∧ TrIn (fun _ => True) w T ∧ T.list = l
  span : w.heap[B]? = some (.cells #[.string lo, .string hi] 25 (0, 0))
  rising : Rising l
theorem It.kp {w w' : World} {R B : Nat} {l : List En} {lo hi : ByteArray} (h : It w R B l lo hi) (k : Kp w w') : It w' R B l lo hi := by
  obtain ⟨⟨T, hb, ht, hl⟩, hs, hr⟩ := h
  exact ⟨⟨T, k.2 R _ _ _ (.inr (.inr rfl)) hb, ht.kp k, hl⟩, k.2 B _ _ _ (.inr (.inl rfl)) hs, hr⟩
theorem It.later {w w' : World} {R B : Nat} {l : List En} {lo hi : ByteArray} (h : It w R B l lo hi) (hb : Below w.heap.size w w') : It w' R B l lo hi := h.kp (Kp.of_below hb)
abbrev itv (f R B : Nat) : Value := .func (.func f) #[] #[.pointer (some ⟨R, 0, none⟩), .pointer (some ⟨B, 0, none⟩)]
theorem it_new {w : World} {lo hi : ByteArray} {T : Tr} (ht : TrIn (fun _ => True) w T) (hr : Rising T.list) :
    It ((w.alloc (.cells #[.string lo, .string hi] 25)).alloc (.cells #[.pointer T.pt] 75)) (w.heap.size + 1) w.heap.size T.list lo hi ∧
    Below w.heap.size w ((w.alloc (.cells #[.string lo, .string hi] 25)).alloc (.cells #[.pointer T.pt] 75)) := by
  have hb : Below w.heap.size w ((w.alloc (.cells #[.string lo, .string hi] 25)).alloc (.cells #[.pointer T.pt] 75)) := Below.al (Below.al (Below.refl _ _) _) _
  have b1 := Boxed.new (w.alloc (.cells #[.string lo, .string hi] 25)) 75 (.pointer T.pt)
  rw [World.size_alloc] at b1
  have s1 := box_new w lo hi
  have s2 := (Below.heap_alloc (w.alloc (.cells #[.string lo, .string hi] 25)) (.cells #[.pointer T.pt] 75) w.heap.size (by simp)).trans s1
  exact ⟨⟨⟨T, b1, ht.later hb, rfl⟩, s2, hr⟩, hb⟩

theorem range_is {w : World} {p o : Nat} {l : List En} (h : Xi w p o l) (lo hi : ByteArray) :
    Calls Tryz.prog 42 #[.pointer (some ⟨p, o, none⟩), .agg #[.string lo, .string hi]] w fun e w' => ∃ R B, e = .returned (itv 72 R B) ∧ It w' R B l lo hi ∧ Below w.heap.size w w' ∧ w.heap.size ≤ R ∧ w.heap.size ≤ B := by
  obtain ⟨T, cs, t, hb, hix, hcs, ht, rfl, hr⟩ := h
  have c0 : (w.alloc (.cells #[.string lo, .string hi] 25)).cell? ⟨p, o, none⟩ = some (.pointer T.pt) := cell_later (Below.al (Below.refl _ _) _) (cell_of_obj hb hcs)
  have hi' := hid (it_new (lo := lo) (hi := hi) ht hr)
  have hp := (Array.getElem?_eq_some_iff.1 hb).1
  clear ht hr hb hix hcs
  go_enter Tryz.func42, Tryz.ntmps42
  go_wp2_with fail
  go_ret
  exact ⟨_, _, rfl, hi'.out.1, hi'.out.2, by simp, by simp⟩
theorem range1_is {α : Type} {f : α → En} {l N : Nat} {J Jx : List α → World → Prop} (H : Loops f l N J Jx) {R B : Nat} {xs : List En} {lo hi : ByteArray} {ys : List α} {W : World} (h : It W R B xs lo hi) (hys : ys.map f = rangeX xs lo hi) (hJ : J [] W) (hN : ys.length ≤ N) :
    Calls Tryz.prog 72 #[.func (.yield l) #[] #[], .pointer (some ⟨R, 0, none⟩), .pointer (some ⟨B, 0, none⟩)] W fun e W' => (∃ v, e = .returned v) ∧ (J ys W' ∨ ∃ q, q <+: ys ∧ Jx q W') := by
  obtain ⟨⟨T, hb, ht, rfl⟩, hs, hr⟩ := h
  have c0 := hb.cell
  have d0 : W.cell? ⟨B, 0, none⟩ = some (.string lo) := cell_of_obj hs rfl
  have d1 : W.cell? ⟨B, 1, none⟩ = some (.string hi) := cell_of_obj hs rfl
  have hu := hid (up_is H lo hi T [] ys W ht hr hys hJ (by simpa using hN))
  clear hb ht hr hs hys hJ hN H
  go_enter Tryz.func72, Tryz.ntmps72
  go_wp2_with (go_at_call 73; refine hu.out.mono ?_; rintro e w1 ⟨u, rfl, t1, t2⟩)
  go_end0
  refine ⟨⟨_, rfl⟩, ?_⟩
  cases u with
  | true => exact .inl (by simpa using (t1 rfl).1)
  | false => obtain ⟨q, hq, hx⟩ := t2 rfl; exact .inr ⟨q, hq, by simpa using hx⟩
/-- what a loop over xs is handed: entries of xs -/
abbrev Of (xs : List En) : Type := { e : En // e ∈ xs }
abbrev encs (xs : List En) : Of xs → Array Value := fun x => #[.string x.1.1, .slice (some ⟨x.1.2.g, 0, none⟩) x.1.2.n x.1.2.cap]
theorem loops_of {xs : List En} {n l : Nat} {J Jx : List (Of xs) → World → Prop} {W0 : World} (hJ : AbidesFrom W0.heap.size J)
    (hY : ∀ pre x W1, J pre W1 → pre.length < xs.length → YieldAt Fence.wide n Tryz.prog l (encs xs x) W1 fun e W' =>
      (e = .returned (.bool true) ∧ J (pre ++ [x]) W' ∧ Kp W1 W') ∨ (e = .returned (.bool false) ∧ Jx (pre ++ [x]) W')) :
    Loops (fun x : Of xs => x.1) l xs.length J Jx :=
  ⟨fun m pre x W hj hl => YieldAt.anyD m (YieldAt.mono (hY pre x W hj hl) fun e W' h => h.elim (fun ⟨he, h1, h2⟩ => ⟨true, he, fun _ => ⟨h1, h2⟩, fun e => (by cases e)⟩) (fun ⟨he, h1⟩ => ⟨false, he, fun e => (by cases e), fun _ => h1⟩)),
   fun pre W W' hj hb => hJ pre W W' none hj ⟨hb.os, hb.tape, hb.output, hb.size, fun k hk _ => hb.block k hk⟩ (fun r e => by cases e)⟩
theorem attach_val (xs : List En) : xs.attach.map (fun x : Of xs => x.1) = xs := List.attach_map_subtype_val xs
/-- **a loop over Range** -/
theorem range_stops {w : World} {R B : Nat} {l : List En} {lo hi : ByteArray} (n : Nat) (h : It w R B l lo hi) :
    SeqStopsK Fence.wide n Tryz.prog 72 #[.pointer (some ⟨R, 0, none⟩), .pointer (some ⟨B, 0, none⟩)] (encs (rangeX l lo hi)) Kp (fun ys => ys.map (fun x => x.1) = rangeX l lo hi) (fun pre => pre.map (fun x => x.1) <+: rangeX l lo hi) (rangeX l lo hi).length w := fun y J Jx W hW hJ hJx hY h0 =>
  callsIn_wide.2 ((range1_is (loops_of hJ hY) (h.later hW) (attach_val _) h0 (by simp)).mono fun e W' ⟨hv, hh⟩ => ⟨hv, hh.imp (fun hj => ⟨_, attach_val _, hj⟩) (fun ⟨q, hq, hx⟩ => ⟨q, by have := hq.map (fun x : Of (rangeX l lo hi) => x.1); rwa [attach_val] at this, hx⟩)⟩)
/-- the law's own book-keeping keeps it -/
theorem kp_t {A B C : World} (h : Kp A B) (k : Kp B C) : Kp A C := h.trans k
theorem kp_b {w : World} (W : World) (l : Nat) (o o' : Obj) (_ : w.heap.size ≤ l) (h : W.heap[l]? = some o) (ho : o.isCells = false) (_ : o.isWalk = false) : Kp W (W.putObj l o') :=
  ⟨by simp, fun b cs t z _ hb => (World.putObj_heap_other (fun e => by subst e; rw [hb] at h; cases h; cases ho)).trans hb⟩

end Go.Proofs.YtfdbffadajepfaaGreat.Vs
