import Derived.Test.YtdllhkjdckcgmaaDoorIWith
namespace Go.Proofs.YtdllhkjdckcgmaaDoor
open Go.RowKit Go.Sort
set_option linter.unusedVariables false

/-- the index at p holds the entries l -/
def Xi (w : World) (p : Nat) (l : List En) : Prop := ∃ T : Tr, Boxed w p 53 (.pointer T.pt) ∧ TrIn (fun _ => True) w T ∧ T.list = l ∧ Rising l
theorem Xi.rising {w : World} {p : Nat} {l : List En} (h : Xi w p l) : Rising l := h.choose_spec.2.2.2
theorem Xi.lt {w : World} {p : Nat} {l : List En} (h : Xi w p l) : p < w.heap.size := by obtain ⟨T, hb, _⟩ := h; exact hb.lt
theorem Xi.keep {w w' : World} {p : Nat} {l : List En} (h : Xi w p l) (k : Kp w w') (hp : w'.heap[p]? = w.heap[p]?) : Xi w' p l := by
  obtain ⟨T, hb, ht, hl, hr⟩ := h
  exact ⟨T, hp.trans hb, ht.kp k, hl, hr⟩
theorem Xi.later {w w' : World} {p : Nat} {l : List En} (h : Xi w p l) (hb : Below w.heap.size w w') : Xi w' p l := h.keep (Kp.of_below hb) (hb.block p h.lt)
/-- calls that change the index at p change no other block -/
theorem Kp.of_index {w w' : World} {p : Nat} {v : Value} (h : Onl (fun b => b = p) w w') (hb : Boxed w p 53 v) : Kp w w' :=
  Kp.of_onl h fun b cs t z hf ho ht => by
    subst hf
    rw [show w.heap[b]? = _ from hb] at ho
    cases ho
    rcases ht with e | e | e <;> exact absurd e (by decide)
theorem Xi.box {w : World} {p : Nat} {l : List En} (h : Xi w p l) : ∃ v, Boxed w p 53 v := by obtain ⟨T, hb, _⟩ := h; exact ⟨_, hb⟩
theorem Xi.kp {w w' : World} {p : Nat} {l : List En} (h : Xi w p l) (ho : Onl (fun b => b = p) w w') : Kp w w' := by obtain ⟨v, hb⟩ := h.box; exact Kp.of_index ho hb
/-- another index -/
theorem Xi.other {w w' : World} {p q : Nat} {l m : List En} (h : Xi w p l) (k : Xi w q m) (ho : Onl (fun b => b = q) w w') (hne : p ≠ q) : Xi w' p l := h.keep (k.kp ho) (ho.block p h.lt hne)

theorem setX_length {l : List En} (h : Rising l) (k : ByteArray) (v : Int) : (setX l k v).length = l.length + (if (getX l k).isSome then 0 else 1) := by
  induction l with
  | nil => rfl
  | cons x l ih =>
    have h' := List.pairwise_cons.1 h
    unfold setX
    split
    · rename_i hlt
      have : getX (x :: l) k = getX l k := by unfold getX; rw [List.find?_cons_of_neg (by simpa using lt_ne hlt)]
      rw [this, List.length_cons, ih h'.2, List.length_cons]; omega
    · split
      · rename_i heq
        have : getX (x :: l) k = some x.2 := by unfold getX; rw [List.find?_cons_of_pos (by simpa using heq)]; rfl
        rw [this]; simp
      · rename_i hnl hne
        have : getX (x :: l) k = none := getX_none.2 fun u hu => by
          rcases List.mem_cons.1 hu with e | e
          · exact hne (by rw [← e])
          · have h3 := h'.1 _ e
            exact hnl h3
        rw [this]; simp
theorem setX_more {l : List En} (h : Rising l) (k : ByteArray) (v : Int) : decide (l.length < (setX l k v).length) = (getX l k).isNone := by
  rw [setX_length h]
  cases getX l k <;> simp

theorem new_is (w : World) : Calls Tryd.prog 16 #[] w fun e w' => e = .returned (.pointer (some ⟨w.heap.size, 0, none⟩)) ∧ Xi w' w.heap.size [] ∧ Below w.heap.size w w' := by
  go_enter Tryd.func16, Tryd.ntmps16
  go_wp2_with fail
  go_ret
  exact ⟨rfl, ⟨.nil, Boxed.new _ _ _, trivial, rfl, List.Pairwise.nil⟩, Below.al (Below.refl _ _) _⟩
theorem len_is {w : World} {p : Nat} {l : List En} (h : Xi w p l) :
    Calls Tryd.prog 18 #[.pointer (some ⟨p, 0, none⟩)] w fun e w' => e = .returned (.int .i64 (l.length : Int)) ∧ w' = w := by
  obtain ⟨T, hb, ht, rfl, hr⟩ := h
  have c0 := hb.cell
  have hc := hid (count_is ht)
  rw [Tr.len]
  obtain ⟨m, hm⟩ : ∃ m, m = T.n := ⟨_, rfl⟩
  rw [← hm] at hc ⊢
  clear ht hr hb hm
  go_enter Tryd.func18, Tryd.ntmps18
  go_wp2_with (go_at_call 34; refine hc.out.mono ?_; rintro e w' ⟨rfl, rfl⟩)
  go_ret
  exact ⟨rfl, rfl⟩
/-- what Get answers -/
def gotX (o : Option Int) : Value := .tuple #[.int .i64 (o.getD 0), .bool o.isSome]
theorem get_is {w : World} {p : Nat} {l : List En} (h : Xi w p l) (key : ByteArray) :
    Calls Tryd.prog 24 #[.pointer (some ⟨p, 0, none⟩), .string key] w fun e w' => e = .returned (gotX (getX l key)) ∧ w' = w := by
  obtain ⟨T, hb, ht, rfl, hr⟩ := h
  have c0 := hb.cell
  have hf := hid (find_is key ht)
  have hv := Tr.find_is T key hr
  have htf := ht.find key
  rw [← hv]
  cases hF : T.find key with
  | nil =>
    rw [hF] at hf
    simp only [Tr.pt] at hf
    clear ht hr hb hF htf hv
    go_enter Tryd.func24, Tryd.ntmps24
    go_wp2_with (go_at_call 36; refine hf.out.mono ?_; rintro e w' ⟨rfl, rfl⟩)
    go_ret2
    exact ⟨rfl, rfl⟩
  | node b k v tl tr =>
    rw [hF] at hf htf
    simp only [Tr.pt] at hf
    have n1 := htf.2.2.1
    clear ht hr hb hF htf hv
    go_enter Tryd.func24, Tryd.ntmps24
    go_wp2_with (go_at_call 36; refine hf.out.mono ?_; rintro e w' ⟨rfl, rfl⟩)
    go_ret2
    exact ⟨rfl, rfl⟩
theorem set_is {w : World} {p : Nat} {l : List En} (h : Xi w p l) (key : ByteArray) (v : Int) (hn : l.length + 1 ≤ 1152921504606846976) :
    Calls Tryd.prog 5 #[.pointer (some ⟨p, 0, none⟩), .string key, .int .i64 v] w fun e w' => e = .returned (.bool (getX l key).isNone) ∧ Xi w' p (setX l key v) ∧ Onl (fun b => b = p) w w' := by
  have hl0 := hid (len_is h)
  obtain ⟨T, hb, ht, rfl, hr⟩ := h
  have c0 := hb.cell
  have f0 := hb.frozen
  have HW : Hid (Calls Tryd.prog 19 #[.pointer T.pt, .string key, .int .i64 v] w fun e w' => ∃ T' : Tr, e = .returned (.pointer T'.pt) ∧ w'.cell? ⟨p, 0, none⟩ = some (.pointer T.pt) ∧ w'.frozen? ⟨p, 0, none⟩ = false ∧ Hid (Xi (w'.setCell ⟨p, 0, none⟩ (.pointer T'.pt)) p (setX T.list key v)) ∧ Hid (Below w.heap.size w w') ∧
      Calls Tryd.prog 18 #[.pointer (some ⟨p, 0, none⟩)] (w'.setCell ⟨p, 0, none⟩ (.pointer T'.pt)) fun e w2 => e = .returned (.int .i64 ((setX T.list key v).length : Int)) ∧ w2 = w'.setCell ⟨p, 0, none⟩ (.pointer T'.pt)) :=
    (with_is key v T (fun _ => True) w (fun _ _ => trivial) ht hr (by rw [← Tr.len]; exact hn)).mono fun e w' ⟨T', he, t', hl', hb'⟩ => by
      have hbx : Boxed w' p 53 (.pointer T.pt) := (hb'.block p hb.lt).trans hb
      have hx : Xi (w'.setCell ⟨p, 0, none⟩ (.pointer T'.pt)) p (setX T.list key v) := ⟨T', hbx.set _, t'.kp (Kp.of_index (Onl.set (F := fun b => b = p) (Onl.refl _ _) rfl _ _) hbx), hl', setX_rising hr _ _⟩
      exact ⟨T', he, hbx.cell, hbx.frozen, hx, hb', len_is hx⟩
  have hm := setX_more hr key v
  obtain ⟨n1, h1⟩ : ∃ n, n = T.list.length := ⟨_, rfl⟩
  obtain ⟨n2, h2⟩ : ∃ n, n = (setX T.list key v).length := ⟨_, rfl⟩
  rw [← h1] at hl0 hm
  rw [← h2] at hm HW
  clear h1 h2 hn ht hr hb
  go_enter Tryd.func5, Tryd.ntmps5
  go_wp2_with (first
    | (go_at_call 18; refine hl0.out.mono ?_; clear hl0; rintro e w1 ⟨rfl, rfl⟩)
    | (go_at_call 19; refine HW.out.mono ?_; rintro e w2 ⟨T', rfl, d0, g0, hx, hb2, hl2⟩)
    | (go_at_call 18; refine hl2.mono ?_; rintro e w3 ⟨rfl, rfl⟩))
  go_ret
  exact ⟨by rw [← hm]; rfl, hx.out, Onl.set (F := fun b => b = p) (Onl.of_below hb2.out) rfl _ _⟩
theorem del_is {w : World} {p : Nat} {l : List En} (h : Xi w p l) (key : ByteArray) (hn : l.length + 1 ≤ 1152921504606846976) :
    Calls Tryd.prog 22 #[.pointer (some ⟨p, 0, none⟩), .string key] w fun e w' => e = .returned (.bool (getX l key).isSome) ∧ Xi w' p (delX l key) ∧ Onl (fun b => b = p) w w' := by
  have hX := hid h
  obtain ⟨T, hb, ht, rfl, hr⟩ := h
  have c0 := hb.cell
  have f0 := hb.frozen
  have hf := hid (find_is key ht)
  have hv := Tr.find_is T key hr
  cases hF : T.find key with
  | nil =>
    rw [hF] at hf hv
    simp only [Tr.pt] at hf
    have hg : getX T.list key = none := hv.symm
    have hd : delX T.list key = T.list := delX_none fun e he e' => getX_none.1 hg e.2 (by rw [← e']; exact he)
    rw [hg, hd]
    clear ht hr hb hF hv hd hg
    go_enter Tryd.func22, Tryd.ntmps22
    go_wp2_with (go_at_call 36; refine hf.out.mono ?_; rintro e w' ⟨rfl, rfl⟩)
    go_ret
    exact ⟨rfl, hX.out, Onl.refl _ _⟩
  | node b k v tl tr =>
    rw [hF] at hf hv
    simp only [Tr.pt] at hf
    have hg : getX T.list key = some v := hv.symm
    have HW : Hid (Calls Tryd.prog 37 #[.pointer T.pt, .string key] w fun e w' => ∃ T' : Tr, e = .returned (.pointer T'.pt) ∧ w'.cell? ⟨p, 0, none⟩ = some (.pointer T.pt) ∧ w'.frozen? ⟨p, 0, none⟩ = false ∧ Hid (Xi (w'.setCell ⟨p, 0, none⟩ (.pointer T'.pt)) p (delX T.list key)) ∧ Hid (Below w.heap.size w w')) :=
      (without_is T key (fun _ => True) w (fun _ _ => trivial) ht hr (by rw [← Tr.len]; exact hn) (by rw [hg]; rfl)).mono fun e w' ⟨T', he, t', hl', hb'⟩ => by
        have hbx : Boxed w' p 53 (.pointer T.pt) := (hb'.block p hb.lt).trans hb
        have hx : Xi (w'.setCell ⟨p, 0, none⟩ (.pointer T'.pt)) p (delX T.list key) := ⟨T', hbx.set _, t'.kp (Kp.of_index (Onl.set (F := fun b => b = p) (Onl.refl _ _) rfl _ _) hbx), hl', delX_rising hr _⟩
        exact ⟨T', he, hbx.cell, hbx.frozen, hx, hb'⟩
    rw [hg]
    clear ht hr hb hF hv hg hX
    go_enter Tryd.func22, Tryd.ntmps22
    go_wp2_with (first
      | (go_at_call 36; refine hf.out.mono ?_; rintro e w' ⟨rfl, rfl⟩)
      | (go_at_call 37; refine HW.out.mono ?_; rintro e w2 ⟨T', rfl, d0, g0, hx, hb2⟩))
    go_ret
    exact ⟨rfl, hx.out, Onl.set (F := fun b => b = p) (Onl.of_below hb2.out) rfl _ _⟩

end Go.Proofs.YtdllhkjdckcgmaaDoor
