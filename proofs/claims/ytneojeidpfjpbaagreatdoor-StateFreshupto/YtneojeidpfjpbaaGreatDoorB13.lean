import Derived.Test.YtneojeidpfjpbaaGreatDoorB12
set_option linter.unusedVariables false
set_option maxHeartbeats 1000000
namespace Go.Proofs.YtneojeidpfjpbaaGreatDoor.Vs
open Go.RowKit Go.Sort Go.Shelf
theorem Loops.box {α : Type} {f : α → En} {l N : Nat} {J Jx : List α → World → Prop} (H : Loops f l N J Jx) {pre : List α} {W : World} (hJ : J pre W) (o : Obj) : J pre (W.alloc o) := H.later _ _ _ hJ (Below.al (Below.refl _ W) o)
theorem up_nil {α : Type} {f : α → En} {l N : Nat} {J Jx : List α → World → Prop} (H : Loops f l N J Jx) {lo hi : ByteArray} {pre : List α} {W : World} (hJ : J pre W) :
  Calls Tryz.prog 134 #[.pointer none, .agg #[.string lo, .string hi], .func (.yield l) #[] #[]] W (Ran J Jx pre [] W) := by
 have h1 := hid (H.box hJ (.cells #[.string lo, .string hi] 25)); clear H hJ; go_enter Tryz.func134, Tryz.ntmps134
 go_wp2_with fail
 go_ret
 exact ⟨true, rfl, fun _ => ⟨by simpa using h1.out, Kp.of_below (Below.al (Below.refl _ _) _)⟩, fun e => (by cases e)⟩
theorem up_is {α : Type} {f : α → En} {l N : Nat} {J Jx : List α → World → Prop} (H : Loops f l N J Jx) (lo hi : ByteArray) (T : Tr) : ∀ (pre ys : List α) (W : World), TrIn (fun _ => True) W T → Rising T.list → ys.map f = rangeX T.list lo hi → J pre W → pre.length + ys.length ≤ N →
  Calls Tryz.prog 134 #[.pointer T.pt, .agg #[.string lo, .string hi], .func (.yield l) #[] #[]] W (Ran J Jx pre ys W) := by
 induction T with
 | nil =>
  intro pre ys W _ _ hys hJ _; obtain rfl : ys = [] := by simpa [Tr.list, rangeX] using hys
  exact up_nil H hJ
 | node b k v tl tr ihl ihr =>
  intro pre ys W ht hR hys hJ hN; obtain ⟨hRl, hRr, hkl, hkr⟩ := rising_parts hR; have htl := ht.2.2.2.2.2.2.1; have htr := ht.2.2.2.2.2.2.2; rw [Tr.list, range_node] at hys; cases hf : fromB lo k with
  | true =>
   cases hu : underB hi k with
   | true =>
    rw [inS_is, hf, hu] at hys; obtain ⟨y1, y2, y3, rfl, e1, e2, e3⟩ := map_parts hys; obtain ⟨y, rfl, ey⟩ := map_one e2; simp only [List.length_append, List.length_cons, List.length_nil] at hN; exact up_tt H ht hf hu ey hJ (by simp only [List.length_append]; omega) (fun W' k' hJ' => ihl pre y1 W' (htl.kp k') hRl e1 hJ' (by omega))
     (fun W' k' hJ' => ihr (pre ++ y1 ++ [y]) y3 W' (htr.kp k') hRr e3 hJ' (by simp only [List.length_append, List.length_cons, List.length_nil]; omega))
   | false =>
    rw [inS_is, hf, hu, range_right hkr hu] at hys; simp only [Bool.and_false, Bool.false_eq_true, if_false, List.append_nil] at hys; exact up_tf H ht hf hu hJ (fun W' k' hJ' => ihl pre ys W' (htl.kp k') hRl hys hJ' hN)
  | false =>
   rw [inS_is, hf, range_left hkl hf] at hys; simp only [Bool.false_and, Bool.false_eq_true, if_false, List.append_nil, List.nil_append] at hys; cases hu : underB hi k with
   | true => exact up_ft H ht hf hu hJ (fun W' k' hJ' => ihr pre ys W' (htr.kp k') hRr hys hJ' hN)
   | false =>
    rw [range_right hkr hu] at hys; obtain rfl : ys = [] := by simpa using hys
    exact up_ff H ht hf hu hJ
structure It (w : World) (R B : Nat) (l : List En) (lo hi : ByteArray) : Prop where
 tree : ∃ T : Tr, Boxed w R 75 (.pointer T.pt) ∧ TrIn (fun _ => True) w T ∧ T.list = l
 span : w.heap[B]? = some (.cells #[.string lo, .string hi] 25 (0, 0))
 rising : Rising l
theorem It.kp {w w' : World} {R B : Nat} {l : List En} {lo hi : ByteArray} (h : It w R B l lo hi) (k : Kp w w') : It w' R B l lo hi := by
 obtain ⟨⟨T, hb, ht, hl⟩, hs, hr⟩ := h; exact ⟨⟨T, k.2 R _ _ _ (.inr (.inr rfl)) hb, ht.kp k, hl⟩, k.2 B _ _ _ (.inr (.inl rfl)) hs, hr⟩
theorem It.later {w w' : World} {R B : Nat} {l : List En} {lo hi : ByteArray} (h : It w R B l lo hi) (hb : Below w.heap.size w w') : It w' R B l lo hi := h.kp (Kp.of_below hb)
abbrev itv (f R B : Nat) : Value := .func (.func f) #[] #[.pointer (some ⟨R, 0, none⟩), .pointer (some ⟨B, 0, none⟩)]
theorem it_new {w : World} {lo hi : ByteArray} {T : Tr} (ht : TrIn (fun _ => True) w T) (hr : Rising T.list) :
  It ((w.alloc (.cells #[.string lo, .string hi] 25)).alloc (.cells #[.pointer T.pt] 75)) (w.heap.size + 1) w.heap.size T.list lo hi ∧
  Below w.heap.size w ((w.alloc (.cells #[.string lo, .string hi] 25)).alloc (.cells #[.pointer T.pt] 75)) := by
 have hb : Below w.heap.size w ((w.alloc (.cells #[.string lo, .string hi] 25)).alloc (.cells #[.pointer T.pt] 75)) := Below.al (Below.al (Below.refl _ _) _) _; have b1 := Boxed.new (w.alloc (.cells #[.string lo, .string hi] 25)) 75 (.pointer T.pt); rw [World.size_alloc] at b1; have s1 := box_new w lo hi; have s2 := (Below.heap_alloc (w.alloc (.cells #[.string lo, .string hi] 25)) (.cells #[.pointer T.pt] 75) w.heap.size (by simp)).trans s1; exact ⟨⟨⟨T, b1, ht.later hb, rfl⟩, s2, hr⟩, hb⟩
theorem range_is {w : World} {p o : Nat} {l : List En} (h : Xi w p o l) (lo hi : ByteArray) :
  Calls Tryz.prog 99 #[.pointer (some ⟨p, o, none⟩), .agg #[.string lo, .string hi]] w fun e w' => ∃ R B, e = .returned (itv 133 R B) ∧ It w' R B l lo hi ∧ Below w.heap.size w w' ∧ w.heap.size ≤ R ∧ w.heap.size ≤ B := by
 obtain ⟨T, cs, t, hb, hix, hcs, ht, rfl, hr⟩ := h; have c0 : (w.alloc (.cells #[.string lo, .string hi] 25)).cell? ⟨p, o, none⟩ = some (.pointer T.pt) := cell_later (Below.al (Below.refl _ _) _) (cell_of_obj hb hcs); have hi' := hid (it_new (lo := lo) (hi := hi) ht hr); have hp := (Array.getElem?_eq_some_iff.1 hb).1; clear ht hr hb hix hcs; go_enter Tryz.func99, Tryz.ntmps99
 go_wp2_with fail
 go_ret
 exact ⟨_, _, rfl, hi'.out.1, hi'.out.2, by simp, by simp⟩
theorem range1_is {α : Type} {f : α → En} {l N : Nat} {J Jx : List α → World → Prop} (H : Loops f l N J Jx) {R B : Nat} {xs : List En} {lo hi : ByteArray} {ys : List α} {W : World} (h : It W R B xs lo hi) (hys : ys.map f = rangeX xs lo hi) (hJ : J [] W) (hN : ys.length ≤ N) :
  Calls Tryz.prog 133 #[.func (.yield l) #[] #[], .pointer (some ⟨R, 0, none⟩), .pointer (some ⟨B, 0, none⟩)] W fun e W' => (∃ v, e = .returned v) ∧ (J ys W' ∨ ∃ q, q <+: ys ∧ Jx q W') := by
 obtain ⟨⟨T, hb, ht, rfl⟩, hs, hr⟩ := h; have c0 := hb.cell; have d0 : W.cell? ⟨B, 0, none⟩ = some (.string lo) := cell_of_obj hs rfl; have d1 : W.cell? ⟨B, 1, none⟩ = some (.string hi) := cell_of_obj hs rfl; have hu := hid (up_is H lo hi T [] ys W ht hr hys hJ (by simpa using hN)); clear hb ht hr hs hys hJ hN H; go_enter Tryz.func133, Tryz.ntmps133
 go_wp2_with (go_at_call 134; refine hu.out.mono ?_; rintro e w1 ⟨u, rfl, t1, t2⟩)
 go_end0
 refine ⟨⟨_, rfl⟩, ?_⟩; cases u with
 | true => exact .inl (by simpa using (t1 rfl).1)
 | false => obtain ⟨q, hq, hx⟩ := t2 rfl; exact .inr ⟨q, hq, by simpa using hx⟩
abbrev Of (xs : List En) : Type := { e : En // e ∈ xs }
abbrev encs (xs : List En) : Of xs → Array Value := fun x => #[.string x.1.1, .slice (some ⟨x.1.2.g, 0, none⟩) x.1.2.n x.1.2.cap]
theorem loops_of {xs : List En} {n l : Nat} {J Jx : List (Of xs) → World → Prop} {W0 : World} (hJ : AbidesFrom W0.heap.size J)
  (hY : ∀ pre x W1, J pre W1 → pre.length < xs.length → YieldAt Fence.wide n Tryz.prog l (encs xs x) W1 fun e W' =>
   (e = .returned (.bool true) ∧ J (pre ++ [x]) W' ∧ Kp W1 W') ∨ (e = .returned (.bool false) ∧ Jx (pre ++ [x]) W')) :
  Loops (fun x : Of xs => x.1) l xs.length J Jx :=
 ⟨fun m pre x W hj hl => YieldAt.anyD m (YieldAt.mono (hY pre x W hj hl) fun e W' h => h.elim (fun ⟨he, h1, h2⟩ => ⟨true, he, fun _ => ⟨h1, h2⟩, fun e => (by cases e)⟩) (fun ⟨he, h1⟩ => ⟨false, he, fun e => (by cases e), fun _ => h1⟩)),
  fun pre W W' hj hb => hJ pre W W' none hj ⟨hb.os, hb.tape, hb.output, hb.size, fun k hk _ => hb.block k hk⟩ (fun r e => by cases e)⟩
theorem attach_val (xs : List En) : xs.attach.map (fun x : Of xs => x.1) = xs := List.attach_map_subtype_val xs
theorem range_stops {w : World} {R B : Nat} {l : List En} {lo hi : ByteArray} (n : Nat) (h : It w R B l lo hi) :
  SeqStopsK Fence.wide n Tryz.prog 133 #[.pointer (some ⟨R, 0, none⟩), .pointer (some ⟨B, 0, none⟩)] (encs (rangeX l lo hi)) Kp (fun ys => ys.map (fun x => x.1) = rangeX l lo hi) (fun pre => pre.map (fun x => x.1) <+: rangeX l lo hi) (rangeX l lo hi).length w := fun y J Jx W hW hJ hJx hY h0 =>
 callsIn_wide.2 ((range1_is (loops_of hJ hY) (h.later hW) (attach_val _) h0 (by simp)).mono fun e W' ⟨hv, hh⟩ => ⟨hv, hh.imp (fun hj => ⟨_, attach_val _, hj⟩) (fun ⟨q, hq, hx⟩ => ⟨q, by have := hq.map (fun x : Of (rangeX l lo hi) => x.1); rwa [attach_val] at this, hx⟩)⟩)
theorem kp_t {A B C : World} (h : Kp A B) (k : Kp B C) : Kp A C := h.trans k
theorem kp_b {w : World} (W : World) (l : Nat) (o o' : Obj) (_ : w.heap.size ≤ l) (h : W.heap[l]? = some o) (ho : o.isCells = false) (_ : o.isWalk = false) : Kp W (W.putObj l o') :=
 ⟨by simp, fun b cs t z _ hb => (World.putObj_heap_other (fun e => by subst e; rw [hb] at h; cases h; cases ho)).trans hb⟩
def Sp.lt (s t : Sp) : Bool := lessB s.a s.b s.c t.a t.b t.c
theorem Sp.irr (s : Sp) : s.lt s = false := less_irr _ _ _
theorem Sp.trans {r s t : Sp} (h : r.lt s = true) (k : s.lt t = true) : r.lt t = true := less_trans h k
theorem Sp.le_lt {r s t : Sp} (h : s.lt r = false) (k : s.lt t = true) : r.lt t = true := by
 unfold Sp.lt at *; rw [lessB_iff_false] at h; rw [lessB_iff] at *; omega
theorem Sp.lt_le {r s t : Sp} (h : r.lt s = true) (k : t.lt s = false) : r.lt t = true := by
 unfold Sp.lt at *; rw [lessB_iff_false] at k; rw [lessB_iff] at *; omega
theorem Sp.le_trans {r s t : Sp} (h : s.lt r = false) (k : t.lt s = false) : t.lt r = false := by
 unfold Sp.lt at *; rw [lessB_iff_false] at *; omega
theorem Sp.lt_asymm {r s : Sp} (h : r.lt s = true) : s.lt r = false := by
 unfold Sp.lt at *; rw [lessB_iff_false]; rw [lessB_iff] at h; omega
abbrev Chain := List Ver
def Ris (cs : Chain) : Prop := cs.Pairwise fun x y => x.s.lt y.s = true
def low (cs : Chain) (t : Sp) : Chain := cs.filter fun v => !t.lt v.s
def upTo (cs : Chain) (t : Sp) : Nat := (low cs t).length
def valOf (o : Option Ver) : Option ByteArray := o.bind fun v => if v.del then none else some v.val
def valAt (cs : Chain) (t : Sp) : Option ByteArray := valOf (low cs t).getLast?
theorem low_append (a b : Chain) (t : Sp) : low (a ++ b) t = low a t ++ low b t := List.filter_append ..
theorem upTo_le (cs : Chain) (t : Sp) : upTo cs t ≤ cs.length := List.length_filter_le _ _
theorem low_all {cs : Chain} {t : Sp} (h : ∀ v ∈ cs, t.lt v.s = false) : low cs t = cs := List.filter_eq_self.2 fun v hv => by simp [h v hv]
theorem low_none {cs : Chain} {t : Sp} (h : ∀ v ∈ cs, t.lt v.s = true) : low cs t = [] := List.filter_eq_nil_iff.2 fun v hv => by simp [h v hv]
theorem valAt_snoc (cs : Chain) (v : Ver) (t : Sp) : valAt (cs ++ [v]) t = if t.lt v.s then valAt cs t else if v.del then none else some v.val := by
 unfold valAt; rw [low_append]; cases h : t.lt v.s with
 | true => rw [low_none (cs := [v]) (by simpa using h)]; simp
 | false => rw [low_all (cs := [v]) (by simpa using h)]; simp [valOf]
theorem low_take {cs : Chain} (h : Ris cs) (t : Sp) : low cs t = cs.take (upTo cs t) := by
 induction cs with
 | nil => rfl
 | cons x cs ih =>
  have h' := List.pairwise_cons.1 h; cases hx : t.lt x.s with
  | true =>
   have e : low (x :: cs) t = [] := low_none fun v hv => by
    rcases List.mem_cons.1 hv with rfl | hv
    ·exact hx
    ·exact Sp.trans hx (h'.1 v hv)
   simp [upTo, e]
  | false =>
   have e : low (x :: cs) t = x :: low cs t := by simp [low, hx]
   rw [upTo, e, List.length_cons, List.take_succ_cons, ← upTo, ← ih h'.2]
theorem upTo_iff {cs : Chain} (h : Ris cs) (t : Sp) {i : Nat} (hi : i < cs.length) : t.lt (cs[i]).s = true ↔ upTo cs t ≤ i := by
 induction cs generalizing i with
 | nil => simp at hi
 | cons x cs ih =>
  have h' := List.pairwise_cons.1 h; cases hx : t.lt x.s with
  | true =>
   have hall : ∀ v ∈ x :: cs, t.lt v.s = true := fun v hv => by
    rcases List.mem_cons.1 hv with rfl | hv
    ·exact hx
    ·exact Sp.trans hx (h'.1 v hv)
   have e : low (x :: cs) t = [] := low_none hall; simp only [upTo, e, List.length_nil, Nat.zero_le, iff_true]; exact hall _ (List.getElem_mem hi)
  | false =>
   have e : low (x :: cs) t = x :: low cs t := by simp [low, hx]
   rw [upTo, e, List.length_cons, ← upTo]; cases i with
   | zero => simp [hx]
   | succ i =>
    simp only [List.length_cons] at hi; rw [List.getElem_cons_succ, ih h'.2 (by omega)]; omega
theorem low_last {cs : Chain} (h : Ris cs) (t : Sp) (hn : 0 < upTo cs t) : (low cs t).getLast? = cs[upTo cs t - 1]? := by
 have hl := upTo_le cs t; rw [low_take h, List.getLast?_eq_getElem?, List.length_take, Nat.min_eq_left hl, List.getElem?_take]; simp; omega
theorem low_last0 {cs : Chain} (t : Sp) (hn : upTo cs t = 0) : (low cs t).getLast? = none := by
 have : low cs t = [] := List.length_eq_zero_iff.1 hn; rw [this]; rfl
def unseen (cs : Chain) (m : Sp) : Nat := if (low cs m).getLast?.elim true (·.del) then upTo cs m else upTo cs m - 1
theorem unseen_le (cs : Chain) (m : Sp) : unseen cs m ≤ cs.length := by have := upTo_le cs m; unfold unseen; split <;> omega
theorem prune_val {cs : Chain} (h : Ris cs) {m t : Sp} (hm : t.lt m = false) : valAt (cs.drop (unseen cs m)) t = valAt cs t := by
 have hL := low_take h m; have hlen := upTo_le cs m; have hcs : cs = low cs m ++ cs.drop (upTo cs m) := by rw [hL, List.take_append_drop]
 have hLt : low (low cs m) t = low cs m := low_all fun v hv => by
  have := (List.mem_filter.1 hv).2; exact Sp.le_trans (by simpa using this) hm
 have hval : valAt cs t = valOf ((low (cs.drop (upTo cs m)) t).getLast?.or (low cs m).getLast?) := by
  conv => lhs; rw [hcs]
  unfold valAt; rw [low_append, hLt, List.getLast?_append]
 rw [hval]; cases hg : (low cs m).getLast? with
 | none =>
  have hu : unseen cs m = upTo cs m := by unfold unseen; rw [hg]; rfl
  rw [hu]; simp [valAt]
 | some v =>
  cases hd : v.del with
  | true =>
   have hu : unseen cs m = upTo cs m := by unfold unseen; rw [hg]; simp [hd]
   rw [hu, valAt]; cases hr : (low (cs.drop (upTo cs m)) t).getLast? with
   | none => simp [valOf, hd]
   | some u => simp
  | false =>
   have hu : unseen cs m = upTo cs m - 1 := by unfold unseen; rw [hg]; simp [hd]
   have hne : low cs m ≠ [] := by intro e; rw [e] at hg; cases hg
   have hv : (low cs m).getLast hne = v := by rw [List.getLast?_eq_some_getLast hne] at hg; injection hg
   have hsp : low cs m = (low cs m).dropLast ++ [v] := by rw [← hv]; exact (List.dropLast_concat_getLast hne).symm
   have hdr : cs.drop (upTo cs m - 1) = v :: cs.drop (upTo cs m) := by
    have hn : upTo cs m - 1 = (low cs m).dropLast.length := by rw [List.length_dropLast]; rfl
    have h2 : cs = (low cs m).dropLast ++ (v :: cs.drop (upTo cs m)) := by
     have : low cs m ++ cs.drop (upTo cs m) = (low cs m).dropLast ++ (v :: cs.drop (upTo cs m)) := by
      conv => lhs; rw [hsp]
      rw [List.append_assoc]; rfl
     exact hcs.trans this
    rw [hn]; conv => lhs; rw [h2]
    rw [show (low ((low cs m).dropLast ++ (v :: cs.drop (upTo cs m))) m) = low cs m from by rw [← h2]]; exact List.drop_left
   have hvt : t.lt v.s = false := by
    have : v ∈ low cs m := by rw [hsp]; simp
    rw [← hLt] at this; simpa using (List.mem_filter.1 this).2
   rw [hu, hdr, valAt, show low (v :: cs.drop (upTo cs m)) t = [v] ++ low (cs.drop (upTo cs m)) t by simp [low, hvt], List.getLast?_append]; rfl
abbrev Mst := List (ByteArray × Chain)
abbrev Prs := List (ByteArray × ByteArray)
def readAll (M : Mst) (t : Sp) : Prs := M.filterMap fun e => (valAt e.2 t).map fun x => (e.1, x)
def readM (M : Mst) (lo hi : ByteArray) (t : Sp) : Prs := readAll (rangeX M lo hi) t
theorem readAll_mem {M : Mst} {t : Sp} {k x : ByteArray} : (k, x) ∈ readAll M t ↔ ∃ cs, (k, cs) ∈ M ∧ valAt cs t = some x := by
 unfold readAll; rw [List.mem_filterMap]; constructor
 ·rintro ⟨⟨k', cs⟩, h, e⟩; obtain ⟨y, hy, e⟩ := Option.map_eq_some_iff.1 e; injection e with e1 e2
  subst e1 e2; exact ⟨cs, h, hy⟩
 ·rintro ⟨cs, h, e⟩; exact ⟨(k, cs), h, by rw [e]; rfl⟩
theorem readAll_rising {M : Mst} (h : Rising M) (t : Sp) : Rising (readAll M t) := by
 unfold readAll Rising; refine List.Pairwise.filterMap _ ?_ h; intro a a' haa b hb b' hb'; obtain ⟨y, hy, rfl⟩ := Option.map_eq_some_iff.1 hb; obtain ⟨y', hy', rfl⟩ := Option.map_eq_some_iff.1 hb'; exact haa
def addM (M : Mst) (k : ByteArray) (v : Ver) : Mst := setX M k ((getX M k).getD [] ++ [v])
theorem addM_rising {M : Mst} (h : Rising M) (k : ByteArray) (v : Ver) : Rising (addM M k v) := setX_rising h _ _
theorem readAll_add_low {M : Mst} (h : Rising M) {k : ByteArray} {v : Ver} {t : Sp} (hv : t.lt v.s = false) : readAll (addM M k v) t = if v.del then delX (readAll M t) k else setX (readAll M t) k v.val := by
 have hr := readAll_rising h t; refine rising_ext (readAll_rising (addM_rising h k v) t) (by split; exact delX_rising hr _; exact setX_rising hr _ _) ?_; rintro ⟨k', x⟩; rw [readAll_mem]; have hmem : ∀ cs, (k', cs) ∈ addM M k v ↔ (k', cs) = (k, (getX M k).getD [] ++ [v]) ∨ ((k', cs) ∈ M ∧ k' ≠ k) := fun cs => setX_mem h _ _ _
 by_cases hk : k' = k
 ·subst hk; have hval : valAt ((getX M k').getD [] ++ [v]) t = if v.del then none else some v.val := by rw [valAt_snoc, hv]; rfl
  cases hd : v.del with
  | true =>
   rw [hd] at hval; rw [if_pos rfl, delX_mem]; constructor
   ·rintro ⟨cs, hc, hx⟩; rcases (hmem cs).1 hc with e | ⟨_, e⟩
    ·injection e with _ e; rw [e, hval] at hx; cases hx
    ·exact absurd rfl e
   ·rintro ⟨_, e⟩; exact absurd rfl e
  | false =>
   rw [hd] at hval; rw [if_neg (by decide), setX_mem hr]; constructor
   ·rintro ⟨cs, hc, hx⟩; rcases (hmem cs).1 hc with e | ⟨_, e⟩
    ·injection e with _ e; rw [e, hval] at hx; injection hx with hx; exact .inl (by rw [hx])
    ·exact absurd rfl e
   ·rintro (e | ⟨_, e⟩)
    ·injection e with _ e; subst e; exact ⟨_, (hmem _).2 (.inl rfl), hval⟩
    ·exact absurd rfl e
 ·have hlhs : (∃ cs, (k', cs) ∈ addM M k v ∧ valAt cs t = some x) ↔ (k', x) ∈ readAll M t := by
   rw [readAll_mem]; constructor
   ·rintro ⟨cs, hc, hx⟩; rcases (hmem cs).1 hc with e | ⟨hc, _⟩
    ·injection e with e _; exact absurd e hk
    ·exact ⟨cs, hc, hx⟩
   ·rintro ⟨cs, hc, hx⟩; exact ⟨cs, (hmem cs).2 (.inr ⟨hc, hk⟩), hx⟩
  rw [hlhs]; split
  ·rw [delX_mem]; exact ⟨fun h => ⟨h, hk⟩, fun h => h.1⟩
  ·rw [setX_mem hr]; constructor
   ·intro h; exact .inr ⟨h, hk⟩
   ·rintro (e | ⟨h, _⟩)
    ·injection e with e _; exact absurd e hk
    ·exact h
theorem getD_mem {M : Mst} (h : Rising M) {k : ByteArray} {t : Sp} {x : ByteArray} (hv : valAt ((getX M k).getD []) t = some x) : (k, (getX M k).getD []) ∈ M := by
 cases hg : getX M k with
 | none => rw [hg] at hv; cases hv
 | some cs => exact (getX_some h).1 hg
theorem readAll_add_high {M : Mst} (h : Rising M) {k : ByteArray} {v : Ver} {t : Sp} (hv : t.lt v.s = true) : readAll (addM M k v) t = readAll M t := by
 refine rising_ext (readAll_rising (addM_rising h k v) t) (readAll_rising h t) ?_; rintro ⟨k', x⟩; rw [readAll_mem, readAll_mem]; have hmem : ∀ cs, (k', cs) ∈ addM M k v ↔ (k', cs) = (k, (getX M k).getD [] ++ [v]) ∨ ((k', cs) ∈ M ∧ k' ≠ k) := fun cs => setX_mem h _ _ _
 have hval : valAt ((getX M k).getD [] ++ [v]) t = valAt ((getX M k).getD []) t := by rw [valAt_snoc, hv]; rfl
 constructor
 ·rintro ⟨cs, hc, hx⟩; rcases (hmem cs).1 hc with e | ⟨hc, _⟩
  ·injection e with e1 e2
   subst e1 e2; rw [hval] at hx; exact ⟨_, getD_mem h hx, hx⟩
  ·exact ⟨cs, hc, hx⟩
 ·rintro ⟨cs, hc, hx⟩; by_cases hk : k' = k
  ·subst hk; have hg := (getX_some h).2 hc; refine ⟨_, (hmem _).2 (.inl rfl), ?_⟩; rw [hval, hg]; exact hx
  ·exact ⟨cs, (hmem cs).2 (.inr ⟨hc, hk⟩), hx⟩
structure Good (M : Mst) : Prop where
 rising : Rising M
 chain : ∀ e ∈ M, e.2 ≠ [] ∧ Ris e.2
def Over (M : Mst) (k : ByteArray) (t : Sp) : Prop := ∀ cs, getX M k = some cs → ∀ u ∈ cs, u.s.lt t = true
theorem ris_snoc {cs : Chain} {v : Ver} (h : Ris cs) (hv : ∀ u ∈ cs, u.s.lt v.s = true) : Ris (cs ++ [v]) :=
 List.pairwise_append.2 ⟨h, List.pairwise_singleton _ _, fun a ha b hb => by simp at hb; subst hb; exact hv a ha⟩
theorem Good.add {M : Mst} (h : Good M) {k : ByteArray} {v : Ver} (ho : Over M k v.s) : Good (addM M k v) := by
 refine ⟨addM_rising h.rising k v, fun e he => ?_⟩; rcases (setX_mem h.rising _ _ e).1 he with rfl | ⟨he, _⟩
 ·refine ⟨by simp, ?_⟩; cases hg : getX M k with
  | none => exact List.pairwise_singleton _ _
  | some cs => exact ris_snoc (h.chain _ ((getX_some h.rising).1 hg)).2 (ho cs hg)
 ·exact h.chain e he
theorem Good.nil : Good [] := ⟨List.Pairwise.nil, fun e he => (by cases he)⟩
theorem over_last {cs : Chain} {u : Ver} {t : Sp} (h : Ris (cs ++ [u])) (hu : u.s.lt t = true) : ∀ v ∈ cs ++ [u], v.s.lt t = true := fun v hv => by
 rcases List.mem_append.1 hv with hv | hv
 ·exact Sp.trans ((List.pairwise_append.1 h).2.2 v hv u (by simp)) hu
 ·simp at hv; subst hv; exact hu
def countM (M : Mst) : Nat := (M.map (·.2.length)).sum
theorem countM_set {M : Mst} (h : Rising M) (k : ByteArray) (cs : Chain) : countM (setX M k cs) + ((getX M k).getD []).length = countM M + cs.length := by
 induction M with
 | nil => simp [setX, countM, getX]
 | cons x M ih =>
  have h' := List.pairwise_cons.1 h; unfold setX; split
  ·rename_i hlt; have : getX (x :: M) k = getX M k := by unfold getX; rw [List.find?_cons_of_neg (by simpa using lt_ne hlt)]
   rw [this]; have := ih h'.2; simp only [countM, List.map_cons, List.sum_cons] at this ⊢; omega
  ·split
   ·rename_i heq; have : getX (x :: M) k = some x.2 := by unfold getX; rw [List.find?_cons_of_pos (by simpa using heq)]; rfl
    rw [this]; simp [countM]; omega
   ·rename_i hnl hne; have : getX (x :: M) k = none := getX_none.2 fun u hu => by
     rcases List.mem_cons.1 hu with e | e
     ·exact hne (by rw [← e])
     ·exact hnl (h'.1 _ e)
    rw [this]; simp [countM]; omega
theorem countM_add {M : Mst} (h : Rising M) (k : ByteArray) (v : Ver) : countM (addM M k v) = countM M + 1 := by
 have := countM_set h k ((getX M k).getD [] ++ [v]); rw [List.length_append, List.length_singleton] at this; unfold addM; omega
def pruneM (M : Mst) (m : Sp) : Mst := M.filterMap fun e => if unseen e.2 m = e.2.length then none else some (e.1, e.2.drop (unseen e.2 m))
def goneM (M : Mst) (m : Sp) : Nat := (M.map fun e => unseen e.2 m).sum
theorem pruneM_read {M : Mst} (h : Good M) {m t : Sp} (hm : t.lt m = false) : readAll (pruneM M m) t = readAll M t := by
 have hc := h.chain; clear h; unfold readAll pruneM; induction M with
 | nil => rfl
 | cons x M ih =>
  have hv := prune_val (hc x (by simp)).2 hm; rw [List.filterMap_cons]; split
  ·rename_i e; split at e
   ·rename_i hu; rw [List.filterMap_cons]; have hv0 : valAt x.2 t = none := by rw [← hv, hu, List.drop_length]; rfl
    rw [hv0]; exact ih (fun e he => hc e (by simp [he]))
   ·cases e
  ·rename_i y e; split at e
   ·cases e
   ·injection e with e
    subst e; rw [List.filterMap_cons, List.filterMap_cons, hv, ih (fun e he => hc e (by simp [he]))]
theorem countM_prune (M : Mst) (m : Sp) : countM (pruneM M m) + goneM M m = countM M := by
 unfold countM pruneM goneM; induction M with
 | nil => rfl
 | cons x M ih =>
  have hl := unseen_le x.2 m; rw [List.filterMap_cons]; split
  ·rename_i e; split at e
   ·simp only [List.map_cons, List.sum_cons]; omega
   ·cases e
  ·rename_i y e; split at e
   ·cases e
   ·injection e with e
    subst e; simp only [List.map_cons, List.sum_cons, List.length_drop]; omega
end Go.Proofs.YtneojeidpfjpbaaGreatDoor.Vs
namespace Go.Proofs.YtneojeidpfjpbaaGreatDoor
open Go.RowKit Go.Sort
def wOk (x : Wr) : Bool := (!emS x.key && decide (x.key.size ≤ 32)) && decide (x.val.size ≤ 64) && (!x.del || emS x.val)
theorem em_of_lt {a b : ByteArray} (h : ltS a b = true) : emS b = false := by
 unfold ltS at h; unfold emS
 cases hb : b.toList with
 | nil => rw [hb] at h; cases ha : a.toList <;> rw [ha] at h <;> cases h
 | cons x l => rfl
theorem writeAt_eq (xs : List Wr) (i : Nat) : writeAt xs i = (wOk (nthW xs i) && ltS (prevW xs i) (nthW xs i).key) := by
 unfold writeAt wOk keyOk; cases h : ltS (prevW xs i) (nthW xs i).key with
 | false => simp
 | true =>
  rw [em_of_lt h]; cases (nthW xs i).del <;> cases emS (nthW xs i).val <;> simp
theorem vkey_is {a : ByteArray} {u : Bool} (hu : (!emS a && decide (a.size ≤ 32)) = u) (w : World) :
  Calls Tryz.prog 225 #[.string a] w fun e w' => e = .returned (.bool u) ∧ w' = w := by
 subst hu; have HE : Hid (emS a = decide (a.size = 0)) := em_size a; by_cases h0 : a.toList = []
 ·have HQ : Hid (emS a = true) := by show _ = _; unfold emS; rw [h0]; rfl
  go_enter Tryz.func225, Tryz.ntmps225
  go_wp2_with fail
  go_ret
  exact ⟨ret_bool (by rw [HQ.out]; rfl), rfl⟩
 ·have HQ : Hid (emS a = false) := by show _ = _; unfold emS; cases h : a.toList with
   | nil => exact absurd h h0
   | cons _ _ => rfl
  go_enter Tryz.func225, Tryz.ntmps225
  go_wp2_with fail
  go_ret
  exact ⟨ret_bool (by rw [show a.toList.isEmpty = false from HQ.out, HQ.out, Bool.eq_iff_iff]; simp; omega), rfl⟩
theorem vval_is {a : ByteArray} {u : Bool} (hu : decide (a.size ≤ 64) = u) (w : World) :
  Calls Tryz.prog 226 #[.string a] w fun e w' => e = .returned (.bool u) ∧ w' = w := by
 subst hu; go_enter Tryz.func226, Tryz.ntmps226
 go_wp2_with fail
 go_ret
 exact ⟨ret_bool (by first | rfl | (simp; done) | (simp; omega) | (trace_state; fail)), rfl⟩
theorem vwrite_is {x : Wr} {u : Bool} (hu : wOk x = u) (w : World) :
  Calls Tryz.prog 174 #[.agg #[.string x.key, .bool x.del, .string x.val]] w fun e w' => e = .returned (.bool u) ∧ Below w.heap.size w w' := by
 subst hu; obtain ⟨k, d, v⟩ := x; obtain ⟨u1, h1⟩ : ∃ u, (!emS k && decide (k.size ≤ 32)) = u := ⟨_, rfl⟩; obtain ⟨u2, h2⟩ : ∃ u, decide (v.size ≤ 64) = u := ⟨_, rfl⟩; obtain ⟨u3, h3⟩ : ∃ u, emS v = u := ⟨_, rfl⟩; have HQ : Hid (wOk ⟨k, d, v⟩ = (u1 && u2 && (!d || u3))) := by show _ = _; rw [← h1, ← h2, ← h3]; rfl
 have K1 := hid (fun w => vkey_is h1 w); have K2 := hid (fun w => vval_is h2 w); have h3' : (v.toList = []) = (u3 = true) := by rw [← h3]; simp [emS]
 have H3 : Hid (v.toList.isEmpty = u3) := h3; clear h1 h2 h3; cases u1 <;> cases u2 <;> cases d <;> cases u3
 all_goals (try simp only [Bool.false_eq_true] at h3')
 all_goals
  go_enter Tryz.func174, Tryz.ntmps174
  go_wp2_with (first
   | (go_at_call 225; refine (K1.out _).mono ?_; rintro e w' ⟨rfl, rfl⟩)
   | (go_at_call 226; refine (K2.out _).mono ?_; rintro e w' ⟨rfl, rfl⟩))
  go_ret
  exact ⟨ret_bool (by rw [HQ.out]; first | rfl | (rw [H3.out]; rfl)), by (repeat (first | exact Below.refl _ _ | assumption | refine Below.drew ?_ | refine Below.al ?_ _ | refine Below.setCell ?_ (by first | exact Nat.le_refl _ | (simp; omega) | (simp; done)) _ | refine Below.on ?_ (by assumption)))⟩
theorem validWrites_is {a : Option Addr} {c : Nat} {xs : List Wr} {w : World} {u : Bool} (hu : writesOk xs = u) (h : RowW w a xs) (hl : xs.length ≤ 9223372036854775807) :
  Calls Tryz.prog 123 #[.slice a xs.length c] w fun e w' => e = .returned (.bool u) ∧ Below w.heap.size w w' := by
 subst hu; by_cases h16 : 16 < (xs.length : Int)
 ·go_enter Tryz.func123, Tryz.ntmps123
  go_wp2_with fail
  go_ret
  refine ⟨ret_bool ?_, by (repeat (first | exact Below.refl _ _ | assumption | refine Below.drew ?_ | refine Below.al ?_ _ | refine Below.setCell ?_ (by first | exact Nat.le_refl _ | (simp; omega) | (simp; done)) _ | refine Below.on ?_ (by assumption)))⟩; rw [writesOk, decide_eq_false (by omega)]; rfl
 have H16 := hid h16; have h16' : decide (16 < (xs.length : Int)) = false := decide_eq_false h16; clear h16; go_enter Tryz.func123, Tryz.ntmps123
 go_wp2_with fail
 go_loopg [3, 11] xs.length (fun g s3 s11 wr => ∃ k : Nat, k ≤ xs.length ∧ g = xs.length - k ∧ s3 = .string (prevW xs k) ∧ s11 = .int .i64 k ∧ Below w.heap.size w wr ∧ Hid (allB (writeAt xs) k = true))
 case atStart => exact ⟨0, by omega, by omega, rfl, rfl, Below.refl _ _, rfl⟩
 case round =>
  obtain ⟨k, hk, rfl, rfl, rfl, hb, HA⟩ := hrel; by_cases hlt : k < xs.length
  ·obtain ⟨b, off, rfl, c0, c1, c2⟩ := (h.later hb) k hlt; obtain ⟨u, hu⟩ : ∃ u, wOk (nthW xs k) = u := ⟨_, rfl⟩; obtain ⟨v, hv⟩ : ∃ v, ltS (prevW xs k) (nthW xs k).key = v := ⟨_, rfl⟩; have HP := hid (prevW_succ xs k); have HQ : Hid (writeAt xs k = (u && v)) := by show _ = _; rw [writeAt_eq, hu, hv]
   have hle : (Op.bytesLess (nthW xs k).key.toList (prevW xs k).toList || (nthW xs k).key.toList == (prevW xs k).toList) = !v := by rw [leq_less]; rw [← hv]; rfl
   obtain ⟨p, hp⟩ : ∃ p, p = prevW xs k := ⟨_, rfl⟩; obtain ⟨x, hx⟩ : ∃ x, x = nthW xs k := ⟨_, rfl⟩; rw [← hx] at c0 c1 c2 hu HP hle; rw [← hp] at hle ⊢; have K := hid (fun w => vwrite_is hu w); clear hx hp hv hu; obtain ⟨xk, xd, xv⟩ := x; cases u
   ·go_wp2_with (go_at_call 174; refine (K.out _).mono ?_; rintro e w1 ⟨rfl, hw1⟩)
    go_ret
    refine ⟨ret_bool ?_, Below.on (Below.al hb _) hw1⟩; rw [writesOk, allB_no (HQ.out.trans (by simp)) _ hlt, Bool.and_false]
   ·cases v
    ·go_wp2_with (go_at_call 174; refine (K.out _).mono ?_; rintro e w1 ⟨rfl, hw1⟩; have d0 : w1.cell? ⟨wr.heap.size, 0, none⟩ = some (.string xk) := cell_later hw1 (by simp [go_sem]))
     go_ret
     refine ⟨ret_bool ?_, Below.on (Below.al hb _) hw1⟩; rw [writesOk, allB_no (HQ.out.trans (by simp)) _ hlt, Bool.and_false]
    ·go_wp2_with (go_at_call 174; refine (K.out _).mono ?_; rintro e w1 ⟨rfl, hw1⟩; have d0 : w1.cell? ⟨wr.heap.size, 0, none⟩ = some (.string xk) := cell_later hw1 (by simp [go_sem]))
     have hb2 : Below w.heap.size w w1 := Below.on (Below.al hb _) hw1; go_roundg (xs.length - (k + 1))
     case measure => omega
     case rel => exact ⟨k + 1, by omega, rfl, by rw [HP.out], by go_num, hb2, allB_yes HA.out (HQ.out.trans (by simp))⟩
  ·obtain rfl : k = xs.length := by omega
   go_wp2_with fail
   go_ret
   refine ⟨ret_bool ?_, hb⟩; rw [writesOk, HA.out, decide_eq_true (by have := H16.out; omega)]; rfl
theorem usable_is {a b c : Int} (w : World) :
  Calls Tryz.prog 84 #[stv a b c] w fun e w' => e = .returned (.bool (decide (a < 18446744073709551615))) ∧ Below w.heap.size w w' := by
 go_enter Tryz.func84, Tryz.ntmps84
 go_wp2_with fail
 go_ret
 exact ⟨ret_bool (by simp), by (repeat (first | exact Below.refl _ _ | assumption | refine Below.drew ?_ | refine Below.al ?_ _ | refine Below.setCell ?_ (by first | exact Nat.le_refl _ | (simp; omega) | (simp; done)) _ | refine Below.on ?_ (by assumption)))⟩
open Go.RowKit
theorem less_any (a b c x y z : Int) (w : World) :
  Calls Tryz.prog 59 #[stv a b c, stv x y z] w fun e w' => e = .returned (.bool (lessB a b c x y z)) ∧ Below w.heap.size w w' := by
 by_cases h1 : a = x
 ·by_cases h2 : b = y
  ·subst h1 h2; go_enter Tryz.func59, Tryz.ntmps59
   go_wp2
   go_ret
   exact ⟨by simp [lessB], ((Below.refl _ _).alloc (Nat.le_refl _) _).alloc (by simp) _⟩
  ·subst h1; have h2' : (b != y) = true := by simpa using h2
   go_enter Tryz.func59, Tryz.ntmps59
   go_wp2
   go_ret
   exact ⟨by simp [lessB, h2], ((Below.refl _ _).alloc (Nat.le_refl _) _).alloc (by simp) _⟩
 ·have h1' : (a != x) = true := by simpa using h1
  go_enter Tryz.func59, Tryz.ntmps59
  go_wp2
  go_ret
  exact ⟨by simp [lessB, h1], ((Below.refl _ _).alloc (Nat.le_refl _) _).alloc (by simp) _⟩
theorem less_is {a b c x y z : Int} {v : Bool} (h : lessB a b c x y z = v) (w : World) :
  Calls Tryz.prog 59 #[stv a b c, stv x y z] w fun e w' => e = .returned (.bool v) ∧ Below w.heap.size w w' := h ▸ less_any a b c x y z w
end Go.Proofs.YtneojeidpfjpbaaGreatDoor
