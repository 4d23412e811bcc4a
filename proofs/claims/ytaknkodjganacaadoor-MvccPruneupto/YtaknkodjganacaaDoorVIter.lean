import Derived.Test.YtaknkodjganacaaDoorVUp
import Derived.Test.YtaknkodjganacaaDoorVUpB
import Derived.Test.YtaknkodjganacaaDoorVIndex
namespace Go.Proofs.YtaknkodjganacaaDoor.Vs
open Go.RowKit Go.Sort Go.Shelf
set_option linter.unusedVariables false

theorem Loops.box {α : Type} {f : α → En} {l N : Nat} {J Jx : List α → World → Prop} (H : Loops f l N J Jx) {pre : List α} {W : World} (hJ : J pre W) (o : Obj) : J pre (W.alloc o) := H.later _ _ _ hJ (Below.al (Below.refl _ W) o)
set_option maxHeartbeats 1000000 in
theorem up_nil {α : Type} {f : α → En} {l N : Nat} {J Jx : List α → World → Prop} (H : Loops f l N J Jx) {lo hi : ByteArray} {pre : List α} {W : World} (hJ : J pre W) :
    Calls Tryd.prog 49 #[.pointer none, .agg #[.string lo, .string hi], .func (.yield l) #[] #[]] W (Ran J Jx pre [] W) := by
  have h1 := hid (H.box hJ (.cells #[.string lo, .string hi] 28))
  clear H hJ
  go_enter Tryd.func49, Tryd.ntmps49
  go_wp2_with fail
  go_ret
  exact ⟨true, rfl, fun _ => ⟨by simpa using h1.out, Kp.of_below (Below.al (Below.refl _ _) _)⟩, fun e => (by cases e)⟩
theorem up_is {α : Type} {f : α → En} {l N : Nat} {J Jx : List α → World → Prop} (H : Loops f l N J Jx) (lo hi : ByteArray) (T : Tr) : ∀ (pre ys : List α) (W : World), TrIn (fun _ => True) W T → Rising T.list → ys.map f = rangeX T.list lo hi → J pre W → pre.length + ys.length ≤ N →
    Calls Tryd.prog 49 #[.pointer T.pt, .agg #[.string lo, .string hi], .func (.yield l) #[] #[]] W (Ran J Jx pre ys W) := by
  induction T with
  | nil =>
    intro pre ys W _ _ hys hJ _
    obtain rfl : ys = [] := by simpa [Tr.list, rangeX] using hys
    exact up_nil H hJ
  | node b k v tl tr ihl ihr =>
    intro pre ys W ht hR hys hJ hN
    obtain ⟨hRl, hRr, hkl, hkr⟩ := rising_parts hR
    have htl := ht.2.2.2.2.2.2.1
    have htr := ht.2.2.2.2.2.2.2
    rw [Tr.list, range_node] at hys
    cases hf : fromB lo k with
    | true =>
      cases hu : underB hi k with
      | true =>
        rw [inS_is, hf, hu] at hys
        obtain ⟨y1, y2, y3, rfl, e1, e2, e3⟩ := map_parts hys
        obtain ⟨y, rfl, ey⟩ := map_one e2
        simp only [List.length_append, List.length_cons, List.length_nil] at hN
        exact up_tt H ht hf hu ey hJ (by simp only [List.length_append]; omega) (fun W' k' hJ' => ihl pre y1 W' (htl.kp k') hRl e1 hJ' (by omega))
          (fun W' k' hJ' => ihr (pre ++ y1 ++ [y]) y3 W' (htr.kp k') hRr e3 hJ' (by simp only [List.length_append, List.length_cons, List.length_nil]; omega))
      | false =>
        rw [inS_is, hf, hu, range_right hkr hu] at hys
        simp only [Bool.and_false, Bool.false_eq_true, if_false, List.append_nil] at hys
        exact up_tf H ht hf hu hJ (fun W' k' hJ' => ihl pre ys W' (htl.kp k') hRl hys hJ' hN)
    | false =>
      rw [inS_is, hf, range_left hkl hf] at hys
      simp only [Bool.false_and, Bool.false_eq_true, if_false, List.append_nil, List.nil_append] at hys
      cases hu : underB hi k with
      | true => exact up_ft H ht hf hu hJ (fun W' k' hJ' => ihr pre ys W' (htr.kp k') hRr hys hJ' hN)
      | false =>
        rw [range_right hkr hu] at hys
        obtain rfl : ys = [] := by simpa using hys
        exact up_ff H ht hf hu hJ
/-- an iterator over the entries l, in a span: the root's box, the span's box -/
structure It (w : World) (R B : Nat) (l : List En) (lo hi : ByteArray) : Prop where
  tree : ∃ T : Tr, Boxed w R 83 (.pointer T.pt) ∧ TrIn (fun _ => True) w T ∧ T.list = l
  span : w.heap[B]? = some (.cells #[.string lo, .string hi] 28 (0, 0))
  rising : Rising l
theorem It.kp {w w' : World} {R B : Nat} {l : List En} {lo hi : ByteArray} (h : It w R B l lo hi) (k : Kp w w') : It w' R B l lo hi := by
  obtain ⟨⟨T, hb, ht, hl⟩, hs, hr⟩ := h
  exact ⟨⟨T, k.2 R _ _ _ (.inr (.inr rfl)) hb, ht.kp k, hl⟩, k.2 B _ _ _ (.inr (.inl rfl)) hs, hr⟩
theorem It.later {w w' : World} {R B : Nat} {l : List En} {lo hi : ByteArray} (h : It w R B l lo hi) (hb : Below w.heap.size w w') : It w' R B l lo hi := h.kp (Kp.of_below hb)
abbrev itv (f R B : Nat) : Value := .func (.func f) #[] #[.pointer (some ⟨R, 0, none⟩), .pointer (some ⟨B, 0, none⟩)]
theorem it_new {w : World} {lo hi : ByteArray} {T : Tr} (ht : TrIn (fun _ => True) w T) (hr : Rising T.list) :
    It ((w.alloc (.cells #[.string lo, .string hi] 28)).alloc (.cells #[.pointer T.pt] 83)) (w.heap.size + 1) w.heap.size T.list lo hi ∧
    Below w.heap.size w ((w.alloc (.cells #[.string lo, .string hi] 28)).alloc (.cells #[.pointer T.pt] 83)) := by
  have hb : Below w.heap.size w ((w.alloc (.cells #[.string lo, .string hi] 28)).alloc (.cells #[.pointer T.pt] 83)) := Below.al (Below.al (Below.refl _ _) _) _
  have b1 := Boxed.new (w.alloc (.cells #[.string lo, .string hi] 28)) 83 (.pointer T.pt)
  rw [World.size_alloc] at b1
  have s1 := box_new w lo hi
  have s2 := (Below.heap_alloc (w.alloc (.cells #[.string lo, .string hi] 28)) (.cells #[.pointer T.pt] 83) w.heap.size (by simp)).trans s1
  exact ⟨⟨⟨T, b1, ht.later hb, rfl⟩, s2, hr⟩, hb⟩

theorem range_is {w : World} {p o : Nat} {l : List En} (h : Xi w p o l) (lo hi : ByteArray) :
    Calls Tryd.prog 35 #[.pointer (some ⟨p, o, none⟩), .agg #[.string lo, .string hi]] w fun e w' => ∃ R B, e = .returned (itv 48 R B) ∧ It w' R B l lo hi ∧ Below w.heap.size w w' ∧ w.heap.size ≤ R ∧ w.heap.size ≤ B := by
  obtain ⟨T, cs, t, hb, hix, hcs, ht, rfl, hr⟩ := h
  have c0 : (w.alloc (.cells #[.string lo, .string hi] 28)).cell? ⟨p, o, none⟩ = some (.pointer T.pt) := cell_later (Below.al (Below.refl _ _) _) (cell_of_obj hb hcs)
  have hi' := hid (it_new (lo := lo) (hi := hi) ht hr)
  have hp := (Array.getElem?_eq_some_iff.1 hb).1
  clear ht hr hb hix hcs
  go_enter Tryd.func35, Tryd.ntmps35
  go_wp2_with fail
  go_ret
  exact ⟨_, _, rfl, hi'.out.1, hi'.out.2, by simp, by simp⟩
theorem range1_is {α : Type} {f : α → En} {l N : Nat} {J Jx : List α → World → Prop} (H : Loops f l N J Jx) {R B : Nat} {xs : List En} {lo hi : ByteArray} {ys : List α} {W : World} (h : It W R B xs lo hi) (hys : ys.map f = rangeX xs lo hi) (hJ : J [] W) (hN : ys.length ≤ N) :
    Calls Tryd.prog 48 #[.func (.yield l) #[] #[], .pointer (some ⟨R, 0, none⟩), .pointer (some ⟨B, 0, none⟩)] W fun e W' => (∃ v, e = .returned v) ∧ (J ys W' ∨ ∃ q, q <+: ys ∧ Jx q W') := by
  obtain ⟨⟨T, hb, ht, rfl⟩, hs, hr⟩ := h
  have c0 := hb.cell
  have d0 : W.cell? ⟨B, 0, none⟩ = some (.string lo) := cell_of_obj hs rfl
  have d1 : W.cell? ⟨B, 1, none⟩ = some (.string hi) := cell_of_obj hs rfl
  have hu := hid (up_is H lo hi T [] ys W ht hr hys hJ (by simpa using hN))
  clear hb ht hr hs hys hJ hN H
  go_enter Tryd.func48, Tryd.ntmps48
  go_wp2_with (go_at_call 49; refine hu.out.mono ?_; rintro e w1 ⟨u, rfl, t1, t2⟩)
  go_end0
  refine ⟨⟨_, rfl⟩, ?_⟩
  cases u with
  | true => exact .inl (by simpa using (t1 rfl).1)
  | false => obtain ⟨q, hq, hx⟩ := t2 rfl; exact .inr ⟨q, hq, by simpa using hx⟩
/-- what a loop over xs is handed: entries of xs -/
abbrev Of (xs : List En) : Type := { e : En // e ∈ xs }
abbrev encs (xs : List En) : Of xs → Array Value := fun x => #[.string x.1.1, .slice (some ⟨x.1.2.g, 0, none⟩) x.1.2.n x.1.2.cap]
theorem loops_of {xs : List En} {n l : Nat} {J Jx : List (Of xs) → World → Prop} {W0 : World} (hJ : AbidesFrom W0.heap.size J)
    (hY : ∀ pre x W1, J pre W1 → pre.length < xs.length → YieldAt Fence.wide n Tryd.prog l (encs xs x) W1 fun e W' =>
      (e = .returned (.bool true) ∧ J (pre ++ [x]) W' ∧ Kp W1 W') ∨ (e = .returned (.bool false) ∧ Jx (pre ++ [x]) W')) :
    Loops (fun x : Of xs => x.1) l xs.length J Jx :=
  ⟨fun m pre x W hj hl => YieldAt.anyD m (YieldAt.mono (hY pre x W hj hl) fun e W' h => h.elim (fun ⟨he, h1, h2⟩ => ⟨true, he, fun _ => ⟨h1, h2⟩, fun e => (by cases e)⟩) (fun ⟨he, h1⟩ => ⟨false, he, fun e => (by cases e), fun _ => h1⟩)),
   fun pre W W' hj hb => hJ pre W W' none hj ⟨hb.os, hb.tape, hb.output, hb.size, fun k hk _ => hb.block k hk⟩ (fun r e => by cases e)⟩
theorem attach_val (xs : List En) : xs.attach.map (fun x : Of xs => x.1) = xs := List.attach_map_subtype_val xs
/-- **a loop over Range** -/
theorem range_stops {w : World} {R B : Nat} {l : List En} {lo hi : ByteArray} (n : Nat) (h : It w R B l lo hi) :
    SeqStopsK Fence.wide n Tryd.prog 48 #[.pointer (some ⟨R, 0, none⟩), .pointer (some ⟨B, 0, none⟩)] (encs (rangeX l lo hi)) Kp (fun ys => ys.map (fun x => x.1) = rangeX l lo hi) (fun pre => pre.map (fun x => x.1) <+: rangeX l lo hi) (rangeX l lo hi).length w := fun y J Jx W hW hJ hJx hY h0 =>
  callsIn_wide.2 ((range1_is (loops_of hJ hY) (h.later hW) (attach_val _) h0 (by simp)).mono fun e W' ⟨hv, hh⟩ => ⟨hv, hh.imp (fun hj => ⟨_, attach_val _, hj⟩) (fun ⟨q, hq, hx⟩ => ⟨q, by have := hq.map (fun x : Of (rangeX l lo hi) => x.1); rwa [attach_val] at this, hx⟩)⟩)
/-- the law's own book-keeping keeps it -/
theorem kp_t {A B C : World} (h : Kp A B) (k : Kp B C) : Kp A C := h.trans k
theorem kp_b {w : World} (W : World) (l : Nat) (o o' : Obj) (_ : w.heap.size ≤ l) (h : W.heap[l]? = some o) (ho : o.isCells = false) (_ : o.isWalk = false) : Kp W (W.putObj l o') :=
  ⟨by simp, fun b cs t z _ hb => (World.putObj_heap_other (fun e => by subst e; rw [hb] at h; cases h; cases ho)).trans hb⟩

end Go.Proofs.YtaknkodjganacaaDoor.Vs
