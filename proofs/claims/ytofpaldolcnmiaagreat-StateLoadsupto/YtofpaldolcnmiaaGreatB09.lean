import Derived.Test.YtofpaldolcnmiaaGreatB08
set_option linter.unusedVariables false
set_option maxHeartbeats 1000000
namespace Go.Proofs.YtofpaldolcnmiaaGreat
namespace Vs
open Go.RowKit Go.Sort
theorem setX_len (l : List En) (k : ByteArray) (v : Hd) : (setX l k v).length ≤ l.length + 1 := by
 induction l with
 | nil => simp [setX]
 | cons x l ih =>
  simp only [setX]; split
  ·simp only [List.length_cons]; omega
  ·split <;> simp only [List.length_cons] <;> omega
theorem balanced_is {S : Nat → Prop} {b : Nat} {k : ByteArray} {v : Hd} {l r : Tr} {w : World} (hS : ∀ j, w.heap.size ≤ j → S j) (h0 : w.cell? ⟨b, 0, none⟩ = some (.string k)) (h1 : w.cell? ⟨b, 1, none⟩ = some (.slice (some ⟨v.g, 0, none⟩) v.n v.cap))
  (hl : TrIn S w l) (hr : TrIn S w r) (hn : l.n + r.n + 1 ≤ 1152921504606846976) :
  Calls Tryz.prog 265 #[.pointer (some ⟨b, 0, none⟩), .pointer l.pt, .pointer r.pt] w fun e w' => ∃ T' : Tr, e = .returned (.pointer T'.pt) ∧ TrIn S w' T' ∧ T'.list = l.list ++ (k, v) :: r.list ∧ Below w.heap.size w w' := by
 have WL : Hid (Calls Tryz.prog 276 #[.pointer l.pt] w fun e w' => e = .returned (.int .i64 ((l.n : Int) + 1)) ∧ w' = w) := weight_is hl (by omega); have WR : Hid (Calls Tryz.prog 276 #[.pointer r.pt] w fun e w' => e = .returned (.int .i64 ((r.n : Int) + 1)) ∧ w' = w) := weight_is hr (by omega); have hwl : IntKind.i64.wrap (3 * ((l.n : Int) + 1)) = 3 * ((l.n : Int) + 1) := by rw [IntKind.wrap_i64]; omega
 have hwr : IntKind.i64.wrap (3 * ((r.n : Int) + 1)) = 3 * ((r.n : Int) + 1) := by rw [IntKind.wrap_i64]; omega
 by_cases hA : 3 * (l.n + 1) < r.n + 1
 ·have q1 : decide (3 * ((l.n : Int) + 1) < (r.n : Int) + 1) = true := decide_eq_true (by omega); cases r with
  | nil => simp only [Tr.n] at hA; omega
  | node rb rk rv i o =>
   have TL := hid (turnedLeft_is hS h0 h1 hl hr (by simp only [Tr.n] at hn; omega)); obtain ⟨m, hm⟩ : ∃ m, m = (Tr.node rb rk rv i o).n := ⟨_, rfl⟩; rw [← hm] at q1 hwr WR; have hmb : m ≤ 1152921504606846976 := by omega
   have hmn : l.n ≤ 1152921504606846976 := by omega
   simp only [Tr.pt] at WR; show Calls Tryz.prog 265 #[.pointer (some ⟨b, 0, none⟩), .pointer l.pt, .pointer (some ⟨rb, 0, none⟩)] w _
   clear hm hA hn h0 h1 hl hr hS; go_enter Tryz.func265, Tryz.ntmps265
   go_wp2_with (first
    | (go_at_call_of 276 l.pt; refine WL.out.mono ?_; rintro e w1 ⟨rfl, rfl⟩)
    | (go_at_call 276; refine WR.out.mono ?_; rintro e w1 ⟨rfl, rfl⟩)
    | (go_at_call 277; refine TL.out.mono ?_; rintro e w1 ⟨T', rfl, t1, hT, hb⟩))
   go_ret
   exact ⟨T', rfl, t1, by simp only [Tr.list]; exact hT, hb⟩
 ·have q1 : decide (3 * ((l.n : Int) + 1) < (r.n : Int) + 1) = false := decide_eq_false (by omega); by_cases hB : 3 * (r.n + 1) < l.n + 1
  ·have q2 : decide (3 * ((r.n : Int) + 1) < (l.n : Int) + 1) = true := decide_eq_true (by omega); cases l with
   | nil => simp only [Tr.n] at hB; omega
   | node rb rk rv o i =>
    have TL := hid (turnedRight_is hS h0 h1 hr hl (by simp only [Tr.n] at hn; omega)); obtain ⟨m, hm⟩ : ∃ m, m = (Tr.node rb rk rv o i).n := ⟨_, rfl⟩; rw [← hm] at q1 q2 hwl WL; have hmb : m ≤ 1152921504606846976 := by omega
    have hmn : r.n ≤ 1152921504606846976 := by omega
    simp only [Tr.pt] at WL; show Calls Tryz.prog 265 #[.pointer (some ⟨b, 0, none⟩), .pointer (some ⟨rb, 0, none⟩), .pointer r.pt] w _
    clear hm hA hB hn h0 h1 hl hr hS; go_enter Tryz.func265, Tryz.ntmps265
    go_wp2_with (first
     | (go_at_call_of 276 r.pt; refine WR.out.mono ?_; rintro e w1 ⟨rfl, rfl⟩)
     | (go_at_call 276; refine WL.out.mono ?_; rintro e w1 ⟨rfl, rfl⟩)
     | (go_at_call 278; refine TL.out.mono ?_; rintro e w1 ⟨T', rfl, t1, hT, hb⟩))
    go_ret
    exact ⟨T', rfl, t1, by simp only [Tr.list]; exact hT, hb⟩
  ·have q2 : decide (3 * ((r.n : Int) + 1) < (l.n : Int) + 1) = false := decide_eq_false (by omega); have TL := hid (over_is hS h0 h1 hl hr (by omega)); have hmb : l.n ≤ 1152921504606846976 := by omega
   have hmn : r.n ≤ 1152921504606846976 := by omega
   obtain ⟨pl, hpl⟩ : ∃ p, p = l.pt := ⟨_, rfl⟩; obtain ⟨pr, hpr⟩ : ∃ p, p = r.pt := ⟨_, rfl⟩; rw [← hpl] at WL; rw [← hpr] at WR; rw [← hpl, ← hpr] at TL ⊢; clear hpl hpr hA hB hn h0 h1 hl hr hS; go_enter Tryz.func265, Tryz.ntmps265
   go_wp2_with (first
    | (go_at_call_of 276 pl; refine WL.out.mono ?_; rintro e w1 ⟨rfl, rfl⟩)
    | (go_at_call_of 276 pr; refine WR.out.mono ?_; rintro e w1 ⟨rfl, rfl⟩)
    | (go_at_call 279; refine TL.out.mono ?_; rintro e w1 ⟨b1, rfl, t1, hb⟩))
   go_ret
   exact ⟨_, rfl, t1, rfl, hb⟩
theorem with_is (key : ByteArray) (v : Hd) (T : Tr) : ∀ (S : Nat → Prop) (w : World), (∀ j, w.heap.size ≤ j → S j) → TrIn S w T → Rising T.list → T.n + 1 ≤ 1152921504606846976 →
  Calls Tryz.prog 245 #[.pointer T.pt, .string key, .slice (some ⟨v.g, 0, none⟩) v.n v.cap] w fun e w' => ∃ T' : Tr, e = .returned (.pointer T'.pt) ∧ TrIn S w' T' ∧ T'.list = setX T.list key v ∧ Below w.heap.size w w' := by
 induction T with
 | nil =>
  intro S w hS hT hR hn; show Calls Tryz.prog 245 #[.pointer none, .string key, .slice (some ⟨v.g, 0, none⟩) v.n v.cap] w _
  have HS := hid hS; clear hS; go_enter Tryz.func245, Tryz.ntmps245
  go_wp2_with fail
  obtain ⟨t1, t2⟩ := node_new (S := S) (w := w) (k := key) (v := v) (l := .nil) (r := .nil) (n := 1) rfl trivial trivial (HS.out _ (Nat.le_refl _)) rfl; go_ret
  exact ⟨_, rfl, t1, rfl, t2⟩
 | node b k u l r ihl ihr =>
  intro S w hS hT hR hn; obtain ⟨hb, h0, h1, h2, h3, h4, hl, hr⟩ := hT; obtain ⟨hRl, hRr, hkl, hkr⟩ := rising_parts hR; simp only [Tr.n] at hn; have later : ∀ W, Below w.heap.size w W → ∀ j, W.heap.size ≤ j → S j := fun W hb j hj => hS j (Nat.le_trans hb.size hj)
  show Calls Tryz.prog 245 #[.pointer (some ⟨b, 0, none⟩), .string key, .slice (some ⟨v.g, 0, none⟩) v.n v.cap] w _
  rcases lt_tri key k with hk | hk | hk
  ·-- the same key
   subst hk; have q1 : Op.bytesLess key.toList key.toList = false := bless_irrefl _; have HN : Hid (∀ W, Below w.heap.size w W → TrIn S (W.alloc (.cells #[.string key, .slice (some ⟨v.g, 0, none⟩) v.n v.cap, .pointer l.pt, .pointer r.pt, .int .i64 ((l.n + 1 + r.n : Nat) : Int)] 272)) (.node W.heap.size key v l r)) := fun W hb =>
    (node_new rfl (hl.later hb) (hr.later hb) (later W hb _ (Nat.le_refl _)) rfl).1
   have HX : Hid (setX (Tr.node b key u l r).list key v = l.list ++ (key, v) :: r.list) := setX_mid hkl; obtain ⟨m, hm⟩ : ∃ m : Int, m = ((l.n + 1 + r.n : Nat) : Int) := ⟨_, rfl⟩; rw [← hm] at HN h4; clear hm hn hl hr hR hRl hRr hkl hkr ihl ihr later hS; go_enter Tryz.func245, Tryz.ntmps245
   go_wp2_with fail
   go_region_held3 (fun w' => w'.cell? ⟨b, 2, none⟩ = some (.pointer l.pt) ∧ w'.cell? ⟨b, 3, none⟩ = some (.pointer r.pt) ∧ w'.cell? ⟨b, 4, none⟩ = some (.int .i64 m) ∧ Below w.heap.size w w')
    ((refine (fun (hB : Below w.heap.size w _) => ⟨cell_later hB h2, cell_later hB h3, cell_later hB h4, hB⟩) ?_; (repeat (first | exact Below.refl _ _ | assumption | refine Below.drew ?_ | refine Below.al ?_ _ | refine Below.setCell ?_ (by first | exact Nat.le_refl _ | simp <;> omega) _ | refine Below.on ?_ (by assumption)))))
    (fail)
   go_wp2_with fail
   have t1 := HN.out w (Below.refl _ _); go_ret
   exact ⟨_, rfl, t1.later (Below.drew (Below.refl _ _)), by rw [HX.out]; rfl, by (repeat (first | exact Below.refl _ _ | assumption | refine Below.drew ?_ | refine Below.al ?_ _ | refine Below.setCell ?_ (by first | exact Nat.le_refl _ | simp <;> omega) _ | refine Below.on ?_ (by assumption)))⟩
  ·have q1 : Op.bytesLess key.toList k.toList = true := hk; have HW : Hid (∀ W, Below w.heap.size w W → _) := fun W hb => ihl S W (later W hb) (hl.later hb) hRl (by omega)
   have HB : Hid (∀ W (L : Tr), Below w.heap.size w W → TrIn S W L → L.n ≤ l.n + 1 → _) := fun W L hb hL hLn => balanced_is (b := b) (k := k) (v := u) (l := L) (r := r) (later W hb) (cell_later hb h0) (cell_later hb h1) hL (hr.later hb) (by omega)
   have HX : Hid (setX (Tr.node b k u l r).list key v = setX l.list key v ++ (k, u) :: r.list) := setX_left hk; have HL : Hid (∀ L : Tr, L.list = setX l.list key v → L.n ≤ l.n + 1) := fun L hL => by rw [← Tr.len, hL, ← Tr.len]; exact setX_len _ _ _
   obtain ⟨pl, hpl⟩ : ∃ p, p = l.pt := ⟨_, rfl⟩; rw [← hpl] at HW h2; clear hpl hn hl hr hR hRl hRr hkl hkr ihl ihr later hS h1 h4 hk; go_enter Tryz.func245, Tryz.ntmps245
   go_wp2_with fail
   go_region_held3 (fun w' => w'.cell? ⟨b, 2, none⟩ = some (.pointer pl) ∧ w'.cell? ⟨b, 3, none⟩ = some (.pointer r.pt) ∧ Below w.heap.size w w')
    ((refine (fun (hB : Below w.heap.size w _) => ⟨cell_later hB h2, cell_later hB h3, hB⟩) ?_; (repeat (first | exact Below.refl _ _ | assumption | refine Below.drew ?_ | refine Below.al ?_ _ | refine Below.setCell ?_ (by first | exact Nat.le_refl _ | simp <;> omega) _ | refine Below.on ?_ (by assumption)))))
    (first
     | (go_at_call 245; refine (HW.out _ ?_).mono ?_; ((repeat (first | exact Below.refl _ _ | assumption | refine Below.drew ?_ | refine Below.al ?_ _ | refine Below.setCell ?_ (by first | exact Nat.le_refl _ | simp <;> omega) _ | refine Below.on ?_ (by assumption)))); rintro e w1 ⟨L, rfl, t1, hL, hb1⟩)
     | (go_at_call 265; refine (HB.out _ L ?_ t1 (HL.out L hL)).mono ?_; ((repeat (first | exact Below.refl _ _ | assumption | refine Below.drew ?_ | refine Below.al ?_ _ | refine Below.setCell ?_ (by first | exact Nat.le_refl _ | simp <;> omega) _ | refine Below.on ?_ (by assumption)))); rintro e w2 ⟨T', rfl, t2, hT', hb2⟩))
   go_wp2_with fail
   go_ret
   exact ⟨T', rfl, t2, by rw [hT', HX.out, hL], by (repeat (first | exact Below.refl _ _ | assumption | refine Below.drew ?_ | refine Below.al ?_ _ | refine Below.setCell ?_ (by first | exact Nat.le_refl _ | simp <;> omega) _ | refine Below.on ?_ (by assumption)))⟩
  ·have q1 : Op.bytesLess key.toList k.toList = false := lt_asymm hk; have q2 : (key.toList == k.toList) = false := toList_beq' (decide_eq_false (fun e => lt_ne hk e.symm)); have HW : Hid (∀ W, Below w.heap.size w W → _) := fun W hb => ihr S W (later W hb) (hr.later hb) hRr (by omega)
   have HB : Hid (∀ W (L : Tr), Below w.heap.size w W → TrIn S W L → L.n ≤ r.n + 1 → _) := fun W L hb hL hLn => balanced_is (b := b) (k := k) (v := u) (l := l) (r := L) (later W hb) (cell_later hb h0) (cell_later hb h1) (hl.later hb) hL (by omega)
   have HX : Hid (setX (Tr.node b k u l r).list key v = l.list ++ (k, u) :: setX r.list key v) := setX_right hkl hk; have HL : Hid (∀ L : Tr, L.list = setX r.list key v → L.n ≤ r.n + 1) := fun L hL => by rw [← Tr.len, hL, ← Tr.len]; exact setX_len _ _ _
   obtain ⟨pr, hpr⟩ : ∃ p, p = r.pt := ⟨_, rfl⟩; rw [← hpr] at HW h3; clear hpr hn hl hr hR hRl hRr hkl hkr ihl ihr later hS h1 h4 hk; go_enter Tryz.func245, Tryz.ntmps245
   go_wp2_with fail
   go_region_held3 (fun w' => w'.cell? ⟨b, 2, none⟩ = some (.pointer l.pt) ∧ w'.cell? ⟨b, 3, none⟩ = some (.pointer pr) ∧ Below w.heap.size w w')
    ((refine (fun (hB : Below w.heap.size w _) => ⟨cell_later hB h2, cell_later hB h3, hB⟩) ?_; (repeat (first | exact Below.refl _ _ | assumption | refine Below.drew ?_ | refine Below.al ?_ _ | refine Below.setCell ?_ (by first | exact Nat.le_refl _ | simp <;> omega) _ | refine Below.on ?_ (by assumption)))))
    (first
     | (go_at_call 245; refine (HW.out _ ?_).mono ?_; ((repeat (first | exact Below.refl _ _ | assumption | refine Below.drew ?_ | refine Below.al ?_ _ | refine Below.setCell ?_ (by first | exact Nat.le_refl _ | simp <;> omega) _ | refine Below.on ?_ (by assumption)))); rintro e w1 ⟨L, rfl, t1, hL, hb1⟩)
     | (go_at_call 265; refine (HB.out _ L ?_ t1 (HL.out L hL)).mono ?_; ((repeat (first | exact Below.refl _ _ | assumption | refine Below.drew ?_ | refine Below.al ?_ _ | refine Below.setCell ?_ (by first | exact Nat.le_refl _ | simp <;> omega) _ | refine Below.on ?_ (by assumption)))); rintro e w2 ⟨T', rfl, t2, hT', hb2⟩))
   go_wp2_with fail
   go_ret
   exact ⟨T', rfl, t2, by rw [hT', HX.out, hL], by (repeat (first | exact Below.refl _ _ | assumption | refine Below.drew ?_ | refine Below.al ?_ _ | refine Below.setCell ?_ (by first | exact Nat.le_refl _ | simp <;> omega) _ | refine Below.on ?_ (by assumption)))⟩
end Vs
section
open Go.RowKit
def Part (p o k : Nat) (w w' : World) : Prop := ∀ cs t z, w.heap[p]? = some (.cells cs t z) → ∃ cs', w'.heap[p]? = some (.cells cs' t z) ∧ cs'.size = cs.size ∧ ∀ j, j < o ∨ o + k ≤ j → cs'[j]? = cs[j]?
theorem Part.same {p o k : Nat} {w w' : World} (h : w'.heap[p]? = w.heap[p]?) : Part p o k w w' := fun cs t z hc => ⟨cs, h.trans hc, rfl, fun _ _ => rfl⟩
theorem Part.trans {p o k : Nat} {a b c : World} (h : Part p o k a b) (h' : Part p o k b c) : Part p o k a c := fun cs t z hc => by
 obtain ⟨cs1, h1, s1, e1⟩ := h cs t z hc; obtain ⟨cs2, h2, s2, e2⟩ := h' cs1 t z h1; exact ⟨cs2, h2, s2.trans s1, fun j hj => (e2 j hj).trans (e1 j hj)⟩
theorem Part.wide {p o k o' k' : Nat} {w w' : World} (h : Part p o k w w') (h1 : o' ≤ o) (h2 : o + k ≤ o' + k') : Part p o' k' w w' := fun cs t z hc => by
 obtain ⟨cs1, h3, s1, e1⟩ := h cs t z hc; exact ⟨cs1, h3, s1, fun j hj => e1 j (by omega)⟩
theorem Part.below {p o k : Nat} {w w' : World} (h : Below w.heap.size w w') : Part p o k w w' := fun cs t z hc => ⟨cs, (h.block p (Array.getElem?_eq_some_iff.1 hc).1).trans hc, rfl, fun _ _ => rfl⟩
theorem Part.onl {F : Nat → Prop} {p o k : Nat} {w w' : World} (h : Onl F w w') (hp : ¬ F p) : Part p o k w w' := fun cs t z hc => ⟨cs, (h.block p (Array.getElem?_eq_some_iff.1 hc).1 hp).trans hc, rfl, fun _ _ => rfl⟩
theorem heap_put {w : World} {p o : Nat} {cs : Array Value} {t : TypeId} {z : Nat × Nat} (v : Value) (h : w.heap[p]? = some (.cells cs t z)) : (w.setCell ⟨p, o, none⟩ v).heap[p]? = some (.cells (cs.setIfInBounds o v) t z) := by
 obtain ⟨hlt, hk⟩ := Array.getElem?_eq_some_iff.1 h; show (w.heap.modify p _)[p]? = _
 rw [Array.getElem?_eq_getElem (by rw [Array.size_modify]; exact hlt), Array.getElem_modify_self, hk]; rfl
theorem Part.set (w : World) (p o : Nat) (v : Value) : Part p o 1 w (w.setCell ⟨p, o, none⟩ v) := fun cs t z hc => ⟨_, heap_put v hc, by simp, fun j hj => by rw [Array.getElem?_setIfInBounds_ne (by omega)]⟩
theorem Part.al {p o k : Nat} {w w' : World} (h : Part p o k w w') (x : Obj) : Part p o k w (w'.alloc x) := h.trans (Part.below (Below.al (Below.refl _ _) x))
end
namespace Vs
open Go.RowKit Go.Sort
def Xi (w : World) (p o : Nat) (l : List En) : Prop := ∃ (T : Tr) (cs : Array Value) (t : TypeId), w.heap[p]? = some (.cells cs t (0, 0)) ∧ ¬ IxT t ∧ cs[o]? = some (.pointer T.pt) ∧ TrIn (fun _ => True) w T ∧ T.list = l ∧ Rising l
theorem Xi.rising {w : World} {p o : Nat} {l : List En} (h : Xi w p o l) : Rising l := by obtain ⟨T, cs, t, h⟩ := h; exact h.2.2.2.2.2
theorem Xi.lt {w : World} {p o : Nat} {l : List En} (h : Xi w p o l) : p < w.heap.size := by obtain ⟨T, cs, t, hb, _⟩ := h; exact (Array.getElem?_eq_some_iff.1 hb).1
theorem Xi.keepC {w w' : World} {p o : Nat} {l : List En} (h : Xi w p o l) (k : Kp w w') (hp : ∀ cs t, w.heap[p]? = some (.cells cs t (0, 0)) → ∃ cs', w'.heap[p]? = some (.cells cs' t (0, 0)) ∧ cs'[o]? = cs[o]?) : Xi w' p o l := by
 obtain ⟨T, cs, t, hb, hi, hc, ht, hl, hr⟩ := h; obtain ⟨cs', hb', e⟩ := hp cs t hb; exact ⟨T, cs', t, hb', hi, e.trans hc, ht.kp k, hl, hr⟩
theorem Xi.keep {w w' : World} {p o : Nat} {l : List En} (h : Xi w p o l) (k : Kp w w') (hp : w'.heap[p]? = w.heap[p]?) : Xi w' p o l := h.keepC k fun cs t hc => ⟨cs, hp.trans hc, rfl⟩
theorem Xi.later {w w' : World} {p o : Nat} {l : List En} (h : Xi w p o l) (hb : Below w.heap.size w w') : Xi w' p o l := h.keep (Kp.of_below hb) (hb.block p h.lt)
theorem Kp.of_index {w w' : World} {p : Nat} {cs : Array Value} {t : TypeId} {z : Nat × Nat} (h : Onl (fun b => b = p) w w') (hb : w.heap[p]? = some (.cells cs t z)) (hi : ¬ IxT t) : Kp w w' :=
 Kp.of_onl h fun b cs' t' z' hf ho ht => by
  subst hf; rw [hb] at ho; cases ho
  exact hi ht
theorem Xi.put {w : World} {p o : Nat} {cs : Array Value} {t : TypeId} {T T' : Tr} {l : List En} (hb : w.heap[p]? = some (.cells cs t (0, 0))) (hi : ¬ IxT t) (hc : cs[o]? = some (.pointer T.pt)) (ht : TrIn (fun _ => True) w T') (hl : T'.list = l) (hr : Rising l) : Xi (w.setCell ⟨p, o, none⟩ (.pointer T'.pt)) p o l := by
 refine ⟨T', _, t, heap_put _ hb, hi, ?_, ht.kp (Kp.of_index (Onl.set (F := fun b => b = p) (Onl.refl _ _) rfl _ _) hb hi), hl, hr⟩; have hlt := (Array.getElem?_eq_some_iff.1 hc).1; simp [hlt]
theorem setX_length {l : List En} (h : Rising l) (k : ByteArray) (v : Hd) : (setX l k v).length = l.length + (if (getX l k).isSome then 0 else 1) := by
 induction l with
 | nil => rfl
 | cons x l ih =>
  have h' := List.pairwise_cons.1 h; unfold setX; split
  ·rename_i hlt; have : getX (x :: l) k = getX l k := by unfold getX; rw [List.find?_cons_of_neg (by simpa using lt_ne hlt)]
   rw [this, List.length_cons, ih h'.2, List.length_cons]; omega
  ·split
   ·rename_i heq; have : getX (x :: l) k = some x.2 := by unfold getX; rw [List.find?_cons_of_pos (by simpa using heq)]; rfl
    rw [this]; simp
   ·rename_i hnl hne; have : getX (x :: l) k = none := getX_none.2 fun u hu => by
     rcases List.mem_cons.1 hu with e | e
     ·exact hne (by rw [← e])
     ·have h3 := h'.1 _ e; exact hnl h3
    rw [this]; simp
theorem setX_more {l : List En} (h : Rising l) (k : ByteArray) (v : Hd) : decide (l.length < (setX l k v).length) = (getX l k).isNone := by
 rw [setX_length h]; cases getX l k <;> simp
theorem len_is {w : World} {p o : Nat} {l : List En} (h : Xi w p o l) :
  Calls Tryz.prog 244 #[.pointer (some ⟨p, o, none⟩)] w fun e w' => e = .returned (.int .i64 (l.length : Int)) ∧ w' = w := by
 obtain ⟨T, cs, t, hb, hix, hcs, ht, rfl, hr⟩ := h; have c0 : w.cell? ⟨p, o, none⟩ = some (.pointer T.pt) := cob hb hcs; have hc := hid (count_is ht); rw [Tr.len]; obtain ⟨m, hm⟩ : ∃ m, m = T.n := ⟨_, rfl⟩; rw [← hm] at hc ⊢; clear ht hr hb hix hcs hm; go_enter Tryz.func244, Tryz.ntmps244
 go_wp2_with (go_at_call 267; refine hc.out.mono ?_; rintro e w' ⟨rfl, rfl⟩)
 go_ret
 exact ⟨rfl, rfl⟩
def hdv (o : Option Hd) : Value := o.elim (.slice none 0 0) fun v => .slice (some ⟨v.g, 0, none⟩) v.n v.cap
def gotX (o : Option Hd) : Value := .tuple #[hdv o, .bool o.isSome]
theorem get_is {w : World} {p o : Nat} {l : List En} (h : Xi w p o l) (key : ByteArray) :
  Calls Tryz.prog 189 #[.pointer (some ⟨p, o, none⟩), .string key] w fun e w' => e = .returned (gotX (getX l key)) ∧ w' = w := by
 obtain ⟨T, cs, t, hb, hix, hcs, ht, rfl, hr⟩ := h; have c0 : w.cell? ⟨p, o, none⟩ = some (.pointer T.pt) := cob hb hcs; have hf := hid (find_is key ht); have hv := Tr.find_is T key hr; have htf := ht.find key; rw [← hv]; cases hF : T.find key with
 | nil =>
  rw [hF] at hf; simp only [Tr.pt] at hf; clear ht hr hb hix hcs hF htf hv; go_enter Tryz.func189, Tryz.ntmps189
  go_wp2_with (go_at_call 237; refine hf.out.mono ?_; rintro e w' ⟨rfl, rfl⟩)
  go_ret2
  exact ⟨rfl, rfl⟩
 | node b k v tl tr =>
  rw [hF] at hf htf; simp only [Tr.pt] at hf; have n1 := htf.2.2.1; clear ht hr hb hix hcs hF htf hv; go_enter Tryz.func189, Tryz.ntmps189
  go_wp2_with (go_at_call 237; refine hf.out.mono ?_; rintro e w' ⟨rfl, rfl⟩)
  go_ret2
  exact ⟨rfl, rfl⟩
theorem set_is {w : World} {p o : Nat} {l : List En} (h : Xi w p o l) (key : ByteArray) (v : Hd) (hn : l.length + 1 ≤ 1152921504606846976) :
  Calls Tryz.prog 195 #[.pointer (some ⟨p, o, none⟩), .string key, .slice (some ⟨v.g, 0, none⟩) v.n v.cap] w fun e w' => e = .returned (.bool (getX l key).isNone) ∧ Xi w' p o (setX l key v) ∧ Onl (fun b => b = p) w w' ∧ Part p o 1 w w' := by
 have hl0 := hid (len_is h); obtain ⟨T, cs, t, hb, hix, hcs, ht, rfl, hr⟩ := h; have c0 : w.cell? ⟨p, o, none⟩ = some (.pointer T.pt) := cob hb hcs; have f0 : w.frozen? ⟨p, o, none⟩ = false := by simp [World.frozen?, hb]
 have HW : Hid (Calls Tryz.prog 245 #[.pointer T.pt, .string key, .slice (some ⟨v.g, 0, none⟩) v.n v.cap] w fun e w' => ∃ T' : Tr, e = .returned (.pointer T'.pt) ∧ w'.cell? ⟨p, o, none⟩ = some (.pointer T.pt) ∧ w'.frozen? ⟨p, o, none⟩ = false ∧ Hid (Xi (w'.setCell ⟨p, o, none⟩ (.pointer T'.pt)) p o (setX T.list key v)) ∧ Hid (Below w.heap.size w w') ∧
   Calls Tryz.prog 244 #[.pointer (some ⟨p, o, none⟩)] (w'.setCell ⟨p, o, none⟩ (.pointer T'.pt)) fun e w2 => e = .returned (.int .i64 ((setX T.list key v).length : Int)) ∧ w2 = w'.setCell ⟨p, o, none⟩ (.pointer T'.pt)) :=
  (with_is key v T (fun _ => True) w (fun _ _ => trivial) ht hr (by rw [← Tr.len]; exact hn)).mono fun e w' ⟨T', he, t', hl', hb'⟩ => by
   have hbx : w'.heap[p]? = some (.cells cs t (0, 0)) := (hb'.block p (Array.getElem?_eq_some_iff.1 hb).1).trans hb; have hx : Xi (w'.setCell ⟨p, o, none⟩ (.pointer T'.pt)) p o (setX T.list key v) := Xi.put hbx hix hcs t' hl' (setX_rising hr _ _); exact ⟨T', he, cob hbx hcs, by simp [World.frozen?, hbx], hx, hb', len_is hx⟩
 have hm := setX_more hr key v; obtain ⟨n1, h1⟩ : ∃ n, n = T.list.length := ⟨_, rfl⟩; obtain ⟨n2, h2⟩ : ∃ n, n = (setX T.list key v).length := ⟨_, rfl⟩; rw [← h1] at hl0 hm; rw [← h2] at hm HW; clear h1 h2 hn ht hr hb hix hcs; go_enter Tryz.func195, Tryz.ntmps195
 go_wp2_with (first
  | (go_at_call 244; refine hl0.out.mono ?_; clear hl0; rintro e w1 ⟨rfl, rfl⟩)
  | (go_at_call 245; refine HW.out.mono ?_; rintro e w2 ⟨T', rfl, d0, g0, hx, hb2, hl2⟩)
  | (go_at_call 244; refine hl2.mono ?_; rintro e w3 ⟨rfl, rfl⟩))
 go_ret
 exact ⟨by rw [← hm]; rfl, hx.out, Onl.set (F := fun b => b = p) (Onl.of_below hb2.out) rfl _ _, (Part.below hb2.out).trans (Part.set _ _ _ _)⟩
end Vs
end Go.Proofs.YtofpaldolcnmiaaGreat
