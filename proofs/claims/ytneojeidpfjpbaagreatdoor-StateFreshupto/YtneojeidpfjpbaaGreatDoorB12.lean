import Derived.Test.YtneojeidpfjpbaaGreatDoorB11
import Derived.Test.YtneojeidpfjpbaaGreatDoorB03
set_option linter.unusedVariables false
set_option maxHeartbeats 2000000
namespace Go.Proofs.YtneojeidpfjpbaaGreatDoor.Vs
open Go.RowKit Go.Sort
theorem setX_len (l : List En) (k : ByteArray) (v : Hd) : (setX l k v).length ≤ l.length + 1 := by
 induction l with
 | nil => simp [setX]
 | cons x l ih =>
  simp only [setX]; split
  ·simp only [List.length_cons]; omega
  ·split <;> simp only [List.length_cons] <;> omega
theorem balanced_is {S : Nat → Prop} {b : Nat} {k : ByteArray} {v : Hd} {l r : Tr} {w : World} (hS : ∀ j, w.heap.size ≤ j → S j) (h0 : w.cell? ⟨b, 0, none⟩ = some (.string k)) (h1 : w.cell? ⟨b, 1, none⟩ = some (.slice (some ⟨v.g, 0, none⟩) v.n v.cap))
  (hl : TrIn S w l) (hr : TrIn S w r) (hn : l.n + r.n + 1 ≤ 1152921504606846976) :
  Calls Tryz.prog 229 #[.pointer (some ⟨b, 0, none⟩), .pointer l.pt, .pointer r.pt] w fun e w' => ∃ T' : Tr, e = .returned (.pointer T'.pt) ∧ TrIn S w' T' ∧ T'.list = l.list ++ (k, v) :: r.list ∧ Below w.heap.size w w' := by
 have WL : Hid (Calls Tryz.prog 260 #[.pointer l.pt] w fun e w' => e = .returned (.int .i64 ((l.n : Int) + 1)) ∧ w' = w) := weight_is hl (by omega); have WR : Hid (Calls Tryz.prog 260 #[.pointer r.pt] w fun e w' => e = .returned (.int .i64 ((r.n : Int) + 1)) ∧ w' = w) := weight_is hr (by omega); have hwl : IntKind.i64.wrap (3 * ((l.n : Int) + 1)) = 3 * ((l.n : Int) + 1) := by rw [IntKind.wrap_i64]; omega
 have hwr : IntKind.i64.wrap (3 * ((r.n : Int) + 1)) = 3 * ((r.n : Int) + 1) := by rw [IntKind.wrap_i64]; omega
 by_cases hA : 3 * (l.n + 1) < r.n + 1
 ·have q1 : decide (3 * ((l.n : Int) + 1) < (r.n : Int) + 1) = true := decide_eq_true (by omega); cases r with
  | nil => simp only [Tr.n] at hA; omega
  | node rb rk rv i o =>
   have TL := hid (turnedLeft_is hS h0 h1 hl hr (by simp only [Tr.n] at hn; omega)); obtain ⟨m, hm⟩ : ∃ m, m = (Tr.node rb rk rv i o).n := ⟨_, rfl⟩; rw [← hm] at q1 hwr WR; have hmb : m ≤ 1152921504606846976 := by omega
   have hmn : l.n ≤ 1152921504606846976 := by omega
   simp only [Tr.pt] at WR; show Calls Tryz.prog 229 #[.pointer (some ⟨b, 0, none⟩), .pointer l.pt, .pointer (some ⟨rb, 0, none⟩)] w _
   clear hm hA hn h0 h1 hl hr hS; go_enter Tryz.func229, Tryz.ntmps229
   go_wp2_with (first
    | (go_at_call_of 260 l.pt; refine WL.out.mono ?_; rintro e w1 ⟨rfl, rfl⟩)
    | (go_at_call 260; refine WR.out.mono ?_; rintro e w1 ⟨rfl, rfl⟩)
    | (go_at_call 261; refine TL.out.mono ?_; rintro e w1 ⟨T', rfl, t1, hT, hb⟩))
   go_ret
   exact ⟨T', rfl, t1, by simp only [Tr.list]; exact hT, hb⟩
 ·have q1 : decide (3 * ((l.n : Int) + 1) < (r.n : Int) + 1) = false := decide_eq_false (by omega); by_cases hB : 3 * (r.n + 1) < l.n + 1
  ·have q2 : decide (3 * ((r.n : Int) + 1) < (l.n : Int) + 1) = true := decide_eq_true (by omega); cases l with
   | nil => simp only [Tr.n] at hB; omega
   | node rb rk rv o i =>
    have TL := hid (turnedRight_is hS h0 h1 hr hl (by simp only [Tr.n] at hn; omega)); obtain ⟨m, hm⟩ : ∃ m, m = (Tr.node rb rk rv o i).n := ⟨_, rfl⟩; rw [← hm] at q1 q2 hwl WL; have hmb : m ≤ 1152921504606846976 := by omega
    have hmn : r.n ≤ 1152921504606846976 := by omega
    simp only [Tr.pt] at WL; show Calls Tryz.prog 229 #[.pointer (some ⟨b, 0, none⟩), .pointer (some ⟨rb, 0, none⟩), .pointer r.pt] w _
    clear hm hA hB hn h0 h1 hl hr hS; go_enter Tryz.func229, Tryz.ntmps229
    go_wp2_with (first
     | (go_at_call_of 260 r.pt; refine WR.out.mono ?_; rintro e w1 ⟨rfl, rfl⟩)
     | (go_at_call 260; refine WL.out.mono ?_; rintro e w1 ⟨rfl, rfl⟩)
     | (go_at_call 262; refine TL.out.mono ?_; rintro e w1 ⟨T', rfl, t1, hT, hb⟩))
    go_ret
    exact ⟨T', rfl, t1, by simp only [Tr.list]; exact hT, hb⟩
  ·have q2 : decide (3 * ((r.n : Int) + 1) < (l.n : Int) + 1) = false := decide_eq_false (by omega); have TL := hid (over_is hS h0 h1 hl hr (by omega)); have hmb : l.n ≤ 1152921504606846976 := by omega
   have hmn : r.n ≤ 1152921504606846976 := by omega
   obtain ⟨pl, hpl⟩ : ∃ p, p = l.pt := ⟨_, rfl⟩; obtain ⟨pr, hpr⟩ : ∃ p, p = r.pt := ⟨_, rfl⟩; rw [← hpl] at WL; rw [← hpr] at WR; rw [← hpl, ← hpr] at TL ⊢; clear hpl hpr hA hB hn h0 h1 hl hr hS; go_enter Tryz.func229, Tryz.ntmps229
   go_wp2_with (first
    | (go_at_call_of 260 pl; refine WL.out.mono ?_; rintro e w1 ⟨rfl, rfl⟩)
    | (go_at_call_of 260 pr; refine WR.out.mono ?_; rintro e w1 ⟨rfl, rfl⟩)
    | (go_at_call 263; refine TL.out.mono ?_; rintro e w1 ⟨b1, rfl, t1, hb⟩))
   go_ret
   exact ⟨_, rfl, t1, rfl, hb⟩
theorem with_is (key : ByteArray) (v : Hd) (T : Tr) : ∀ (S : Nat → Prop) (w : World), (∀ j, w.heap.size ≤ j → S j) → TrIn S w T → Rising T.list → T.n + 1 ≤ 1152921504606846976 →
  Calls Tryz.prog 188 #[.pointer T.pt, .string key, .slice (some ⟨v.g, 0, none⟩) v.n v.cap] w fun e w' => ∃ T' : Tr, e = .returned (.pointer T'.pt) ∧ TrIn S w' T' ∧ T'.list = setX T.list key v ∧ Below w.heap.size w w' := by
 induction T with
 | nil =>
  intro S w hS hT hR hn; show Calls Tryz.prog 188 #[.pointer none, .string key, .slice (some ⟨v.g, 0, none⟩) v.n v.cap] w _
  have HS := hid hS; clear hS; go_enter Tryz.func188, Tryz.ntmps188
  go_wp2_with fail
  obtain ⟨t1, t2⟩ := node_new (S := S) (w := w) (k := key) (v := v) (l := .nil) (r := .nil) (n := 1) rfl trivial trivial (HS.out _ (Nat.le_refl _)) rfl; go_ret
  exact ⟨_, rfl, t1, rfl, t2⟩
 | node b k u l r ihl ihr =>
  intro S w hS hT hR hn; obtain ⟨hb, h0, h1, h2, h3, h4, hl, hr⟩ := hT; obtain ⟨hRl, hRr, hkl, hkr⟩ := rising_parts hR; simp only [Tr.n] at hn; have later : ∀ W, Below w.heap.size w W → ∀ j, W.heap.size ≤ j → S j := fun W hb j hj => hS j (Nat.le_trans hb.size hj)
  show Calls Tryz.prog 188 #[.pointer (some ⟨b, 0, none⟩), .string key, .slice (some ⟨v.g, 0, none⟩) v.n v.cap] w _
  rcases lt_tri key k with hk | hk | hk
  ·-- the same key
   subst hk; have q1 : Op.bytesLess key.toList key.toList = false := bless_irrefl _; have HN : Hid (∀ W, Below w.heap.size w W → TrIn S (W.alloc (.cells #[.string key, .slice (some ⟨v.g, 0, none⟩) v.n v.cap, .pointer l.pt, .pointer r.pt, .int .i64 ((l.n + 1 + r.n : Nat) : Int)] 249)) (.node W.heap.size key v l r)) := fun W hb =>
    (node_new rfl (hl.later hb) (hr.later hb) (later W hb _ (Nat.le_refl _)) rfl).1
   have HX : Hid (setX (Tr.node b key u l r).list key v = l.list ++ (key, v) :: r.list) := setX_mid hkl; obtain ⟨m, hm⟩ : ∃ m : Int, m = ((l.n + 1 + r.n : Nat) : Int) := ⟨_, rfl⟩; rw [← hm] at HN h4; clear hm hn hl hr hR hRl hRr hkl hkr ihl ihr later hS; go_enter Tryz.func188, Tryz.ntmps188
   go_wp2_with fail
   go_region_held3 (fun w' => w'.cell? ⟨b, 2, none⟩ = some (.pointer l.pt) ∧ w'.cell? ⟨b, 3, none⟩ = some (.pointer r.pt) ∧ w'.cell? ⟨b, 4, none⟩ = some (.int .i64 m) ∧ Below w.heap.size w w')
    ((refine (fun (hB : Below w.heap.size w _) => ⟨cell_later hB h2, cell_later hB h3, cell_later hB h4, hB⟩) ?_; (repeat (first | exact Below.refl _ _ | assumption | refine Below.drew ?_ | refine Below.al ?_ _ | refine Below.setCell ?_ (by first | exact Nat.le_refl _ | (simp; omega) | (simp; done)) _ | refine Below.on ?_ (by assumption)))))
    (fail)
   go_wp2_with fail
   have t1 := HN.out w (Below.refl _ _); go_ret
   exact ⟨_, rfl, t1.later (Below.drew (Below.refl _ _)), by rw [HX.out]; rfl, by (repeat (first | exact Below.refl _ _ | assumption | refine Below.drew ?_ | refine Below.al ?_ _ | refine Below.setCell ?_ (by first | exact Nat.le_refl _ | (simp; omega) | (simp; done)) _ | refine Below.on ?_ (by assumption)))⟩
  ·have q1 : Op.bytesLess key.toList k.toList = true := hk; have HW : Hid (∀ W, Below w.heap.size w W → _) := fun W hb => ihl S W (later W hb) (hl.later hb) hRl (by omega)
   have HB : Hid (∀ W (L : Tr), Below w.heap.size w W → TrIn S W L → L.n ≤ l.n + 1 → _) := fun W L hb hL hLn => balanced_is (b := b) (k := k) (v := u) (l := L) (r := r) (later W hb) (cell_later hb h0) (cell_later hb h1) hL (hr.later hb) (by omega)
   have HX : Hid (setX (Tr.node b k u l r).list key v = setX l.list key v ++ (k, u) :: r.list) := setX_left hk; have HL : Hid (∀ L : Tr, L.list = setX l.list key v → L.n ≤ l.n + 1) := fun L hL => by rw [← Tr.len, hL, ← Tr.len]; exact setX_len _ _ _
   obtain ⟨pl, hpl⟩ : ∃ p, p = l.pt := ⟨_, rfl⟩; rw [← hpl] at HW h2; clear hpl hn hl hr hR hRl hRr hkl hkr ihl ihr later hS h1 h4 hk; go_enter Tryz.func188, Tryz.ntmps188
   go_wp2_with fail
   go_region_held3 (fun w' => w'.cell? ⟨b, 2, none⟩ = some (.pointer pl) ∧ w'.cell? ⟨b, 3, none⟩ = some (.pointer r.pt) ∧ Below w.heap.size w w')
    ((refine (fun (hB : Below w.heap.size w _) => ⟨cell_later hB h2, cell_later hB h3, hB⟩) ?_; (repeat (first | exact Below.refl _ _ | assumption | refine Below.drew ?_ | refine Below.al ?_ _ | refine Below.setCell ?_ (by first | exact Nat.le_refl _ | (simp; omega) | (simp; done)) _ | refine Below.on ?_ (by assumption)))))
    (first
     | (go_at_call 188; refine (HW.out _ ?_).mono ?_; ((repeat (first | exact Below.refl _ _ | assumption | refine Below.drew ?_ | refine Below.al ?_ _ | refine Below.setCell ?_ (by first | exact Nat.le_refl _ | (simp; omega) | (simp; done)) _ | refine Below.on ?_ (by assumption)))); rintro e w1 ⟨L, rfl, t1, hL, hb1⟩)
     | (go_at_call 229; refine (HB.out _ L ?_ t1 (HL.out L hL)).mono ?_; ((repeat (first | exact Below.refl _ _ | assumption | refine Below.drew ?_ | refine Below.al ?_ _ | refine Below.setCell ?_ (by first | exact Nat.le_refl _ | (simp; omega) | (simp; done)) _ | refine Below.on ?_ (by assumption)))); rintro e w2 ⟨T', rfl, t2, hT', hb2⟩))
   go_wp2_with fail
   go_ret
   exact ⟨T', rfl, t2, by rw [hT', HX.out, hL], by (repeat (first | exact Below.refl _ _ | assumption | refine Below.drew ?_ | refine Below.al ?_ _ | refine Below.setCell ?_ (by first | exact Nat.le_refl _ | (simp; omega) | (simp; done)) _ | refine Below.on ?_ (by assumption)))⟩
  ·have q1 : Op.bytesLess key.toList k.toList = false := lt_asymm hk; have q2 : (key.toList == k.toList) = false := toList_beq' (decide_eq_false (fun e => lt_ne hk e.symm)); have HW : Hid (∀ W, Below w.heap.size w W → _) := fun W hb => ihr S W (later W hb) (hr.later hb) hRr (by omega)
   have HB : Hid (∀ W (L : Tr), Below w.heap.size w W → TrIn S W L → L.n ≤ r.n + 1 → _) := fun W L hb hL hLn => balanced_is (b := b) (k := k) (v := u) (l := l) (r := L) (later W hb) (cell_later hb h0) (cell_later hb h1) (hl.later hb) hL (by omega)
   have HX : Hid (setX (Tr.node b k u l r).list key v = l.list ++ (k, u) :: setX r.list key v) := setX_right hkl hk; have HL : Hid (∀ L : Tr, L.list = setX r.list key v → L.n ≤ r.n + 1) := fun L hL => by rw [← Tr.len, hL, ← Tr.len]; exact setX_len _ _ _
   obtain ⟨pr, hpr⟩ : ∃ p, p = r.pt := ⟨_, rfl⟩; rw [← hpr] at HW h3; clear hpr hn hl hr hR hRl hRr hkl hkr ihl ihr later hS h1 h4 hk; go_enter Tryz.func188, Tryz.ntmps188
   go_wp2_with fail
   go_region_held3 (fun w' => w'.cell? ⟨b, 2, none⟩ = some (.pointer l.pt) ∧ w'.cell? ⟨b, 3, none⟩ = some (.pointer pr) ∧ Below w.heap.size w w')
    ((refine (fun (hB : Below w.heap.size w _) => ⟨cell_later hB h2, cell_later hB h3, hB⟩) ?_; (repeat (first | exact Below.refl _ _ | assumption | refine Below.drew ?_ | refine Below.al ?_ _ | refine Below.setCell ?_ (by first | exact Nat.le_refl _ | (simp; omega) | (simp; done)) _ | refine Below.on ?_ (by assumption)))))
    (first
     | (go_at_call 188; refine (HW.out _ ?_).mono ?_; ((repeat (first | exact Below.refl _ _ | assumption | refine Below.drew ?_ | refine Below.al ?_ _ | refine Below.setCell ?_ (by first | exact Nat.le_refl _ | (simp; omega) | (simp; done)) _ | refine Below.on ?_ (by assumption)))); rintro e w1 ⟨L, rfl, t1, hL, hb1⟩)
     | (go_at_call 229; refine (HB.out _ L ?_ t1 (HL.out L hL)).mono ?_; ((repeat (first | exact Below.refl _ _ | assumption | refine Below.drew ?_ | refine Below.al ?_ _ | refine Below.setCell ?_ (by first | exact Nat.le_refl _ | (simp; omega) | (simp; done)) _ | refine Below.on ?_ (by assumption)))); rintro e w2 ⟨T', rfl, t2, hT', hb2⟩))
   go_wp2_with fail
   go_ret
   exact ⟨T', rfl, t2, by rw [hT', HX.out, hL], by (repeat (first | exact Below.refl _ _ | assumption | refine Below.drew ?_ | refine Below.al ?_ _ | refine Below.setCell ?_ (by first | exact Nat.le_refl _ | (simp; omega) | (simp; done)) _ | refine Below.on ?_ (by assumption)))⟩
theorem has_left {l r : List En} {k key : ByteArray} {v : Hd} (h : Rising (l ++ (k, v) :: r)) (hk : lt key k = true) (hg : (getX (l ++ (k, v) :: r) key).isSome = true) : (getX l key).isSome = true := by rwa [getX_left h hk] at hg
theorem has_right {l r : List En} {k key : ByteArray} {v : Hd} (h : Rising (l ++ (k, v) :: r)) (hk : lt k key = true) (hg : (getX (l ++ (k, v) :: r) key).isSome = true) : (getX r key).isSome = true := by rwa [getX_right h hk] at hg
theorem delX_len (l : List En) (k : ByteArray) : (delX l k).length ≤ l.length := List.length_filter_le _ _
theorem without_is (T : Tr) : ∀ (key : ByteArray) (S : Nat → Prop) (w : World), (∀ j, w.heap.size ≤ j → S j) → TrIn S w T → Rising T.list → T.n + 1 ≤ 1152921504606846976 → (getX T.list key).isSome = true →
  Calls Tryz.prog 186 #[.pointer T.pt, .string key] w fun e w' => ∃ T' : Tr, e = .returned (.pointer T'.pt) ∧ TrIn S w' T' ∧ T'.list = delX T.list key ∧ Below w.heap.size w w' := by
 induction T with
 | nil => intro key S w hS hT hR hn hg; cases hg
 | node b k u l r ihl ihr =>
  intro key S w hS hT hR hn hg; obtain ⟨hb, h0, h1, h2, h3, h4, hl, hr⟩ := hT; obtain ⟨hRl, hRr, hkl, hkr⟩ := rising_parts hR; simp only [Tr.n] at hn; have later : ∀ W, Below w.heap.size w W → ∀ j, W.heap.size ≤ j → S j := fun W hb j hj => hS j (Nat.le_trans hb.size hj)
  show Calls Tryz.prog 186 #[.pointer (some ⟨b, 0, none⟩), .string key] w _
  rcases lt_tri key k with hk | hk | hk
  ·-- this key
   subst hk; have q1 : Op.bytesLess key.toList key.toList = false := bless_irrefl _; have HX : Hid (delX (Tr.node b key u l r).list key = l.list ++ r.list) := delX_mid hkl hkr; cases l with
   | nil =>
    simp only [Tr.pt] at h2; have HR := hid hr; clear hn hl hr hR hRl hRr hkl hkr ihl ihr later hS h1 h4 hg; go_enter Tryz.func186, Tryz.ntmps186
    go_wp2_with fail
    go_ret
    exact ⟨r, rfl, HR.out, by rw [HX.out]; rfl, Below.refl _ _⟩
   | node lb lk lv ll lr =>
    have h2' : w.cell? ⟨b, 2, none⟩ = some (.pointer (some ⟨lb, 0, none⟩)) := h2; clear h2; cases r with
    | nil =>
     have h3' : w.cell? ⟨b, 3, none⟩ = some (.pointer none) := h3; have HL := hid hl; clear hn hl hr hR hRl hRr hkl hkr ihl ihr later hS h1 h3 h4 hg; go_enter Tryz.func186, Tryz.ntmps186
     go_wp2_with fail
     go_ret
     exact ⟨.node lb lk lv ll lr, rfl, HL.out, by rw [HX.out]; simp [Tr.list], Below.refl _ _⟩
    | node rb rk rv rl rr =>
     have h3' : w.cell? ⟨b, 3, none⟩ = some (.pointer (some ⟨rb, 0, none⟩)) := h3; have HLe := hid (least_is hr (fun e => by cases e)); obtain ⟨nb, nk, nv, nl, nr, hle, rest, hrest⟩ := Tr.least_spec (.node rb rk rv rl rr) (fun e => by cases e); have hnd := hr.least; rw [hle] at HLe hnd; simp only [Tr.pt] at HLe; have n0 := hnd.2.1; have n1 := hnd.2.2.1; have hgr : (getX (Tr.node rb rk rv rl rr).list nk).isSome = true := by rw [hrest]; simp [getX]
     have hdr : delX (Tr.node rb rk rv rl rr).list nk = rest := by
      have h5 := hRr; rw [hrest] at h5 ⊢; have h6 := List.pairwise_cons.1 h5; exact (delX_mid (l := []) (fun e he => by cases he) (fun e he => h6.1 e he)).trans rfl
     have HW : Hid (∀ W, Below w.heap.size w W → Calls Tryz.prog 186 #[.pointer (some ⟨rb, 0, none⟩), .string nk] W fun e w' => ∃ T' : Tr, e = .returned (.pointer T'.pt) ∧ TrIn S w' T' ∧ T'.list = rest ∧ Below W.heap.size W w') := fun W hb => by
      have := ihr nk S W (later W hb) (hr.later hb) hRr (by omega) hgr; rw [hdr] at this; exact this
     have HB : Hid (∀ W (R : Tr), Below w.heap.size w W → TrIn S W R → R.list = rest → Calls Tryz.prog 229 #[.pointer (some ⟨nb, 0, none⟩), .pointer (some ⟨lb, 0, none⟩), .pointer R.pt] W fun e w' => ∃ T' : Tr, e = .returned (.pointer T'.pt) ∧ TrIn S w' T' ∧ T'.list = (Tr.node lb lk lv ll lr).list ++ (nk, nv) :: R.list ∧ Below W.heap.size W w') := fun W R hb hR' hRl' =>
      balanced_is (b := nb) (k := nk) (v := nv) (l := .node lb lk lv ll lr) (r := R) (later W hb) (cell_later hb n0) (cell_later hb n1) (hl.later hb) hR' (by
       have e1 : R.n = rest.length := by rw [← Tr.len, hRl']
       have e2 : (Tr.node rb rk rv rl rr).n = rest.length + 1 := by rw [← Tr.len, hrest]; rfl
       omega)
     have HE : Hid ((Tr.node rb rk rv rl rr).list = (nk, nv) :: rest) := hrest; clear hn hl hr hR hRl hRr hkl hkr ihl ihr later hS h1 h4 hg h3 hle hnd n1 hgr hdr hrest; go_enter Tryz.func186, Tryz.ntmps186
     go_wp2_with (go_at_call 230; refine HLe.out.mono ?_; rintro e w1 ⟨rfl, rfl⟩)
     go_region_held3 (fun w' => w'.cell? ⟨b, 2, none⟩ = some (.pointer (some ⟨lb, 0, none⟩)) ∧ w'.cell? ⟨b, 3, none⟩ = some (.pointer (some ⟨rb, 0, none⟩)) ∧ w'.cell? ⟨nb, 0, none⟩ = some (.string nk) ∧ Below w1.heap.size w1 w')
      ((refine (fun (hB : Below w1.heap.size w1 _) => ⟨cell_later hB h2', cell_later hB h3', cell_later hB n0, hB⟩) ?_; (repeat (first | exact Below.refl _ _ | assumption | refine Below.drew ?_ | refine Below.al ?_ _ | refine Below.setCell ?_ (by first | exact Nat.le_refl _ | (simp; omega) | (simp; done)) _ | refine Below.on ?_ (by assumption)))))
      (first
       | (go_at_call 186; refine (HW.out _ ?_).mono ?_; ((repeat (first | exact Below.refl _ _ | assumption | refine Below.drew ?_ | refine Below.al ?_ _ | refine Below.setCell ?_ (by first | exact Nat.le_refl _ | (simp; omega) | (simp; done)) _ | refine Below.on ?_ (by assumption)))); rintro e w2 ⟨R, rfl, t1, hR, hb1⟩)
       | (go_at_call 229; refine (HB.out _ R ?_ t1 hR).mono ?_; ((repeat (first | exact Below.refl _ _ | assumption | refine Below.drew ?_ | refine Below.al ?_ _ | refine Below.setCell ?_ (by first | exact Nat.le_refl _ | (simp; omega) | (simp; done)) _ | refine Below.on ?_ (by assumption)))); rintro e w3 ⟨T', rfl, t2, hT', hb2⟩))
     go_wp2_with fail
     go_ret
     exact ⟨T', rfl, t2, by rw [hT', HX.out, hR, HE.out], by (repeat (first | exact Below.refl _ _ | assumption | refine Below.drew ?_ | refine Below.al ?_ _ | refine Below.setCell ?_ (by first | exact Nat.le_refl _ | (simp; omega) | (simp; done)) _ | refine Below.on ?_ (by assumption)))⟩
  ·have q1 : Op.bytesLess key.toList k.toList = true := hk; have HW : Hid (∀ W, Below w.heap.size w W → _) := fun W hb => ihl key S W (later W hb) (hl.later hb) hRl (by omega) (has_left hR hk hg)
   have HB : Hid (∀ W (L : Tr), Below w.heap.size w W → TrIn S W L → L.n ≤ l.n → _) := fun W L hb hL hLn => balanced_is (b := b) (k := k) (v := u) (l := L) (r := r) (later W hb) (cell_later hb h0) (cell_later hb h1) hL (hr.later hb) (by omega)
   have HX : Hid (delX (Tr.node b k u l r).list key = delX l.list key ++ (k, u) :: r.list) := delX_left hkr hk; have HL : Hid (∀ L : Tr, L.list = delX l.list key → L.n ≤ l.n) := fun L hL => by rw [← Tr.len, hL, ← Tr.len]; exact delX_len _ _
   obtain ⟨pl, hpl⟩ : ∃ p, p = l.pt := ⟨_, rfl⟩; rw [← hpl] at HW h2; clear hpl hn hl hr hR hRl hRr hkl hkr ihl ihr later hS h1 h4 hk hg; go_enter Tryz.func186, Tryz.ntmps186
   go_wp2_with fail
   go_region_held3 (fun w' => w'.cell? ⟨b, 2, none⟩ = some (.pointer pl) ∧ w'.cell? ⟨b, 3, none⟩ = some (.pointer r.pt) ∧ Below w.heap.size w w')
    ((refine (fun (hB : Below w.heap.size w _) => ⟨cell_later hB h2, cell_later hB h3, hB⟩) ?_; (repeat (first | exact Below.refl _ _ | assumption | refine Below.drew ?_ | refine Below.al ?_ _ | refine Below.setCell ?_ (by first | exact Nat.le_refl _ | (simp; omega) | (simp; done)) _ | refine Below.on ?_ (by assumption)))))
    (first
     | (go_at_call 186; refine (HW.out _ ?_).mono ?_; ((repeat (first | exact Below.refl _ _ | assumption | refine Below.drew ?_ | refine Below.al ?_ _ | refine Below.setCell ?_ (by first | exact Nat.le_refl _ | (simp; omega) | (simp; done)) _ | refine Below.on ?_ (by assumption)))); rintro e w1 ⟨L, rfl, t1, hL, hb1⟩)
     | (go_at_call 229; refine (HB.out _ L ?_ t1 (HL.out L hL)).mono ?_; ((repeat (first | exact Below.refl _ _ | assumption | refine Below.drew ?_ | refine Below.al ?_ _ | refine Below.setCell ?_ (by first | exact Nat.le_refl _ | (simp; omega) | (simp; done)) _ | refine Below.on ?_ (by assumption)))); rintro e w2 ⟨T', rfl, t2, hT', hb2⟩))
   go_wp2_with fail
   go_ret
   exact ⟨T', rfl, t2, by rw [hT', HX.out, hL], by (repeat (first | exact Below.refl _ _ | assumption | refine Below.drew ?_ | refine Below.al ?_ _ | refine Below.setCell ?_ (by first | exact Nat.le_refl _ | (simp; omega) | (simp; done)) _ | refine Below.on ?_ (by assumption)))⟩
  ·have q1 : Op.bytesLess key.toList k.toList = false := lt_asymm hk; have q2 : (key.toList == k.toList) = false := toList_beq' (decide_eq_false (fun e => lt_ne hk e.symm)); have HW : Hid (∀ W, Below w.heap.size w W → _) := fun W hb => ihr key S W (later W hb) (hr.later hb) hRr (by omega) (has_right hR hk hg)
   have HB : Hid (∀ W (L : Tr), Below w.heap.size w W → TrIn S W L → L.n ≤ r.n → _) := fun W L hb hL hLn => balanced_is (b := b) (k := k) (v := u) (l := l) (r := L) (later W hb) (cell_later hb h0) (cell_later hb h1) (hl.later hb) hL (by omega)
   have HX : Hid (delX (Tr.node b k u l r).list key = l.list ++ (k, u) :: delX r.list key) := delX_right hkl hk; have HL : Hid (∀ L : Tr, L.list = delX r.list key → L.n ≤ r.n) := fun L hL => by rw [← Tr.len, hL, ← Tr.len]; exact delX_len _ _
   obtain ⟨pr, hpr⟩ : ∃ p, p = r.pt := ⟨_, rfl⟩; rw [← hpr] at HW h3; clear hpr hn hl hr hR hRl hRr hkl hkr ihl ihr later hS h1 h4 hk hg; go_enter Tryz.func186, Tryz.ntmps186
   go_wp2_with fail
   go_region_held3 (fun w' => w'.cell? ⟨b, 2, none⟩ = some (.pointer l.pt) ∧ w'.cell? ⟨b, 3, none⟩ = some (.pointer pr) ∧ Below w.heap.size w w')
    ((refine (fun (hB : Below w.heap.size w _) => ⟨cell_later hB h2, cell_later hB h3, hB⟩) ?_; (repeat (first | exact Below.refl _ _ | assumption | refine Below.drew ?_ | refine Below.al ?_ _ | refine Below.setCell ?_ (by first | exact Nat.le_refl _ | (simp; omega) | (simp; done)) _ | refine Below.on ?_ (by assumption)))))
    (first
     | (go_at_call 186; refine (HW.out _ ?_).mono ?_; ((repeat (first | exact Below.refl _ _ | assumption | refine Below.drew ?_ | refine Below.al ?_ _ | refine Below.setCell ?_ (by first | exact Nat.le_refl _ | (simp; omega) | (simp; done)) _ | refine Below.on ?_ (by assumption)))); rintro e w1 ⟨L, rfl, t1, hL, hb1⟩)
     | (go_at_call 229; refine (HB.out _ L ?_ t1 (HL.out L hL)).mono ?_; ((repeat (first | exact Below.refl _ _ | assumption | refine Below.drew ?_ | refine Below.al ?_ _ | refine Below.setCell ?_ (by first | exact Nat.le_refl _ | (simp; omega) | (simp; done)) _ | refine Below.on ?_ (by assumption)))); rintro e w2 ⟨T', rfl, t2, hT', hb2⟩))
   go_wp2_with fail
   go_ret
   exact ⟨T', rfl, t2, by rw [hT', HX.out, hL], by (repeat (first | exact Below.refl _ _ | assumption | refine Below.drew ?_ | refine Below.al ?_ _ | refine Below.setCell ?_ (by first | exact Nat.le_refl _ | (simp; omega) | (simp; done)) _ | refine Below.on ?_ (by assumption)))⟩
def Xi (w : World) (p o : Nat) (l : List En) : Prop := ∃ (T : Tr) (cs : Array Value) (t : TypeId), w.heap[p]? = some (.cells cs t (0, 0)) ∧ ¬ IxT t ∧ cs[o]? = some (.pointer T.pt) ∧ TrIn (fun _ => True) w T ∧ T.list = l ∧ Rising l
theorem Xi.rising {w : World} {p o : Nat} {l : List En} (h : Xi w p o l) : Rising l := by obtain ⟨T, cs, t, h⟩ := h; exact h.2.2.2.2.2
theorem Xi.lt {w : World} {p o : Nat} {l : List En} (h : Xi w p o l) : p < w.heap.size := by obtain ⟨T, cs, t, hb, _⟩ := h; exact (Array.getElem?_eq_some_iff.1 hb).1
theorem Xi.keepC {w w' : World} {p o : Nat} {l : List En} (h : Xi w p o l) (k : Kp w w') (hp : ∀ cs t, w.heap[p]? = some (.cells cs t (0, 0)) → ∃ cs', w'.heap[p]? = some (.cells cs' t (0, 0)) ∧ cs'[o]? = cs[o]?) : Xi w' p o l := by
 obtain ⟨T, cs, t, hb, hi, hc, ht, hl, hr⟩ := h; obtain ⟨cs', hb', e⟩ := hp cs t hb; exact ⟨T, cs', t, hb', hi, e.trans hc, ht.kp k, hl, hr⟩
theorem Xi.keep {w w' : World} {p o : Nat} {l : List En} (h : Xi w p o l) (k : Kp w w') (hp : w'.heap[p]? = w.heap[p]?) : Xi w' p o l := h.keepC k fun cs t hc => ⟨cs, hp.trans hc, rfl⟩
theorem Xi.later {w w' : World} {p o : Nat} {l : List En} (h : Xi w p o l) (hb : Below w.heap.size w w') : Xi w' p o l := h.keep (Kp.of_below hb) (hb.block p h.lt)
theorem Kp.of_index {w w' : World} {p : Nat} {cs : Array Value} {t : TypeId} {z : Nat × Nat} (h : Onl (fun b => b = p) w w') (hb : w.heap[p]? = some (.cells cs t z)) (hi : ¬ IxT t) : Kp w w' :=
 Kp.of_onl h fun b cs' t' z' hf ho ht => by
  subst hf; rw [hb] at ho; cases ho
  exact hi ht
theorem Xi.put {w : World} {p o : Nat} {cs : Array Value} {t : TypeId} {T T' : Tr} {l : List En} (hb : w.heap[p]? = some (.cells cs t (0, 0))) (hi : ¬ IxT t) (hc : cs[o]? = some (.pointer T.pt)) (ht : TrIn (fun _ => True) w T') (hl : T'.list = l) (hr : Rising l) : Xi (w.setCell ⟨p, o, none⟩ (.pointer T'.pt)) p o l := by
 refine ⟨T', _, t, heap_put _ hb, hi, ?_, ht.kp (Kp.of_index (Onl.set (F := fun b => b = p) (Onl.refl _ _) rfl _ _) hb hi), hl, hr⟩; have hlt := (Array.getElem?_eq_some_iff.1 hc).1; simp [hlt]
theorem setX_length {l : List En} (h : Rising l) (k : ByteArray) (v : Hd) : (setX l k v).length = l.length + (if (getX l k).isSome then 0 else 1) := by
 induction l with
 | nil => rfl
 | cons x l ih =>
  have h' := List.pairwise_cons.1 h; unfold setX; split
  ·rename_i hlt; have : getX (x :: l) k = getX l k := by unfold getX; rw [List.find?_cons_of_neg (by simpa using lt_ne hlt)]
   rw [this, List.length_cons, ih h'.2, List.length_cons]; omega
  ·split
   ·rename_i heq; have : getX (x :: l) k = some x.2 := by unfold getX; rw [List.find?_cons_of_pos (by simpa using heq)]; rfl
    rw [this]; simp
   ·rename_i hnl hne; have : getX (x :: l) k = none := getX_none.2 fun u hu => by
     rcases List.mem_cons.1 hu with e | e
     ·exact hne (by rw [← e])
     ·have h3 := h'.1 _ e; exact hnl h3
    rw [this]; simp
theorem setX_more {l : List En} (h : Rising l) (k : ByteArray) (v : Hd) : decide (l.length < (setX l k v).length) = (getX l k).isNone := by
 rw [setX_length h]; cases getX l k <;> simp
theorem len_is {w : World} {p o : Nat} {l : List En} (h : Xi w p o l) :
  Calls Tryz.prog 187 #[.pointer (some ⟨p, o, none⟩)] w fun e w' => e = .returned (.int .i64 (l.length : Int)) ∧ w' = w := by
 obtain ⟨T, cs, t, hb, hix, hcs, ht, rfl, hr⟩ := h; have c0 : w.cell? ⟨p, o, none⟩ = some (.pointer T.pt) := cell_of_obj hb hcs; have hc := hid (count_is ht); rw [Tr.len]; obtain ⟨m, hm⟩ : ∃ m, m = T.n := ⟨_, rfl⟩; rw [← hm] at hc ⊢; clear ht hr hb hix hcs hm; go_enter Tryz.func187, Tryz.ntmps187
 go_wp2_with (go_at_call 231; refine hc.out.mono ?_; rintro e w' ⟨rfl, rfl⟩)
 go_ret
 exact ⟨rfl, rfl⟩
def hdv (o : Option Hd) : Value := o.elim (.slice none 0 0) fun v => .slice (some ⟨v.g, 0, none⟩) v.n v.cap
def gotX (o : Option Hd) : Value := .tuple #[hdv o, .bool o.isSome]
theorem get_is {w : World} {p o : Nat} {l : List En} (h : Xi w p o l) (key : ByteArray) :
  Calls Tryz.prog 129 #[.pointer (some ⟨p, o, none⟩), .string key] w fun e w' => e = .returned (gotX (getX l key)) ∧ w' = w := by
 obtain ⟨T, cs, t, hb, hix, hcs, ht, rfl, hr⟩ := h; have c0 : w.cell? ⟨p, o, none⟩ = some (.pointer T.pt) := cell_of_obj hb hcs; have hf := hid (find_is key ht); have hv := Tr.find_is T key hr; have htf := ht.find key; rw [← hv]; cases hF : T.find key with
 | nil =>
  rw [hF] at hf; simp only [Tr.pt] at hf; clear ht hr hb hix hcs hF htf hv; go_enter Tryz.func129, Tryz.ntmps129
  go_wp2_with (go_at_call 178; refine hf.out.mono ?_; rintro e w' ⟨rfl, rfl⟩)
  go_ret2
  exact ⟨rfl, rfl⟩
 | node b k v tl tr =>
  rw [hF] at hf htf; simp only [Tr.pt] at hf; have n1 := htf.2.2.1; clear ht hr hb hix hcs hF htf hv; go_enter Tryz.func129, Tryz.ntmps129
  go_wp2_with (go_at_call 178; refine hf.out.mono ?_; rintro e w' ⟨rfl, rfl⟩)
  go_ret2
  exact ⟨rfl, rfl⟩
theorem set_is {w : World} {p o : Nat} {l : List En} (h : Xi w p o l) (key : ByteArray) (v : Hd) (hn : l.length + 1 ≤ 1152921504606846976) :
  Calls Tryz.prog 137 #[.pointer (some ⟨p, o, none⟩), .string key, .slice (some ⟨v.g, 0, none⟩) v.n v.cap] w fun e w' => e = .returned (.bool (getX l key).isNone) ∧ Xi w' p o (setX l key v) ∧ Onl (fun b => b = p) w w' ∧ Part p o 1 w w' := by
 have hl0 := hid (len_is h); obtain ⟨T, cs, t, hb, hix, hcs, ht, rfl, hr⟩ := h; have c0 : w.cell? ⟨p, o, none⟩ = some (.pointer T.pt) := cell_of_obj hb hcs; have f0 : w.frozen? ⟨p, o, none⟩ = false := by simp [World.frozen?, hb]
 have HW : Hid (Calls Tryz.prog 188 #[.pointer T.pt, .string key, .slice (some ⟨v.g, 0, none⟩) v.n v.cap] w fun e w' => ∃ T' : Tr, e = .returned (.pointer T'.pt) ∧ w'.cell? ⟨p, o, none⟩ = some (.pointer T.pt) ∧ w'.frozen? ⟨p, o, none⟩ = false ∧ Hid (Xi (w'.setCell ⟨p, o, none⟩ (.pointer T'.pt)) p o (setX T.list key v)) ∧ Hid (Below w.heap.size w w') ∧
   Calls Tryz.prog 187 #[.pointer (some ⟨p, o, none⟩)] (w'.setCell ⟨p, o, none⟩ (.pointer T'.pt)) fun e w2 => e = .returned (.int .i64 ((setX T.list key v).length : Int)) ∧ w2 = w'.setCell ⟨p, o, none⟩ (.pointer T'.pt)) :=
  (with_is key v T (fun _ => True) w (fun _ _ => trivial) ht hr (by rw [← Tr.len]; exact hn)).mono fun e w' ⟨T', he, t', hl', hb'⟩ => by
   have hbx : w'.heap[p]? = some (.cells cs t (0, 0)) := (hb'.block p (Array.getElem?_eq_some_iff.1 hb).1).trans hb; have hx : Xi (w'.setCell ⟨p, o, none⟩ (.pointer T'.pt)) p o (setX T.list key v) := Xi.put hbx hix hcs t' hl' (setX_rising hr _ _); exact ⟨T', he, cell_of_obj hbx hcs, by simp [World.frozen?, hbx], hx, hb', len_is hx⟩
 have hm := setX_more hr key v; obtain ⟨n1, h1⟩ : ∃ n, n = T.list.length := ⟨_, rfl⟩; obtain ⟨n2, h2⟩ : ∃ n, n = (setX T.list key v).length := ⟨_, rfl⟩; rw [← h1] at hl0 hm; rw [← h2] at hm HW; clear h1 h2 hn ht hr hb hix hcs; go_enter Tryz.func137, Tryz.ntmps137
 go_wp2_with (first
  | (go_at_call 187; refine hl0.out.mono ?_; clear hl0; rintro e w1 ⟨rfl, rfl⟩)
  | (go_at_call 188; refine HW.out.mono ?_; rintro e w2 ⟨T', rfl, d0, g0, hx, hb2, hl2⟩)
  | (go_at_call 187; refine hl2.mono ?_; rintro e w3 ⟨rfl, rfl⟩))
 go_ret
 exact ⟨by rw [← hm]; rfl, hx.out, Onl.set (F := fun b => b = p) (Onl.of_below hb2.out) rfl _ _, (Part.below hb2.out).trans (Part.set _ _ _ _)⟩
theorem del_is {w : World} {p o : Nat} {l : List En} (h : Xi w p o l) (key : ByteArray) (hn : l.length + 1 ≤ 1152921504606846976) :
  Calls Tryz.prog 136 #[.pointer (some ⟨p, o, none⟩), .string key] w fun e w' => e = .returned (.bool (getX l key).isSome) ∧ Xi w' p o (delX l key) ∧ Onl (fun b => b = p) w w' ∧ Part p o 1 w w' := by
 have hX := hid h; obtain ⟨T, cs, t, hb, hix, hcs, ht, rfl, hr⟩ := h; have c0 : w.cell? ⟨p, o, none⟩ = some (.pointer T.pt) := cell_of_obj hb hcs; have f0 : w.frozen? ⟨p, o, none⟩ = false := by simp [World.frozen?, hb]
 have hf := hid (find_is key ht); have hv := Tr.find_is T key hr; cases hF : T.find key with
 | nil =>
  rw [hF] at hf hv; simp only [Tr.pt] at hf; have hg : getX T.list key = none := hv.symm; have hd : delX T.list key = T.list := delX_none fun e he e' => getX_none.1 hg e.2 (by rw [← e']; exact he)
  rw [hg, hd]; clear ht hr hb hix hcs hF hv hd hg; go_enter Tryz.func136, Tryz.ntmps136
  go_wp2_with (go_at_call 178; refine hf.out.mono ?_; rintro e w' ⟨rfl, rfl⟩)
  go_ret
  exact ⟨rfl, hX.out, Onl.refl _ _, Part.refl _ _ _ _⟩
 | node b k v tl tr =>
  rw [hF] at hf hv; simp only [Tr.pt] at hf; have hg : getX T.list key = some v := hv.symm; have HW : Hid (Calls Tryz.prog 186 #[.pointer T.pt, .string key] w fun e w' => ∃ T' : Tr, e = .returned (.pointer T'.pt) ∧ w'.cell? ⟨p, o, none⟩ = some (.pointer T.pt) ∧ w'.frozen? ⟨p, o, none⟩ = false ∧ Hid (Xi (w'.setCell ⟨p, o, none⟩ (.pointer T'.pt)) p o (delX T.list key)) ∧ Hid (Below w.heap.size w w')) :=
   (without_is T key (fun _ => True) w (fun _ _ => trivial) ht hr (by rw [← Tr.len]; exact hn) (by rw [hg]; rfl)).mono fun e w' ⟨T', he, t', hl', hb'⟩ => by
    have hbx : w'.heap[p]? = some (.cells cs t (0, 0)) := (hb'.block p (Array.getElem?_eq_some_iff.1 hb).1).trans hb; have hx : Xi (w'.setCell ⟨p, o, none⟩ (.pointer T'.pt)) p o (delX T.list key) := Xi.put hbx hix hcs t' hl' (delX_rising hr _); exact ⟨T', he, cell_of_obj hbx hcs, by simp [World.frozen?, hbx], hx, hb'⟩
  rw [hg]; clear ht hr hb hix hcs hF hv hg hX; go_enter Tryz.func136, Tryz.ntmps136
  go_wp2_with (first
   | (go_at_call 178; refine hf.out.mono ?_; rintro e w' ⟨rfl, rfl⟩)
   | (go_at_call 186; refine HW.out.mono ?_; rintro e w2 ⟨T', rfl, d0, g0, hx, hb2⟩))
  go_ret
  exact ⟨rfl, hx.out, Onl.set (F := fun b => b = p) (Onl.of_below hb2.out) rfl _ _, (Part.below hb2.out).trans (Part.set _ _ _ _)⟩
end Go.Proofs.YtneojeidpfjpbaaGreatDoor.Vs
