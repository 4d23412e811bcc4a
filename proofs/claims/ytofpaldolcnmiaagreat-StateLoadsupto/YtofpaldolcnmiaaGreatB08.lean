import Derived.Test.YtofpaldolcnmiaaGreatB06
set_option linter.unusedVariables false
set_option maxHeartbeats 1000000
namespace Go.Proofs.YtofpaldolcnmiaaGreat.Vs
open Go.RowKit Go.Sort
theorem turnedLeft_is {S : Nat → Prop} {b : Nat} {k : ByteArray} {v : Hd} {l i o : Tr} {rb : Nat} {rk : ByteArray} {rv : Hd} {w : World} (hS : ∀ j, w.heap.size ≤ j → S j) (h0 : w.cell? ⟨b, 0, none⟩ = some (.string k)) (h1 : w.cell? ⟨b, 1, none⟩ = some (.slice (some ⟨v.g, 0, none⟩) v.n v.cap))
  (hx : TrIn S w l) (hr : TrIn S w (.node rb rk rv i o)) (hn : l.n + i.n + o.n + 1 ≤ 1152921504606846976) :
  Calls Tryz.prog 277 #[.pointer (some ⟨b, 0, none⟩), .pointer l.pt, .pointer (some ⟨rb, 0, none⟩)] w fun e w' => ∃ T' : Tr, e = .returned (.pointer T'.pt) ∧ TrIn S w' T' ∧ T'.list = l.list ++ (k, v) :: (i.list ++ (rk, rv) :: o.list) ∧ Below w.heap.size w w' := by
 obtain ⟨hrb, r0, r1, r2, r3, r4, hin1, hin2⟩ := hr; clear r4; obtain ⟨hi, ho⟩ : TrIn S w i ∧ TrIn S w o := ⟨hin1, hin2⟩; clear hin1 hin2; have WI : Hid (∀ W, Below w.heap.size w W → Calls Tryz.prog 276 #[.pointer i.pt] W fun e w' => e = .returned (.int .i64 ((i.n : Int) + 1)) ∧ w' = W) := fun W hb => weight_is (hi.later hb) (by omega)
 have WO : Hid (∀ W, Below w.heap.size w W → Calls Tryz.prog 276 #[.pointer o.pt] W fun e w' => e = .returned (.int .i64 ((o.n : Int) + 1)) ∧ w' = W) := fun W hb => weight_is (ho.later hb) (by omega)
 have HS := hid hS; clear hS; have later : ∀ W, Below w.heap.size w W → ∀ j, W.heap.size ≤ j → S j := fun W hb j hj => HS.out j (Nat.le_trans hb.size hj)
 have hw2 : IntKind.i64.wrap (2 * ((o.n : Int) + 1)) = 2 * ((o.n : Int) + 1) := by rw [IntKind.wrap_i64]; omega
 by_cases hlt : i.n + 1 < 2 * (o.n + 1)
 ·have hlt' : decide (((i.n : Int) + 1) < 2 * ((o.n : Int) + 1)) = true := decide_eq_true (by omega); have O1 : Hid (∀ W, Below w.heap.size w W → Calls Tryz.prog 279 #[.pointer (some ⟨b, 0, none⟩), .pointer l.pt, .pointer i.pt] W fun e w' => ∃ b', e = .returned (.pointer (some ⟨b', 0, none⟩)) ∧ TrIn S w' (.node b' k v l i) ∧ Below W.heap.size W w') := fun W hb =>
   over_is (later W hb) (cell_later hb h0) (cell_later hb h1) (hx.later hb) (hi.later hb) (by omega)
  have O2 : Hid (∀ W b1, Below w.heap.size w W → TrIn S W (.node b1 k v l i) → Calls Tryz.prog 279 #[.pointer (some ⟨rb, 0, none⟩), .pointer (some ⟨b1, 0, none⟩), .pointer o.pt] W fun e w' => ∃ b', e = .returned (.pointer (some ⟨b', 0, none⟩)) ∧ TrIn S w' (.node b' rk rv (.node b1 k v l i) o) ∧ Below W.heap.size W w') := fun W b1 hb ht =>
   over_is (l := .node b1 k v l i) (later W hb) (cell_later hb r0) (cell_later hb r1) ht (ho.later hb) (by simp only [Tr.n]; omega)
  obtain ⟨ni, hni⟩ : ∃ m, m = i.n := ⟨_, rfl⟩; obtain ⟨no, hno⟩ : ∃ m, m = o.n := ⟨_, rfl⟩; rw [← hni] at WI hlt'; rw [← hno] at WO hlt' hw2; obtain ⟨pi, hpi⟩ : ∃ p, p = i.pt := ⟨_, rfl⟩; obtain ⟨po, hpo⟩ : ∃ p, p = o.pt := ⟨_, rfl⟩; obtain ⟨px, hpx⟩ : ∃ p, p = l.pt := ⟨_, rfl⟩; rw [← hpi] at WI O1 r2; rw [← hpo] at WO O2 r3; rw [← hpx] at O1 ⊢; have hn' : no ≤ 1152921504606846976 := by omega
  clear hni hno hpi hpo hpx hlt hn hi ho hx later r0 r1 h0 h1 HS; go_enter Tryz.func277, Tryz.ntmps277
  go_wp2_with fail
  go_region
  go_wp2_with (first
   | (go_at_call_of 276 pi; refine (WI.out _ ?_).mono ?_; ((repeat (first | exact Below.refl _ _ | assumption | refine Below.drew ?_ | refine Below.al ?_ _ | refine Below.setCell ?_ (by first | exact Nat.le_refl _ | simp <;> omega) _ | refine Below.on ?_ (by assumption)))); rintro e w1 ⟨rfl, rfl⟩)
   | (go_at_call_of 276 po; refine (WO.out _ ?_).mono ?_; ((repeat (first | exact Below.refl _ _ | assumption | refine Below.drew ?_ | refine Below.al ?_ _ | refine Below.setCell ?_ (by first | exact Nat.le_refl _ | simp <;> omega) _ | refine Below.on ?_ (by assumption)))); rintro e w1 ⟨rfl, rfl⟩)
   | (go_at_call_of 279 px; refine (O1.out _ ?_).mono ?_; ((repeat (first | exact Below.refl _ _ | assumption | refine Below.drew ?_ | refine Below.al ?_ _ | refine Below.setCell ?_ (by first | exact Nat.le_refl _ | simp <;> omega) _ | refine Below.on ?_ (by assumption)))); rintro e w1 ⟨b1, rfl, t1, hb1⟩)
   | (go_at_call_of 279 po; refine (O2.out _ b1 ?_ t1).mono ?_; ((repeat (first | exact Below.refl _ _ | assumption | refine Below.drew ?_ | refine Below.al ?_ _ | refine Below.setCell ?_ (by first | exact Nat.le_refl _ | simp <;> omega) _ | refine Below.on ?_ (by assumption)))); rintro e w2 ⟨b2, rfl, t2, hb2⟩))
  go_ret
  exact ⟨.node b2 rk rv (.node b1 k v l i) o, rfl, t2, by simp [Tr.list], by (repeat (first | exact Below.refl _ _ | assumption | refine Below.drew ?_ | refine Below.al ?_ _ | refine Below.setCell ?_ (by first | exact Nat.le_refl _ | simp <;> omega) _ | refine Below.on ?_ (by assumption)))⟩
 ·have hlt' : decide (((i.n : Int) + 1) < 2 * ((o.n : Int) + 1)) = false := decide_eq_false (by omega); cases i with
  | nil => simp only [Tr.n] at hlt; omega
  | node ib ik iv c d =>
   obtain ⟨hib, i0, i1, i2, i3, i4, hin1, hin2⟩ := hi; clear i4; obtain ⟨hc, hd⟩ : TrIn S w c ∧ TrIn S w d := ⟨hin1, hin2⟩; clear hin1 hin2; simp only [Tr.n] at hn; have O1 : Hid (∀ W, Below w.heap.size w W → Calls Tryz.prog 279 #[.pointer (some ⟨b, 0, none⟩), .pointer l.pt, .pointer c.pt] W fun e w' => ∃ b', e = .returned (.pointer (some ⟨b', 0, none⟩)) ∧ TrIn S w' (.node b' k v l c) ∧ Below W.heap.size W w') := fun W hb =>
    over_is (later W hb) (cell_later hb h0) (cell_later hb h1) (hx.later hb) (hc.later hb) (by omega)
   have O2 : Hid (∀ W, Below w.heap.size w W → Calls Tryz.prog 279 #[.pointer (some ⟨rb, 0, none⟩), .pointer d.pt, .pointer o.pt] W fun e w' => ∃ b', e = .returned (.pointer (some ⟨b', 0, none⟩)) ∧ TrIn S w' (.node b' rk rv d o) ∧ Below W.heap.size W w') := fun W hb =>
    over_is (later W hb) (cell_later hb r0) (cell_later hb r1) (hd.later hb) (ho.later hb) (by omega)
   have O3 : Hid (∀ W b1 b2, Below w.heap.size w W → TrIn S W (.node b1 k v l c) → TrIn S W (.node b2 rk rv d o) → Calls Tryz.prog 279 #[.pointer (some ⟨ib, 0, none⟩), .pointer (some ⟨b1, 0, none⟩), .pointer (some ⟨b2, 0, none⟩)] W fun e w' => ∃ b', e = .returned (.pointer (some ⟨b', 0, none⟩)) ∧ TrIn S w' (.node b' ik iv (.node b1 k v l c) (.node b2 rk rv d o)) ∧ Below W.heap.size W w') := fun W b1 b2 hb ht hu =>
    over_is (l := .node b1 k v l c) (r := .node b2 rk rv d o) (later W hb) (cell_later hb i0) (cell_later hb i1) ht hu (by simp only [Tr.n]; omega)
   simp only [Tr.pt] at r2 WI; obtain ⟨ni, hni⟩ : ∃ m, m = (Tr.node ib ik iv c d).n := ⟨_, rfl⟩; obtain ⟨no, hno⟩ : ∃ m, m = o.n := ⟨_, rfl⟩; rw [← hni] at WI hlt'; rw [← hno] at WO hlt' hw2; obtain ⟨pc, hpc⟩ : ∃ p, p = c.pt := ⟨_, rfl⟩; obtain ⟨pd, hpd⟩ : ∃ p, p = d.pt := ⟨_, rfl⟩; obtain ⟨po, hpo⟩ : ∃ p, p = o.pt := ⟨_, rfl⟩; obtain ⟨px, hpx⟩ : ∃ p, p = l.pt := ⟨_, rfl⟩; rw [← hpc] at O1 i2; rw [← hpd] at O2 i3; rw [← hpo] at WO O2 r3; rw [← hpx] at O1 ⊢; have hn' : no ≤ 1152921504606846976 := by omega
   clear hni hno hpc hpd hpo hpx hlt hn hc hd ho hx later r0 r1 h0 h1 i0 i1 HS; go_enter Tryz.func277, Tryz.ntmps277
   go_wp2_with fail
   go_region
   go_wp2_with (first
    | (go_at_call_of 276 po; refine (WO.out _ ?_).mono ?_; ((repeat (first | exact Below.refl _ _ | assumption | refine Below.drew ?_ | refine Below.al ?_ _ | refine Below.setCell ?_ (by first | exact Nat.le_refl _ | simp <;> omega) _ | refine Below.on ?_ (by assumption)))); rintro e w1 ⟨rfl, rfl⟩)
    | (go_at_call 276; refine (WI.out _ ?_).mono ?_; ((repeat (first | exact Below.refl _ _ | assumption | refine Below.drew ?_ | refine Below.al ?_ _ | refine Below.setCell ?_ (by first | exact Nat.le_refl _ | simp <;> omega) _ | refine Below.on ?_ (by assumption)))); rintro e w1 ⟨rfl, rfl⟩))
   go_region_held3 (fun w' => w'.cell? ⟨ib, 2, none⟩ = some (.pointer pc) ∧ w'.cell? ⟨ib, 3, none⟩ = some (.pointer pd) ∧ Below w.heap.size w w')
    ((refine (fun (hB : Below w.heap.size w _) => ⟨cell_later hB i2, cell_later hB i3, hB⟩) ?_; (repeat (first | exact Below.refl _ _ | assumption | refine Below.drew ?_ | refine Below.al ?_ _ | refine Below.setCell ?_ (by first | exact Nat.le_refl _ | simp <;> omega) _ | refine Below.on ?_ (by assumption)))))
    (first
     | (go_at_call_of 279 px; refine (O1.out _ ?_).mono ?_; ((repeat (first | exact Below.refl _ _ | assumption | refine Below.drew ?_ | refine Below.al ?_ _ | refine Below.setCell ?_ (by first | exact Nat.le_refl _ | simp <;> omega) _ | refine Below.on ?_ (by assumption)))); rintro e w1 ⟨b1, rfl, t1, hb1⟩)
     | (go_at_call_of 279 po; refine (O2.out _ ?_).mono ?_; ((repeat (first | exact Below.refl _ _ | assumption | refine Below.drew ?_ | refine Below.al ?_ _ | refine Below.setCell ?_ (by first | exact Nat.le_refl _ | simp <;> omega) _ | refine Below.on ?_ (by assumption)))); rintro e w2 ⟨b2, rfl, t2, hb2⟩)
     | (go_at_call 279; refine (O3.out _ b1 b2 ?_ (t1.later ?_) (t2.later ?_)).mono ?_; ((repeat (first | exact Below.refl _ _ | assumption | refine Below.drew ?_ | refine Below.al ?_ _ | refine Below.setCell ?_ (by first | exact Nat.le_refl _ | simp <;> omega) _ | refine Below.on ?_ (by assumption)))); ((repeat (first | exact Below.refl _ _ | assumption | refine Below.drew ?_ | refine Below.al ?_ _ | refine Below.setCell ?_ (by first | exact Nat.le_refl _ | simp <;> omega) _ | refine Below.on ?_ (by assumption)))); ((repeat (first | exact Below.refl _ _ | assumption | refine Below.drew ?_ | refine Below.al ?_ _ | refine Below.setCell ?_ (by first | exact Nat.le_refl _ | simp <;> omega) _ | refine Below.on ?_ (by assumption)))); rintro e w3 ⟨b3, rfl, t3, hb3⟩))
   all_goals go_wp2_with fail
   all_goals go_ret
   all_goals exact ⟨.node b3 ik iv (.node b1 k v l c) (.node b2 rk rv d o), rfl, t3, by simp [Tr.list], by (repeat (first | exact Below.refl _ _ | assumption | refine Below.drew ?_ | refine Below.al ?_ _ | refine Below.setCell ?_ (by first | exact Nat.le_refl _ | simp <;> omega) _ | refine Below.on ?_ (by assumption)))⟩
theorem turnedRight_is {S : Nat → Prop} {b : Nat} {k : ByteArray} {v : Hd} {r i o : Tr} {rb : Nat} {rk : ByteArray} {rv : Hd} {w : World} (hS : ∀ j, w.heap.size ≤ j → S j) (h0 : w.cell? ⟨b, 0, none⟩ = some (.string k)) (h1 : w.cell? ⟨b, 1, none⟩ = some (.slice (some ⟨v.g, 0, none⟩) v.n v.cap))
  (hx : TrIn S w r) (hr : TrIn S w (.node rb rk rv o i)) (hn : r.n + i.n + o.n + 1 ≤ 1152921504606846976) :
  Calls Tryz.prog 278 #[.pointer (some ⟨b, 0, none⟩), .pointer (some ⟨rb, 0, none⟩), .pointer r.pt] w fun e w' => ∃ T' : Tr, e = .returned (.pointer T'.pt) ∧ TrIn S w' T' ∧ T'.list = (o.list ++ (rk, rv) :: i.list) ++ (k, v) :: r.list ∧ Below w.heap.size w w' := by
 obtain ⟨hrb, r0, r1, r2, r3, r4, hin1, hin2⟩ := hr; clear r4; obtain ⟨hi, ho⟩ : TrIn S w i ∧ TrIn S w o := ⟨hin2, hin1⟩; clear hin1 hin2; have WI : Hid (∀ W, Below w.heap.size w W → Calls Tryz.prog 276 #[.pointer i.pt] W fun e w' => e = .returned (.int .i64 ((i.n : Int) + 1)) ∧ w' = W) := fun W hb => weight_is (hi.later hb) (by omega)
 have WO : Hid (∀ W, Below w.heap.size w W → Calls Tryz.prog 276 #[.pointer o.pt] W fun e w' => e = .returned (.int .i64 ((o.n : Int) + 1)) ∧ w' = W) := fun W hb => weight_is (ho.later hb) (by omega)
 have HS := hid hS; clear hS; have later : ∀ W, Below w.heap.size w W → ∀ j, W.heap.size ≤ j → S j := fun W hb j hj => HS.out j (Nat.le_trans hb.size hj)
 have hw2 : IntKind.i64.wrap (2 * ((o.n : Int) + 1)) = 2 * ((o.n : Int) + 1) := by rw [IntKind.wrap_i64]; omega
 by_cases hlt : i.n + 1 < 2 * (o.n + 1)
 ·have hlt' : decide (((i.n : Int) + 1) < 2 * ((o.n : Int) + 1)) = true := decide_eq_true (by omega); have O1 : Hid (∀ W, Below w.heap.size w W → Calls Tryz.prog 279 #[.pointer (some ⟨b, 0, none⟩), .pointer i.pt, .pointer r.pt] W fun e w' => ∃ b', e = .returned (.pointer (some ⟨b', 0, none⟩)) ∧ TrIn S w' (.node b' k v i r) ∧ Below W.heap.size W w') := fun W hb =>
   over_is (later W hb) (cell_later hb h0) (cell_later hb h1) (hi.later hb) (hx.later hb) (by omega)
  have O2 : Hid (∀ W b1, Below w.heap.size w W → TrIn S W (.node b1 k v i r) → Calls Tryz.prog 279 #[.pointer (some ⟨rb, 0, none⟩), .pointer o.pt, .pointer (some ⟨b1, 0, none⟩)] W fun e w' => ∃ b', e = .returned (.pointer (some ⟨b', 0, none⟩)) ∧ TrIn S w' (.node b' rk rv o (.node b1 k v i r)) ∧ Below W.heap.size W w') := fun W b1 hb ht =>
   over_is (r := .node b1 k v i r) (later W hb) (cell_later hb r0) (cell_later hb r1) (ho.later hb) ht (by simp only [Tr.n]; omega)
  obtain ⟨ni, hni⟩ : ∃ m, m = i.n := ⟨_, rfl⟩; obtain ⟨no, hno⟩ : ∃ m, m = o.n := ⟨_, rfl⟩; rw [← hni] at WI hlt'; rw [← hno] at WO hlt' hw2; obtain ⟨pi, hpi⟩ : ∃ p, p = i.pt := ⟨_, rfl⟩; obtain ⟨po, hpo⟩ : ∃ p, p = o.pt := ⟨_, rfl⟩; obtain ⟨px, hpx⟩ : ∃ p, p = r.pt := ⟨_, rfl⟩; rw [← hpi] at WI O1 r3; rw [← hpo] at WO O2 r2; rw [← hpx] at O1 ⊢; have hn' : no ≤ 1152921504606846976 := by omega
  clear hni hno hpi hpo hpx hlt hn hi ho hx later r0 r1 h0 h1 HS; go_enter Tryz.func278, Tryz.ntmps278
  go_wp2_with fail
  go_region
  go_wp2_with (first
   | (go_at_call_of 276 pi; refine (WI.out _ ?_).mono ?_; ((repeat (first | exact Below.refl _ _ | assumption | refine Below.drew ?_ | refine Below.al ?_ _ | refine Below.setCell ?_ (by first | exact Nat.le_refl _ | simp <;> omega) _ | refine Below.on ?_ (by assumption)))); rintro e w1 ⟨rfl, rfl⟩)
   | (go_at_call_of 276 po; refine (WO.out _ ?_).mono ?_; ((repeat (first | exact Below.refl _ _ | assumption | refine Below.drew ?_ | refine Below.al ?_ _ | refine Below.setCell ?_ (by first | exact Nat.le_refl _ | simp <;> omega) _ | refine Below.on ?_ (by assumption)))); rintro e w1 ⟨rfl, rfl⟩)
   | (go_at_call_of 279 px; refine (O1.out _ ?_).mono ?_; ((repeat (first | exact Below.refl _ _ | assumption | refine Below.drew ?_ | refine Below.al ?_ _ | refine Below.setCell ?_ (by first | exact Nat.le_refl _ | simp <;> omega) _ | refine Below.on ?_ (by assumption)))); rintro e w1 ⟨b1, rfl, t1, hb1⟩)
   | (go_at_call_of 279 po; refine (O2.out _ b1 ?_ t1).mono ?_; ((repeat (first | exact Below.refl _ _ | assumption | refine Below.drew ?_ | refine Below.al ?_ _ | refine Below.setCell ?_ (by first | exact Nat.le_refl _ | simp <;> omega) _ | refine Below.on ?_ (by assumption)))); rintro e w2 ⟨b2, rfl, t2, hb2⟩))
  go_ret
  exact ⟨.node b2 rk rv o (.node b1 k v i r), rfl, t2, by simp [Tr.list], by (repeat (first | exact Below.refl _ _ | assumption | refine Below.drew ?_ | refine Below.al ?_ _ | refine Below.setCell ?_ (by first | exact Nat.le_refl _ | simp <;> omega) _ | refine Below.on ?_ (by assumption)))⟩
 ·have hlt' : decide (((i.n : Int) + 1) < 2 * ((o.n : Int) + 1)) = false := decide_eq_false (by omega); cases i with
  | nil => simp only [Tr.n] at hlt; omega
  | node ib ik iv d c =>
   obtain ⟨hib, i0, i1, i2, i3, i4, hin1, hin2⟩ := hi; clear i4; obtain ⟨hc, hd⟩ : TrIn S w c ∧ TrIn S w d := ⟨hin2, hin1⟩; clear hin1 hin2; simp only [Tr.n] at hn; have O1 : Hid (∀ W, Below w.heap.size w W → Calls Tryz.prog 279 #[.pointer (some ⟨b, 0, none⟩), .pointer c.pt, .pointer r.pt] W fun e w' => ∃ b', e = .returned (.pointer (some ⟨b', 0, none⟩)) ∧ TrIn S w' (.node b' k v c r) ∧ Below W.heap.size W w') := fun W hb =>
    over_is (later W hb) (cell_later hb h0) (cell_later hb h1) (hc.later hb) (hx.later hb) (by omega)
   have O2 : Hid (∀ W, Below w.heap.size w W → Calls Tryz.prog 279 #[.pointer (some ⟨rb, 0, none⟩), .pointer o.pt, .pointer d.pt] W fun e w' => ∃ b', e = .returned (.pointer (some ⟨b', 0, none⟩)) ∧ TrIn S w' (.node b' rk rv o d) ∧ Below W.heap.size W w') := fun W hb =>
    over_is (later W hb) (cell_later hb r0) (cell_later hb r1) (ho.later hb) (hd.later hb) (by omega)
   have O3 : Hid (∀ W b1 b2, Below w.heap.size w W → TrIn S W (.node b1 k v c r) → TrIn S W (.node b2 rk rv o d) → Calls Tryz.prog 279 #[.pointer (some ⟨ib, 0, none⟩), .pointer (some ⟨b2, 0, none⟩), .pointer (some ⟨b1, 0, none⟩)] W fun e w' => ∃ b', e = .returned (.pointer (some ⟨b', 0, none⟩)) ∧ TrIn S w' (.node b' ik iv (.node b2 rk rv o d) (.node b1 k v c r)) ∧ Below W.heap.size W w') := fun W b1 b2 hb ht hu =>
    over_is (r := .node b1 k v c r) (l := .node b2 rk rv o d) (later W hb) (cell_later hb i0) (cell_later hb i1) hu ht (by simp only [Tr.n]; omega)
   simp only [Tr.pt] at r3 WI; obtain ⟨ni, hni⟩ : ∃ m, m = (Tr.node ib ik iv d c).n := ⟨_, rfl⟩; obtain ⟨no, hno⟩ : ∃ m, m = o.n := ⟨_, rfl⟩; rw [← hni] at WI hlt'; rw [← hno] at WO hlt' hw2; obtain ⟨pc, hpc⟩ : ∃ p, p = c.pt := ⟨_, rfl⟩; obtain ⟨pd, hpd⟩ : ∃ p, p = d.pt := ⟨_, rfl⟩; obtain ⟨po, hpo⟩ : ∃ p, p = o.pt := ⟨_, rfl⟩; obtain ⟨px, hpx⟩ : ∃ p, p = r.pt := ⟨_, rfl⟩; rw [← hpc] at O1 i3; rw [← hpd] at O2 i2; rw [← hpo] at WO O2 r2; rw [← hpx] at O1 ⊢; have hn' : no ≤ 1152921504606846976 := by omega
   clear hni hno hpc hpd hpo hpx hlt hn hc hd ho hx later r0 r1 h0 h1 i0 i1 HS; go_enter Tryz.func278, Tryz.ntmps278
   go_wp2_with fail
   go_region
   go_wp2_with (first
    | (go_at_call_of 276 po; refine (WO.out _ ?_).mono ?_; ((repeat (first | exact Below.refl _ _ | assumption | refine Below.drew ?_ | refine Below.al ?_ _ | refine Below.setCell ?_ (by first | exact Nat.le_refl _ | simp <;> omega) _ | refine Below.on ?_ (by assumption)))); rintro e w1 ⟨rfl, rfl⟩)
    | (go_at_call 276; refine (WI.out _ ?_).mono ?_; ((repeat (first | exact Below.refl _ _ | assumption | refine Below.drew ?_ | refine Below.al ?_ _ | refine Below.setCell ?_ (by first | exact Nat.le_refl _ | simp <;> omega) _ | refine Below.on ?_ (by assumption)))); rintro e w1 ⟨rfl, rfl⟩))
   go_region_held3 (fun w' => w'.cell? ⟨ib, 2, none⟩ = some (.pointer pd) ∧ w'.cell? ⟨ib, 3, none⟩ = some (.pointer pc) ∧ Below w.heap.size w w')
    ((refine (fun (hB : Below w.heap.size w _) => ⟨cell_later hB i2, cell_later hB i3, hB⟩) ?_; (repeat (first | exact Below.refl _ _ | assumption | refine Below.drew ?_ | refine Below.al ?_ _ | refine Below.setCell ?_ (by first | exact Nat.le_refl _ | simp <;> omega) _ | refine Below.on ?_ (by assumption)))))
    (first
     | (go_at_call_of 279 px; refine (O1.out _ ?_).mono ?_; ((repeat (first | exact Below.refl _ _ | assumption | refine Below.drew ?_ | refine Below.al ?_ _ | refine Below.setCell ?_ (by first | exact Nat.le_refl _ | simp <;> omega) _ | refine Below.on ?_ (by assumption)))); rintro e w1 ⟨b1, rfl, t1, hb1⟩)
     | (go_at_call_of 279 po; refine (O2.out _ ?_).mono ?_; ((repeat (first | exact Below.refl _ _ | assumption | refine Below.drew ?_ | refine Below.al ?_ _ | refine Below.setCell ?_ (by first | exact Nat.le_refl _ | simp <;> omega) _ | refine Below.on ?_ (by assumption)))); rintro e w2 ⟨b2, rfl, t2, hb2⟩)
     | (go_at_call 279; refine (O3.out _ b1 b2 ?_ (t1.later ?_) (t2.later ?_)).mono ?_; ((repeat (first | exact Below.refl _ _ | assumption | refine Below.drew ?_ | refine Below.al ?_ _ | refine Below.setCell ?_ (by first | exact Nat.le_refl _ | simp <;> omega) _ | refine Below.on ?_ (by assumption)))); ((repeat (first | exact Below.refl _ _ | assumption | refine Below.drew ?_ | refine Below.al ?_ _ | refine Below.setCell ?_ (by first | exact Nat.le_refl _ | simp <;> omega) _ | refine Below.on ?_ (by assumption)))); ((repeat (first | exact Below.refl _ _ | assumption | refine Below.drew ?_ | refine Below.al ?_ _ | refine Below.setCell ?_ (by first | exact Nat.le_refl _ | simp <;> omega) _ | refine Below.on ?_ (by assumption)))); rintro e w3 ⟨b3, rfl, t3, hb3⟩))
   all_goals go_wp2_with fail
   all_goals go_ret
   all_goals exact ⟨.node b3 ik iv (.node b2 rk rv o d) (.node b1 k v c r), rfl, t3, by simp [Tr.list], by (repeat (first | exact Below.refl _ _ | assumption | refine Below.drew ?_ | refine Below.al ?_ _ | refine Below.setCell ?_ (by first | exact Nat.le_refl _ | simp <;> omega) _ | refine Below.on ?_ (by assumption)))⟩
end Go.Proofs.YtofpaldolcnmiaaGreat.Vs
