import Derived.Test.YtmlacdfdpdkdaaaDoorVUpB
namespace Go.Proofs.YtmlacdfdpdkdaaaDoor.Vs
open Go.RowKit Go.Sort
set_option linter.unusedVariables false

set_option maxHeartbeats 1000000 in
theorem turnedLeft_is {S : Nat → Prop} {b : Nat} {k : ByteArray} {v : Hd} {l i o : Tr} {rb : Nat} {rk : ByteArray} {rv : Hd} {w : World} (hS : ∀ j, w.heap.size ≤ j → S j) (h0 : w.cell? ⟨b, 0, none⟩ = some (.string k)) (h1 : w.cell? ⟨b, 1, none⟩ = some (.slice (some ⟨v.g, 0, none⟩) v.n v.cap))
    (hx : TrIn S w l) (hr : TrIn S w (.node rb rk rv i o)) (hn : l.n + i.n + o.n + 1 ≤ 1152921504606846976) :
    Calls Tryd.prog 87 #[.pointer (some ⟨b, 0, none⟩), .pointer l.pt, .pointer (some ⟨rb, 0, none⟩)] w fun e w' => ∃ T' : Tr, e = .returned (.pointer T'.pt) ∧ TrIn S w' T' ∧ T'.list = l.list ++ (k, v) :: (i.list ++ (rk, rv) :: o.list) ∧ Below w.heap.size w w' := by
  obtain ⟨hrb, r0, r1, r2, r3, r4, hin1, hin2⟩ := hr
  clear r4
  obtain ⟨hi, ho⟩ : TrIn S w i ∧ TrIn S w o := ⟨hin1, hin2⟩
  clear hin1 hin2
  have WI : Hid (∀ W, Below w.heap.size w W → Calls Tryd.prog 86 #[.pointer i.pt] W fun e w' => e = .returned (.int .i64 ((i.n : Int) + 1)) ∧ w' = W) := fun W hb => weight_is (hi.later hb) (by omega)
  have WO : Hid (∀ W, Below w.heap.size w W → Calls Tryd.prog 86 #[.pointer o.pt] W fun e w' => e = .returned (.int .i64 ((o.n : Int) + 1)) ∧ w' = W) := fun W hb => weight_is (ho.later hb) (by omega)
  have HS := hid hS
  clear hS
  have later : ∀ W, Below w.heap.size w W → ∀ j, W.heap.size ≤ j → S j := fun W hb j hj => HS.out j (Nat.le_trans hb.size hj)
  have hw2 : IntKind.i64.wrap (2 * ((o.n : Int) + 1)) = 2 * ((o.n : Int) + 1) := by rw [IntKind.wrap_i64]; omega
  by_cases hlt : i.n + 1 < 2 * (o.n + 1)
  · have hlt' : decide (((i.n : Int) + 1) < 2 * ((o.n : Int) + 1)) = true := decide_eq_true (by omega)
    have O1 : Hid (∀ W, Below w.heap.size w W → Calls Tryd.prog 89 #[.pointer (some ⟨b, 0, none⟩), .pointer l.pt, .pointer i.pt] W fun e w' => ∃ b', e = .returned (.pointer (some ⟨b', 0, none⟩)) ∧ TrIn S w' (.node b' k v l i) ∧ Below W.heap.size W w') := fun W hb =>
      over_is (later W hb) (cell_later hb h0) (cell_later hb h1) (hx.later hb) (hi.later hb) (by omega)
    have O2 : Hid (∀ W b1, Below w.heap.size w W → TrIn S W (.node b1 k v l i) → Calls Tryd.prog 89 #[.pointer (some ⟨rb, 0, none⟩), .pointer (some ⟨b1, 0, none⟩), .pointer o.pt] W fun e w' => ∃ b', e = .returned (.pointer (some ⟨b', 0, none⟩)) ∧ TrIn S w' (.node b' rk rv (.node b1 k v l i) o) ∧ Below W.heap.size W w') := fun W b1 hb ht =>
      over_is (l := .node b1 k v l i) (later W hb) (cell_later hb r0) (cell_later hb r1) ht (ho.later hb) (by simp only [Tr.n]; omega)
    obtain ⟨ni, hni⟩ : ∃ m, m = i.n := ⟨_, rfl⟩
    obtain ⟨no, hno⟩ : ∃ m, m = o.n := ⟨_, rfl⟩
    rw [← hni] at WI hlt'
    rw [← hno] at WO hlt' hw2
    obtain ⟨pi, hpi⟩ : ∃ p, p = i.pt := ⟨_, rfl⟩
    obtain ⟨po, hpo⟩ : ∃ p, p = o.pt := ⟨_, rfl⟩
    obtain ⟨px, hpx⟩ : ∃ p, p = l.pt := ⟨_, rfl⟩
    rw [← hpi] at WI O1 r2
    rw [← hpo] at WO O2 r3
    rw [← hpx] at O1 ⊢
    have hn' : no ≤ 1152921504606846976 := by omega
    clear hni hno hpi hpo hpx hlt hn hi ho hx later r0 r1 h0 h1 HS
    go_enter Tryd.func87, Tryd.ntmps87
    go_wp2_with fail
    go_region
    go_wp2_with (first
      | (go_at_call_of 86 pi; refine (WI.out _ ?_).mono ?_; ((repeat (first | exact Below.refl _ _ | assumption | refine Below.drew ?_ | refine Below.al ?_ _ | refine Below.setCell ?_ (by first | exact Nat.le_refl _ | (simp; omega) | (simp; done)) _ | refine Below.on ?_ (by assumption)))); rintro e w1 ⟨rfl, rfl⟩)
      | (go_at_call_of 86 po; refine (WO.out _ ?_).mono ?_; ((repeat (first | exact Below.refl _ _ | assumption | refine Below.drew ?_ | refine Below.al ?_ _ | refine Below.setCell ?_ (by first | exact Nat.le_refl _ | (simp; omega) | (simp; done)) _ | refine Below.on ?_ (by assumption)))); rintro e w1 ⟨rfl, rfl⟩)
      | (go_at_call_of 89 px; refine (O1.out _ ?_).mono ?_; ((repeat (first | exact Below.refl _ _ | assumption | refine Below.drew ?_ | refine Below.al ?_ _ | refine Below.setCell ?_ (by first | exact Nat.le_refl _ | (simp; omega) | (simp; done)) _ | refine Below.on ?_ (by assumption)))); rintro e w1 ⟨b1, rfl, t1, hb1⟩)
      | (go_at_call_of 89 po; refine (O2.out _ b1 ?_ t1).mono ?_; ((repeat (first | exact Below.refl _ _ | assumption | refine Below.drew ?_ | refine Below.al ?_ _ | refine Below.setCell ?_ (by first | exact Nat.le_refl _ | (simp; omega) | (simp; done)) _ | refine Below.on ?_ (by assumption)))); rintro e w2 ⟨b2, rfl, t2, hb2⟩))
    go_ret
    exact ⟨.node b2 rk rv (.node b1 k v l i) o, rfl, t2, by simp [Tr.list], by (repeat (first | exact Below.refl _ _ | assumption | refine Below.drew ?_ | refine Below.al ?_ _ | refine Below.setCell ?_ (by first | exact Nat.le_refl _ | (simp; omega) | (simp; done)) _ | refine Below.on ?_ (by assumption)))⟩
  · have hlt' : decide (((i.n : Int) + 1) < 2 * ((o.n : Int) + 1)) = false := decide_eq_false (by omega)
    cases i with
    | nil => simp only [Tr.n] at hlt; omega
    | node ib ik iv c d =>
      obtain ⟨hib, i0, i1, i2, i3, i4, hin1, hin2⟩ := hi
      clear i4
      obtain ⟨hc, hd⟩ : TrIn S w c ∧ TrIn S w d := ⟨hin1, hin2⟩
      clear hin1 hin2
      simp only [Tr.n] at hn
      have O1 : Hid (∀ W, Below w.heap.size w W → Calls Tryd.prog 89 #[.pointer (some ⟨b, 0, none⟩), .pointer l.pt, .pointer c.pt] W fun e w' => ∃ b', e = .returned (.pointer (some ⟨b', 0, none⟩)) ∧ TrIn S w' (.node b' k v l c) ∧ Below W.heap.size W w') := fun W hb =>
        over_is (later W hb) (cell_later hb h0) (cell_later hb h1) (hx.later hb) (hc.later hb) (by omega)
      have O2 : Hid (∀ W, Below w.heap.size w W → Calls Tryd.prog 89 #[.pointer (some ⟨rb, 0, none⟩), .pointer d.pt, .pointer o.pt] W fun e w' => ∃ b', e = .returned (.pointer (some ⟨b', 0, none⟩)) ∧ TrIn S w' (.node b' rk rv d o) ∧ Below W.heap.size W w') := fun W hb =>
        over_is (later W hb) (cell_later hb r0) (cell_later hb r1) (hd.later hb) (ho.later hb) (by omega)
      have O3 : Hid (∀ W b1 b2, Below w.heap.size w W → TrIn S W (.node b1 k v l c) → TrIn S W (.node b2 rk rv d o) → Calls Tryd.prog 89 #[.pointer (some ⟨ib, 0, none⟩), .pointer (some ⟨b1, 0, none⟩), .pointer (some ⟨b2, 0, none⟩)] W fun e w' => ∃ b', e = .returned (.pointer (some ⟨b', 0, none⟩)) ∧ TrIn S w' (.node b' ik iv (.node b1 k v l c) (.node b2 rk rv d o)) ∧ Below W.heap.size W w') := fun W b1 b2 hb ht hu =>
        over_is (l := .node b1 k v l c) (r := .node b2 rk rv d o) (later W hb) (cell_later hb i0) (cell_later hb i1) ht hu (by simp only [Tr.n]; omega)
      simp only [Tr.pt] at r2 WI
      obtain ⟨ni, hni⟩ : ∃ m, m = (Tr.node ib ik iv c d).n := ⟨_, rfl⟩
      obtain ⟨no, hno⟩ : ∃ m, m = o.n := ⟨_, rfl⟩
      rw [← hni] at WI hlt'
      rw [← hno] at WO hlt' hw2
      obtain ⟨pc, hpc⟩ : ∃ p, p = c.pt := ⟨_, rfl⟩
      obtain ⟨pd, hpd⟩ : ∃ p, p = d.pt := ⟨_, rfl⟩
      obtain ⟨po, hpo⟩ : ∃ p, p = o.pt := ⟨_, rfl⟩
      obtain ⟨px, hpx⟩ : ∃ p, p = l.pt := ⟨_, rfl⟩
      rw [← hpc] at O1 i2
      rw [← hpd] at O2 i3
      rw [← hpo] at WO O2 r3
      rw [← hpx] at O1 ⊢
      have hn' : no ≤ 1152921504606846976 := by omega
      clear hni hno hpc hpd hpo hpx hlt hn hc hd ho hx later r0 r1 h0 h1 i0 i1 HS
      go_enter Tryd.func87, Tryd.ntmps87
      go_wp2_with fail
      go_region
      go_wp2_with (first
        | (go_at_call_of 86 po; refine (WO.out _ ?_).mono ?_; ((repeat (first | exact Below.refl _ _ | assumption | refine Below.drew ?_ | refine Below.al ?_ _ | refine Below.setCell ?_ (by first | exact Nat.le_refl _ | (simp; omega) | (simp; done)) _ | refine Below.on ?_ (by assumption)))); rintro e w1 ⟨rfl, rfl⟩)
        | (go_at_call 86; refine (WI.out _ ?_).mono ?_; ((repeat (first | exact Below.refl _ _ | assumption | refine Below.drew ?_ | refine Below.al ?_ _ | refine Below.setCell ?_ (by first | exact Nat.le_refl _ | (simp; omega) | (simp; done)) _ | refine Below.on ?_ (by assumption)))); rintro e w1 ⟨rfl, rfl⟩))
      go_region_held3 (fun w' => w'.cell? ⟨ib, 2, none⟩ = some (.pointer pc) ∧ w'.cell? ⟨ib, 3, none⟩ = some (.pointer pd) ∧ Below w.heap.size w w')
        ((refine (fun (hB : Below w.heap.size w _) => ⟨cell_later hB i2, cell_later hB i3, hB⟩) ?_; (repeat (first | exact Below.refl _ _ | assumption | refine Below.drew ?_ | refine Below.al ?_ _ | refine Below.setCell ?_ (by first | exact Nat.le_refl _ | (simp; omega) | (simp; done)) _ | refine Below.on ?_ (by assumption)))))
        (first
          | (go_at_call_of 89 px; refine (O1.out _ ?_).mono ?_; ((repeat (first | exact Below.refl _ _ | assumption | refine Below.drew ?_ | refine Below.al ?_ _ | refine Below.setCell ?_ (by first | exact Nat.le_refl _ | (simp; omega) | (simp; done)) _ | refine Below.on ?_ (by assumption)))); rintro e w1 ⟨b1, rfl, t1, hb1⟩)
          | (go_at_call_of 89 po; refine (O2.out _ ?_).mono ?_; ((repeat (first | exact Below.refl _ _ | assumption | refine Below.drew ?_ | refine Below.al ?_ _ | refine Below.setCell ?_ (by first | exact Nat.le_refl _ | (simp; omega) | (simp; done)) _ | refine Below.on ?_ (by assumption)))); rintro e w2 ⟨b2, rfl, t2, hb2⟩)
          | (go_at_call 89; refine (O3.out _ b1 b2 ?_ (t1.later ?_) (t2.later ?_)).mono ?_; ((repeat (first | exact Below.refl _ _ | assumption | refine Below.drew ?_ | refine Below.al ?_ _ | refine Below.setCell ?_ (by first | exact Nat.le_refl _ | (simp; omega) | (simp; done)) _ | refine Below.on ?_ (by assumption)))); ((repeat (first | exact Below.refl _ _ | assumption | refine Below.drew ?_ | refine Below.al ?_ _ | refine Below.setCell ?_ (by first | exact Nat.le_refl _ | (simp; omega) | (simp; done)) _ | refine Below.on ?_ (by assumption)))); ((repeat (first | exact Below.refl _ _ | assumption | refine Below.drew ?_ | refine Below.al ?_ _ | refine Below.setCell ?_ (by first | exact Nat.le_refl _ | (simp; omega) | (simp; done)) _ | refine Below.on ?_ (by assumption)))); rintro e w3 ⟨b3, rfl, t3, hb3⟩))
      all_goals go_wp2_with fail
      all_goals go_ret
      all_goals exact ⟨.node b3 ik iv (.node b1 k v l c) (.node b2 rk rv d o), rfl, t3, by simp [Tr.list], by (repeat (first | exact Below.refl _ _ | assumption | refine Below.drew ?_ | refine Below.al ?_ _ | refine Below.setCell ?_ (by first | exact Nat.le_refl _ | (simp; omega) | (simp; done)) _ | refine Below.on ?_ (by assumption)))⟩

set_option maxHeartbeats 1000000 in
theorem turnedRight_is {S : Nat → Prop} {b : Nat} {k : ByteArray} {v : Hd} {r i o : Tr} {rb : Nat} {rk : ByteArray} {rv : Hd} {w : World} (hS : ∀ j, w.heap.size ≤ j → S j) (h0 : w.cell? ⟨b, 0, none⟩ = some (.string k)) (h1 : w.cell? ⟨b, 1, none⟩ = some (.slice (some ⟨v.g, 0, none⟩) v.n v.cap))
    (hx : TrIn S w r) (hr : TrIn S w (.node rb rk rv o i)) (hn : r.n + i.n + o.n + 1 ≤ 1152921504606846976) :
    Calls Tryd.prog 88 #[.pointer (some ⟨b, 0, none⟩), .pointer (some ⟨rb, 0, none⟩), .pointer r.pt] w fun e w' => ∃ T' : Tr, e = .returned (.pointer T'.pt) ∧ TrIn S w' T' ∧ T'.list = (o.list ++ (rk, rv) :: i.list) ++ (k, v) :: r.list ∧ Below w.heap.size w w' := by
  obtain ⟨hrb, r0, r1, r2, r3, r4, hin1, hin2⟩ := hr
  clear r4
  obtain ⟨hi, ho⟩ : TrIn S w i ∧ TrIn S w o := ⟨hin2, hin1⟩
  clear hin1 hin2
  have WI : Hid (∀ W, Below w.heap.size w W → Calls Tryd.prog 86 #[.pointer i.pt] W fun e w' => e = .returned (.int .i64 ((i.n : Int) + 1)) ∧ w' = W) := fun W hb => weight_is (hi.later hb) (by omega)
  have WO : Hid (∀ W, Below w.heap.size w W → Calls Tryd.prog 86 #[.pointer o.pt] W fun e w' => e = .returned (.int .i64 ((o.n : Int) + 1)) ∧ w' = W) := fun W hb => weight_is (ho.later hb) (by omega)
  have HS := hid hS
  clear hS
  have later : ∀ W, Below w.heap.size w W → ∀ j, W.heap.size ≤ j → S j := fun W hb j hj => HS.out j (Nat.le_trans hb.size hj)
  have hw2 : IntKind.i64.wrap (2 * ((o.n : Int) + 1)) = 2 * ((o.n : Int) + 1) := by rw [IntKind.wrap_i64]; omega
  by_cases hlt : i.n + 1 < 2 * (o.n + 1)
  · have hlt' : decide (((i.n : Int) + 1) < 2 * ((o.n : Int) + 1)) = true := decide_eq_true (by omega)
    have O1 : Hid (∀ W, Below w.heap.size w W → Calls Tryd.prog 89 #[.pointer (some ⟨b, 0, none⟩), .pointer i.pt, .pointer r.pt] W fun e w' => ∃ b', e = .returned (.pointer (some ⟨b', 0, none⟩)) ∧ TrIn S w' (.node b' k v i r) ∧ Below W.heap.size W w') := fun W hb =>
      over_is (later W hb) (cell_later hb h0) (cell_later hb h1) (hi.later hb) (hx.later hb) (by omega)
    have O2 : Hid (∀ W b1, Below w.heap.size w W → TrIn S W (.node b1 k v i r) → Calls Tryd.prog 89 #[.pointer (some ⟨rb, 0, none⟩), .pointer o.pt, .pointer (some ⟨b1, 0, none⟩)] W fun e w' => ∃ b', e = .returned (.pointer (some ⟨b', 0, none⟩)) ∧ TrIn S w' (.node b' rk rv o (.node b1 k v i r)) ∧ Below W.heap.size W w') := fun W b1 hb ht =>
      over_is (r := .node b1 k v i r) (later W hb) (cell_later hb r0) (cell_later hb r1) (ho.later hb) ht (by simp only [Tr.n]; omega)
    obtain ⟨ni, hni⟩ : ∃ m, m = i.n := ⟨_, rfl⟩
    obtain ⟨no, hno⟩ : ∃ m, m = o.n := ⟨_, rfl⟩
    rw [← hni] at WI hlt'
    rw [← hno] at WO hlt' hw2
    obtain ⟨pi, hpi⟩ : ∃ p, p = i.pt := ⟨_, rfl⟩
    obtain ⟨po, hpo⟩ : ∃ p, p = o.pt := ⟨_, rfl⟩
    obtain ⟨px, hpx⟩ : ∃ p, p = r.pt := ⟨_, rfl⟩
    rw [← hpi] at WI O1 r3
    rw [← hpo] at WO O2 r2
    rw [← hpx] at O1 ⊢
    have hn' : no ≤ 1152921504606846976 := by omega
    clear hni hno hpi hpo hpx hlt hn hi ho hx later r0 r1 h0 h1 HS
    go_enter Tryd.func88, Tryd.ntmps88
    go_wp2_with fail
    go_region
    go_wp2_with (first
      | (go_at_call_of 86 pi; refine (WI.out _ ?_).mono ?_; ((repeat (first | exact Below.refl _ _ | assumption | refine Below.drew ?_ | refine Below.al ?_ _ | refine Below.setCell ?_ (by first | exact Nat.le_refl _ | (simp; omega) | (simp; done)) _ | refine Below.on ?_ (by assumption)))); rintro e w1 ⟨rfl, rfl⟩)
      | (go_at_call_of 86 po; refine (WO.out _ ?_).mono ?_; ((repeat (first | exact Below.refl _ _ | assumption | refine Below.drew ?_ | refine Below.al ?_ _ | refine Below.setCell ?_ (by first | exact Nat.le_refl _ | (simp; omega) | (simp; done)) _ | refine Below.on ?_ (by assumption)))); rintro e w1 ⟨rfl, rfl⟩)
      | (go_at_call_of 89 px; refine (O1.out _ ?_).mono ?_; ((repeat (first | exact Below.refl _ _ | assumption | refine Below.drew ?_ | refine Below.al ?_ _ | refine Below.setCell ?_ (by first | exact Nat.le_refl _ | (simp; omega) | (simp; done)) _ | refine Below.on ?_ (by assumption)))); rintro e w1 ⟨b1, rfl, t1, hb1⟩)
      | (go_at_call_of 89 po; refine (O2.out _ b1 ?_ t1).mono ?_; ((repeat (first | exact Below.refl _ _ | assumption | refine Below.drew ?_ | refine Below.al ?_ _ | refine Below.setCell ?_ (by first | exact Nat.le_refl _ | (simp; omega) | (simp; done)) _ | refine Below.on ?_ (by assumption)))); rintro e w2 ⟨b2, rfl, t2, hb2⟩))
    go_ret
    exact ⟨.node b2 rk rv o (.node b1 k v i r), rfl, t2, by simp [Tr.list], by (repeat (first | exact Below.refl _ _ | assumption | refine Below.drew ?_ | refine Below.al ?_ _ | refine Below.setCell ?_ (by first | exact Nat.le_refl _ | (simp; omega) | (simp; done)) _ | refine Below.on ?_ (by assumption)))⟩
  · have hlt' : decide (((i.n : Int) + 1) < 2 * ((o.n : Int) + 1)) = false := decide_eq_false (by omega)
    cases i with
    | nil => simp only [Tr.n] at hlt; omega
    | node ib ik iv d c =>
      obtain ⟨hib, i0, i1, i2, i3, i4, hin1, hin2⟩ := hi
      clear i4
      obtain ⟨hc, hd⟩ : TrIn S w c ∧ TrIn S w d := ⟨hin2, hin1⟩
      clear hin1 hin2
      simp only [Tr.n] at hn
      have O1 : Hid (∀ W, Below w.heap.size w W → Calls Tryd.prog 89 #[.pointer (some ⟨b, 0, none⟩), .pointer c.pt, .pointer r.pt] W fun e w' => ∃ b', e = .returned (.pointer (some ⟨b', 0, none⟩)) ∧ TrIn S w' (.node b' k v c r) ∧ Below W.heap.size W w') := fun W hb =>
        over_is (later W hb) (cell_later hb h0) (cell_later hb h1) (hc.later hb) (hx.later hb) (by omega)
      have O2 : Hid (∀ W, Below w.heap.size w W → Calls Tryd.prog 89 #[.pointer (some ⟨rb, 0, none⟩), .pointer o.pt, .pointer d.pt] W fun e w' => ∃ b', e = .returned (.pointer (some ⟨b', 0, none⟩)) ∧ TrIn S w' (.node b' rk rv o d) ∧ Below W.heap.size W w') := fun W hb =>
        over_is (later W hb) (cell_later hb r0) (cell_later hb r1) (ho.later hb) (hd.later hb) (by omega)
      have O3 : Hid (∀ W b1 b2, Below w.heap.size w W → TrIn S W (.node b1 k v c r) → TrIn S W (.node b2 rk rv o d) → Calls Tryd.prog 89 #[.pointer (some ⟨ib, 0, none⟩), .pointer (some ⟨b2, 0, none⟩), .pointer (some ⟨b1, 0, none⟩)] W fun e w' => ∃ b', e = .returned (.pointer (some ⟨b', 0, none⟩)) ∧ TrIn S w' (.node b' ik iv (.node b2 rk rv o d) (.node b1 k v c r)) ∧ Below W.heap.size W w') := fun W b1 b2 hb ht hu =>
        over_is (r := .node b1 k v c r) (l := .node b2 rk rv o d) (later W hb) (cell_later hb i0) (cell_later hb i1) hu ht (by simp only [Tr.n]; omega)
      simp only [Tr.pt] at r3 WI
      obtain ⟨ni, hni⟩ : ∃ m, m = (Tr.node ib ik iv d c).n := ⟨_, rfl⟩
      obtain ⟨no, hno⟩ : ∃ m, m = o.n := ⟨_, rfl⟩
      rw [← hni] at WI hlt'
      rw [← hno] at WO hlt' hw2
      obtain ⟨pc, hpc⟩ : ∃ p, p = c.pt := ⟨_, rfl⟩
      obtain ⟨pd, hpd⟩ : ∃ p, p = d.pt := ⟨_, rfl⟩
      obtain ⟨po, hpo⟩ : ∃ p, p = o.pt := ⟨_, rfl⟩
      obtain ⟨px, hpx⟩ : ∃ p, p = r.pt := ⟨_, rfl⟩
      rw [← hpc] at O1 i3
      rw [← hpd] at O2 i2
      rw [← hpo] at WO O2 r2
      rw [← hpx] at O1 ⊢
      have hn' : no ≤ 1152921504606846976 := by omega
      clear hni hno hpc hpd hpo hpx hlt hn hc hd ho hx later r0 r1 h0 h1 i0 i1 HS
      go_enter Tryd.func88, Tryd.ntmps88
      go_wp2_with fail
      go_region
      go_wp2_with (first
        | (go_at_call_of 86 po; refine (WO.out _ ?_).mono ?_; ((repeat (first | exact Below.refl _ _ | assumption | refine Below.drew ?_ | refine Below.al ?_ _ | refine Below.setCell ?_ (by first | exact Nat.le_refl _ | (simp; omega) | (simp; done)) _ | refine Below.on ?_ (by assumption)))); rintro e w1 ⟨rfl, rfl⟩)
        | (go_at_call 86; refine (WI.out _ ?_).mono ?_; ((repeat (first | exact Below.refl _ _ | assumption | refine Below.drew ?_ | refine Below.al ?_ _ | refine Below.setCell ?_ (by first | exact Nat.le_refl _ | (simp; omega) | (simp; done)) _ | refine Below.on ?_ (by assumption)))); rintro e w1 ⟨rfl, rfl⟩))
      go_region_held3 (fun w' => w'.cell? ⟨ib, 2, none⟩ = some (.pointer pd) ∧ w'.cell? ⟨ib, 3, none⟩ = some (.pointer pc) ∧ Below w.heap.size w w')
        ((refine (fun (hB : Below w.heap.size w _) => ⟨cell_later hB i2, cell_later hB i3, hB⟩) ?_; (repeat (first | exact Below.refl _ _ | assumption | refine Below.drew ?_ | refine Below.al ?_ _ | refine Below.setCell ?_ (by first | exact Nat.le_refl _ | (simp; omega) | (simp; done)) _ | refine Below.on ?_ (by assumption)))))
        (first
          | (go_at_call_of 89 px; refine (O1.out _ ?_).mono ?_; ((repeat (first | exact Below.refl _ _ | assumption | refine Below.drew ?_ | refine Below.al ?_ _ | refine Below.setCell ?_ (by first | exact Nat.le_refl _ | (simp; omega) | (simp; done)) _ | refine Below.on ?_ (by assumption)))); rintro e w1 ⟨b1, rfl, t1, hb1⟩)
          | (go_at_call_of 89 po; refine (O2.out _ ?_).mono ?_; ((repeat (first | exact Below.refl _ _ | assumption | refine Below.drew ?_ | refine Below.al ?_ _ | refine Below.setCell ?_ (by first | exact Nat.le_refl _ | (simp; omega) | (simp; done)) _ | refine Below.on ?_ (by assumption)))); rintro e w2 ⟨b2, rfl, t2, hb2⟩)
          | (go_at_call 89; refine (O3.out _ b1 b2 ?_ (t1.later ?_) (t2.later ?_)).mono ?_; ((repeat (first | exact Below.refl _ _ | assumption | refine Below.drew ?_ | refine Below.al ?_ _ | refine Below.setCell ?_ (by first | exact Nat.le_refl _ | (simp; omega) | (simp; done)) _ | refine Below.on ?_ (by assumption)))); ((repeat (first | exact Below.refl _ _ | assumption | refine Below.drew ?_ | refine Below.al ?_ _ | refine Below.setCell ?_ (by first | exact Nat.le_refl _ | (simp; omega) | (simp; done)) _ | refine Below.on ?_ (by assumption)))); ((repeat (first | exact Below.refl _ _ | assumption | refine Below.drew ?_ | refine Below.al ?_ _ | refine Below.setCell ?_ (by first | exact Nat.le_refl _ | (simp; omega) | (simp; done)) _ | refine Below.on ?_ (by assumption)))); rintro e w3 ⟨b3, rfl, t3, hb3⟩))
      all_goals go_wp2_with fail
      all_goals go_ret
      all_goals exact ⟨.node b3 ik iv (.node b2 rk rv o d) (.node b1 k v c r), rfl, t3, by simp [Tr.list], by (repeat (first | exact Below.refl _ _ | assumption | refine Below.drew ?_ | refine Below.al ?_ _ | refine Below.setCell ?_ (by first | exact Nat.le_refl _ | (simp; omega) | (simp; done)) _ | refine Below.on ?_ (by assumption)))⟩

end Go.Proofs.YtmlacdfdpdkdaaaDoor.Vs
namespace Go.Proofs.YtmlacdfdpdkdaaaDoor.Vs
open Go.RowKit Go.Sort
set_option linter.unusedVariables false

theorem setX_len (l : List En) (k : ByteArray) (v : Hd) : (setX l k v).length ≤ l.length + 1 := by
  induction l with
  | nil => simp [setX]
  | cons x l ih =>
    simp only [setX]
    split
    · simp only [List.length_cons]; omega
    · split <;> simp only [List.length_cons] <;> omega

set_option maxHeartbeats 1000000 in
theorem balanced_is {S : Nat → Prop} {b : Nat} {k : ByteArray} {v : Hd} {l r : Tr} {w : World} (hS : ∀ j, w.heap.size ≤ j → S j) (h0 : w.cell? ⟨b, 0, none⟩ = some (.string k)) (h1 : w.cell? ⟨b, 1, none⟩ = some (.slice (some ⟨v.g, 0, none⟩) v.n v.cap))
    (hl : TrIn S w l) (hr : TrIn S w r) (hn : l.n + r.n + 1 ≤ 1152921504606846976) :
    Calls Tryd.prog 82 #[.pointer (some ⟨b, 0, none⟩), .pointer l.pt, .pointer r.pt] w fun e w' => ∃ T' : Tr, e = .returned (.pointer T'.pt) ∧ TrIn S w' T' ∧ T'.list = l.list ++ (k, v) :: r.list ∧ Below w.heap.size w w' := by
  have WL : Hid (Calls Tryd.prog 86 #[.pointer l.pt] w fun e w' => e = .returned (.int .i64 ((l.n : Int) + 1)) ∧ w' = w) := weight_is hl (by omega)
  have WR : Hid (Calls Tryd.prog 86 #[.pointer r.pt] w fun e w' => e = .returned (.int .i64 ((r.n : Int) + 1)) ∧ w' = w) := weight_is hr (by omega)
  have hwl : IntKind.i64.wrap (3 * ((l.n : Int) + 1)) = 3 * ((l.n : Int) + 1) := by rw [IntKind.wrap_i64]; omega
  have hwr : IntKind.i64.wrap (3 * ((r.n : Int) + 1)) = 3 * ((r.n : Int) + 1) := by rw [IntKind.wrap_i64]; omega
  by_cases hA : 3 * (l.n + 1) < r.n + 1
  · have q1 : decide (3 * ((l.n : Int) + 1) < (r.n : Int) + 1) = true := decide_eq_true (by omega)
    cases r with
    | nil => simp only [Tr.n] at hA; omega
    | node rb rk rv i o =>
      have TL := hid (turnedLeft_is hS h0 h1 hl hr (by simp only [Tr.n] at hn; omega))
      obtain ⟨m, hm⟩ : ∃ m, m = (Tr.node rb rk rv i o).n := ⟨_, rfl⟩
      rw [← hm] at q1 hwr WR
      have hmb : m ≤ 1152921504606846976 := by omega
      have hmn : l.n ≤ 1152921504606846976 := by omega
      simp only [Tr.pt] at WR
      show Calls Tryd.prog 82 #[.pointer (some ⟨b, 0, none⟩), .pointer l.pt, .pointer (some ⟨rb, 0, none⟩)] w _
      clear hm hA hn h0 h1 hl hr hS
      go_enter Tryd.func82, Tryd.ntmps82
      go_wp2_with (first
        | (go_at_call_of 86 l.pt; refine WL.out.mono ?_; rintro e w1 ⟨rfl, rfl⟩)
        | (go_at_call 86; refine WR.out.mono ?_; rintro e w1 ⟨rfl, rfl⟩)
        | (go_at_call 87; refine TL.out.mono ?_; rintro e w1 ⟨T', rfl, t1, hT, hb⟩))
      go_ret
      exact ⟨T', rfl, t1, by simp only [Tr.list]; exact hT, hb⟩
  · have q1 : decide (3 * ((l.n : Int) + 1) < (r.n : Int) + 1) = false := decide_eq_false (by omega)
    by_cases hB : 3 * (r.n + 1) < l.n + 1
    · have q2 : decide (3 * ((r.n : Int) + 1) < (l.n : Int) + 1) = true := decide_eq_true (by omega)
      cases l with
      | nil => simp only [Tr.n] at hB; omega
      | node rb rk rv o i =>
        have TL := hid (turnedRight_is hS h0 h1 hr hl (by simp only [Tr.n] at hn; omega))
        obtain ⟨m, hm⟩ : ∃ m, m = (Tr.node rb rk rv o i).n := ⟨_, rfl⟩
        rw [← hm] at q1 q2 hwl WL
        have hmb : m ≤ 1152921504606846976 := by omega
        have hmn : r.n ≤ 1152921504606846976 := by omega
        simp only [Tr.pt] at WL
        show Calls Tryd.prog 82 #[.pointer (some ⟨b, 0, none⟩), .pointer (some ⟨rb, 0, none⟩), .pointer r.pt] w _
        clear hm hA hB hn h0 h1 hl hr hS
        go_enter Tryd.func82, Tryd.ntmps82
        go_wp2_with (first
          | (go_at_call_of 86 r.pt; refine WR.out.mono ?_; rintro e w1 ⟨rfl, rfl⟩)
          | (go_at_call 86; refine WL.out.mono ?_; rintro e w1 ⟨rfl, rfl⟩)
          | (go_at_call 88; refine TL.out.mono ?_; rintro e w1 ⟨T', rfl, t1, hT, hb⟩))
        go_ret
        exact ⟨T', rfl, t1, by simp only [Tr.list]; exact hT, hb⟩
    · have q2 : decide (3 * ((r.n : Int) + 1) < (l.n : Int) + 1) = false := decide_eq_false (by omega)
      have TL := hid (over_is hS h0 h1 hl hr (by omega))
      have hmb : l.n ≤ 1152921504606846976 := by omega
      have hmn : r.n ≤ 1152921504606846976 := by omega
      obtain ⟨pl, hpl⟩ : ∃ p, p = l.pt := ⟨_, rfl⟩
      obtain ⟨pr, hpr⟩ : ∃ p, p = r.pt := ⟨_, rfl⟩
      rw [← hpl] at WL
      rw [← hpr] at WR
      rw [← hpl, ← hpr] at TL ⊢
      clear hpl hpr hA hB hn h0 h1 hl hr hS
      go_enter Tryd.func82, Tryd.ntmps82
      go_wp2_with (first
        | (go_at_call_of 86 pl; refine WL.out.mono ?_; rintro e w1 ⟨rfl, rfl⟩)
        | (go_at_call_of 86 pr; refine WR.out.mono ?_; rintro e w1 ⟨rfl, rfl⟩)
        | (go_at_call 89; refine TL.out.mono ?_; rintro e w1 ⟨b1, rfl, t1, hb⟩))
      go_ret
      exact ⟨_, rfl, t1, rfl, hb⟩


set_option maxHeartbeats 1000000 in
theorem with_is (key : ByteArray) (v : Hd) (T : Tr) : ∀ (S : Nat → Prop) (w : World), (∀ j, w.heap.size ≤ j → S j) → TrIn S w T → Rising T.list → T.n + 1 ≤ 1152921504606846976 →
    Calls Tryd.prog 72 #[.pointer T.pt, .string key, .slice (some ⟨v.g, 0, none⟩) v.n v.cap] w fun e w' => ∃ T' : Tr, e = .returned (.pointer T'.pt) ∧ TrIn S w' T' ∧ T'.list = setX T.list key v ∧ Below w.heap.size w w' := by
  induction T with
  | nil =>
    intro S w hS hT hR hn
    show Calls Tryd.prog 72 #[.pointer none, .string key, .slice (some ⟨v.g, 0, none⟩) v.n v.cap] w _
    have HS := hid hS
    clear hS
    go_enter Tryd.func72, Tryd.ntmps72
    go_wp2_with fail
    obtain ⟨t1, t2⟩ := node_new (S := S) (w := w) (k := key) (v := v) (l := .nil) (r := .nil) (n := 1) rfl trivial trivial (HS.out _ (Nat.le_refl _)) rfl
    go_ret
    exact ⟨_, rfl, t1, rfl, t2⟩
  | node b k u l r ihl ihr =>
    intro S w hS hT hR hn
    obtain ⟨hb, h0, h1, h2, h3, h4, hl, hr⟩ := hT
    obtain ⟨hRl, hRr, hkl, hkr⟩ := rising_parts hR
    simp only [Tr.n] at hn
    have later : ∀ W, Below w.heap.size w W → ∀ j, W.heap.size ≤ j → S j := fun W hb j hj => hS j (Nat.le_trans hb.size hj)
    show Calls Tryd.prog 72 #[.pointer (some ⟨b, 0, none⟩), .string key, .slice (some ⟨v.g, 0, none⟩) v.n v.cap] w _
    rcases lt_tri key k with hk | hk | hk
    · -- the same key
      subst hk
      have q1 : Op.bytesLess key.toList key.toList = false := bless_irrefl _
      have HN : Hid (∀ W, Below w.heap.size w W → TrIn S (W.alloc (.cells #[.string key, .slice (some ⟨v.g, 0, none⟩) v.n v.cap, .pointer l.pt, .pointer r.pt, .int .i64 ((l.n + 1 + r.n : Nat) : Int)] 104)) (.node W.heap.size key v l r)) := fun W hb =>
        (node_new rfl (hl.later hb) (hr.later hb) (later W hb _ (Nat.le_refl _)) rfl).1
      have HX : Hid (setX (Tr.node b key u l r).list key v = l.list ++ (key, v) :: r.list) := setX_mid hkl
      obtain ⟨m, hm⟩ : ∃ m : Int, m = ((l.n + 1 + r.n : Nat) : Int) := ⟨_, rfl⟩
      rw [← hm] at HN h4
      clear hm hn hl hr hR hRl hRr hkl hkr ihl ihr later hS
      go_enter Tryd.func72, Tryd.ntmps72
      go_wp2_with fail
      go_region_held3 (fun w' => w'.cell? ⟨b, 2, none⟩ = some (.pointer l.pt) ∧ w'.cell? ⟨b, 3, none⟩ = some (.pointer r.pt) ∧ w'.cell? ⟨b, 4, none⟩ = some (.int .i64 m) ∧ Below w.heap.size w w')
        ((refine (fun (hB : Below w.heap.size w _) => ⟨cell_later hB h2, cell_later hB h3, cell_later hB h4, hB⟩) ?_; (repeat (first | exact Below.refl _ _ | assumption | refine Below.drew ?_ | refine Below.al ?_ _ | refine Below.setCell ?_ (by first | exact Nat.le_refl _ | (simp; omega) | (simp; done)) _ | refine Below.on ?_ (by assumption)))))
        (fail)
      go_wp2_with fail
      have t1 := HN.out w (Below.refl _ _)
      go_ret
      exact ⟨_, rfl, t1.later (Below.drew (Below.refl _ _)), by rw [HX.out]; rfl, by (repeat (first | exact Below.refl _ _ | assumption | refine Below.drew ?_ | refine Below.al ?_ _ | refine Below.setCell ?_ (by first | exact Nat.le_refl _ | (simp; omega) | (simp; done)) _ | refine Below.on ?_ (by assumption)))⟩
    · have q1 : Op.bytesLess key.toList k.toList = true := hk
      have HW : Hid (∀ W, Below w.heap.size w W → _) := fun W hb => ihl S W (later W hb) (hl.later hb) hRl (by omega)
      have HB : Hid (∀ W (L : Tr), Below w.heap.size w W → TrIn S W L → L.n ≤ l.n + 1 → _) := fun W L hb hL hLn => balanced_is (b := b) (k := k) (v := u) (l := L) (r := r) (later W hb) (cell_later hb h0) (cell_later hb h1) hL (hr.later hb) (by omega)
      have HX : Hid (setX (Tr.node b k u l r).list key v = setX l.list key v ++ (k, u) :: r.list) := setX_left hk
      have HL : Hid (∀ L : Tr, L.list = setX l.list key v → L.n ≤ l.n + 1) := fun L hL => by rw [← Tr.len, hL, ← Tr.len]; exact setX_len _ _ _
      obtain ⟨pl, hpl⟩ : ∃ p, p = l.pt := ⟨_, rfl⟩
      rw [← hpl] at HW h2
      clear hpl hn hl hr hR hRl hRr hkl hkr ihl ihr later hS h1 h4 hk
      go_enter Tryd.func72, Tryd.ntmps72
      go_wp2_with fail
      go_region_held3 (fun w' => w'.cell? ⟨b, 2, none⟩ = some (.pointer pl) ∧ w'.cell? ⟨b, 3, none⟩ = some (.pointer r.pt) ∧ Below w.heap.size w w')
        ((refine (fun (hB : Below w.heap.size w _) => ⟨cell_later hB h2, cell_later hB h3, hB⟩) ?_; (repeat (first | exact Below.refl _ _ | assumption | refine Below.drew ?_ | refine Below.al ?_ _ | refine Below.setCell ?_ (by first | exact Nat.le_refl _ | (simp; omega) | (simp; done)) _ | refine Below.on ?_ (by assumption)))))
        (first
          | (go_at_call 72; refine (HW.out _ ?_).mono ?_; ((repeat (first | exact Below.refl _ _ | assumption | refine Below.drew ?_ | refine Below.al ?_ _ | refine Below.setCell ?_ (by first | exact Nat.le_refl _ | (simp; omega) | (simp; done)) _ | refine Below.on ?_ (by assumption)))); rintro e w1 ⟨L, rfl, t1, hL, hb1⟩)
          | (go_at_call 82; refine (HB.out _ L ?_ t1 (HL.out L hL)).mono ?_; ((repeat (first | exact Below.refl _ _ | assumption | refine Below.drew ?_ | refine Below.al ?_ _ | refine Below.setCell ?_ (by first | exact Nat.le_refl _ | (simp; omega) | (simp; done)) _ | refine Below.on ?_ (by assumption)))); rintro e w2 ⟨T', rfl, t2, hT', hb2⟩))
      go_wp2_with fail
      go_ret
      exact ⟨T', rfl, t2, by rw [hT', HX.out, hL], by (repeat (first | exact Below.refl _ _ | assumption | refine Below.drew ?_ | refine Below.al ?_ _ | refine Below.setCell ?_ (by first | exact Nat.le_refl _ | (simp; omega) | (simp; done)) _ | refine Below.on ?_ (by assumption)))⟩
    · have q1 : Op.bytesLess key.toList k.toList = false := lt_asymm hk
      have q2 : (key.toList == k.toList) = false := toList_beq' (decide_eq_false (fun e => lt_ne hk e.symm))
      have HW : Hid (∀ W, Below w.heap.size w W → _) := fun W hb => ihr S W (later W hb) (hr.later hb) hRr (by omega)
      have HB : Hid (∀ W (L : Tr), Below w.heap.size w W → TrIn S W L → L.n ≤ r.n + 1 → _) := fun W L hb hL hLn => balanced_is (b := b) (k := k) (v := u) (l := l) (r := L) (later W hb) (cell_later hb h0) (cell_later hb h1) (hl.later hb) hL (by omega)
      have HX : Hid (setX (Tr.node b k u l r).list key v = l.list ++ (k, u) :: setX r.list key v) := setX_right hkl hk
      have HL : Hid (∀ L : Tr, L.list = setX r.list key v → L.n ≤ r.n + 1) := fun L hL => by rw [← Tr.len, hL, ← Tr.len]; exact setX_len _ _ _
      obtain ⟨pr, hpr⟩ : ∃ p, p = r.pt := ⟨_, rfl⟩
      rw [← hpr] at HW h3
      clear hpr hn hl hr hR hRl hRr hkl hkr ihl ihr later hS h1 h4 hk
      go_enter Tryd.func72, Tryd.ntmps72
      go_wp2_with fail
      go_region_held3 (fun w' => w'.cell? ⟨b, 2, none⟩ = some (.pointer l.pt) ∧ w'.cell? ⟨b, 3, none⟩ = some (.pointer pr) ∧ Below w.heap.size w w')
        ((refine (fun (hB : Below w.heap.size w _) => ⟨cell_later hB h2, cell_later hB h3, hB⟩) ?_; (repeat (first | exact Below.refl _ _ | assumption | refine Below.drew ?_ | refine Below.al ?_ _ | refine Below.setCell ?_ (by first | exact Nat.le_refl _ | (simp; omega) | (simp; done)) _ | refine Below.on ?_ (by assumption)))))
        (first
          | (go_at_call 72; refine (HW.out _ ?_).mono ?_; ((repeat (first | exact Below.refl _ _ | assumption | refine Below.drew ?_ | refine Below.al ?_ _ | refine Below.setCell ?_ (by first | exact Nat.le_refl _ | (simp; omega) | (simp; done)) _ | refine Below.on ?_ (by assumption)))); rintro e w1 ⟨L, rfl, t1, hL, hb1⟩)
          | (go_at_call 82; refine (HB.out _ L ?_ t1 (HL.out L hL)).mono ?_; ((repeat (first | exact Below.refl _ _ | assumption | refine Below.drew ?_ | refine Below.al ?_ _ | refine Below.setCell ?_ (by first | exact Nat.le_refl _ | (simp; omega) | (simp; done)) _ | refine Below.on ?_ (by assumption)))); rintro e w2 ⟨T', rfl, t2, hT', hb2⟩))
      go_wp2_with fail
      go_ret
      exact ⟨T', rfl, t2, by rw [hT', HX.out, hL], by (repeat (first | exact Below.refl _ _ | assumption | refine Below.drew ?_ | refine Below.al ?_ _ | refine Below.setCell ?_ (by first | exact Nat.le_refl _ | (simp; omega) | (simp; done)) _ | refine Below.on ?_ (by assumption)))⟩

theorem has_left {l r : List En} {k key : ByteArray} {v : Hd} (h : Rising (l ++ (k, v) :: r)) (hk : lt key k = true) (hg : (getX (l ++ (k, v) :: r) key).isSome = true) : (getX l key).isSome = true := by rwa [getX_left h hk] at hg
theorem has_right {l r : List En} {k key : ByteArray} {v : Hd} (h : Rising (l ++ (k, v) :: r)) (hk : lt k key = true) (hg : (getX (l ++ (k, v) :: r) key).isSome = true) : (getX r key).isSome = true := by rwa [getX_right h hk] at hg
theorem delX_len (l : List En) (k : ByteArray) : (delX l k).length ≤ l.length := List.length_filter_le _ _

set_option maxHeartbeats 2000000 in
theorem without_is (T : Tr) : ∀ (key : ByteArray) (S : Nat → Prop) (w : World), (∀ j, w.heap.size ≤ j → S j) → TrIn S w T → Rising T.list → T.n + 1 ≤ 1152921504606846976 → (getX T.list key).isSome = true →
    Calls Tryd.prog 84 #[.pointer T.pt, .string key] w fun e w' => ∃ T' : Tr, e = .returned (.pointer T'.pt) ∧ TrIn S w' T' ∧ T'.list = delX T.list key ∧ Below w.heap.size w w' := by
  induction T with
  | nil => intro key S w hS hT hR hn hg; cases hg
  | node b k u l r ihl ihr =>
    intro key S w hS hT hR hn hg
    obtain ⟨hb, h0, h1, h2, h3, h4, hl, hr⟩ := hT
    obtain ⟨hRl, hRr, hkl, hkr⟩ := rising_parts hR
    simp only [Tr.n] at hn
    have later : ∀ W, Below w.heap.size w W → ∀ j, W.heap.size ≤ j → S j := fun W hb j hj => hS j (Nat.le_trans hb.size hj)
    show Calls Tryd.prog 84 #[.pointer (some ⟨b, 0, none⟩), .string key] w _
    rcases lt_tri key k with hk | hk | hk
    · -- this key
      subst hk
      have q1 : Op.bytesLess key.toList key.toList = false := bless_irrefl _
      have HX : Hid (delX (Tr.node b key u l r).list key = l.list ++ r.list) := delX_mid hkl hkr
      cases l with
      | nil =>
        simp only [Tr.pt] at h2
        have HR := hid hr
        clear hn hl hr hR hRl hRr hkl hkr ihl ihr later hS h1 h4 hg
        go_enter Tryd.func84, Tryd.ntmps84
        go_wp2_with fail
        go_ret
        exact ⟨r, rfl, HR.out, by rw [HX.out]; rfl, Below.refl _ _⟩
      | node lb lk lv ll lr =>
        have h2' : w.cell? ⟨b, 2, none⟩ = some (.pointer (some ⟨lb, 0, none⟩)) := h2
        clear h2
        cases r with
        | nil =>
          have h3' : w.cell? ⟨b, 3, none⟩ = some (.pointer none) := h3
          have HL := hid hl
          clear hn hl hr hR hRl hRr hkl hkr ihl ihr later hS h1 h3 h4 hg
          go_enter Tryd.func84, Tryd.ntmps84
          go_wp2_with fail
          go_ret
          exact ⟨.node lb lk lv ll lr, rfl, HL.out, by rw [HX.out]; simp [Tr.list], Below.refl _ _⟩
        | node rb rk rv rl rr =>
          have h3' : w.cell? ⟨b, 3, none⟩ = some (.pointer (some ⟨rb, 0, none⟩)) := h3
          have HLe := hid (least_is hr (fun e => by cases e))
          obtain ⟨nb, nk, nv, nl, nr, hle, rest, hrest⟩ := Tr.least_spec (.node rb rk rv rl rr) (fun e => by cases e)
          have hnd := hr.least
          rw [hle] at HLe hnd
          simp only [Tr.pt] at HLe
          have n0 := hnd.2.1
          have n1 := hnd.2.2.1
          have hgr : (getX (Tr.node rb rk rv rl rr).list nk).isSome = true := by rw [hrest]; simp [getX]
          have hdr : delX (Tr.node rb rk rv rl rr).list nk = rest := by
            have h5 := hRr
            rw [hrest] at h5 ⊢
            have h6 := List.pairwise_cons.1 h5
            exact (delX_mid (l := []) (fun e he => by cases he) (fun e he => h6.1 e he)).trans rfl
          have HW : Hid (∀ W, Below w.heap.size w W → Calls Tryd.prog 84 #[.pointer (some ⟨rb, 0, none⟩), .string nk] W fun e w' => ∃ T' : Tr, e = .returned (.pointer T'.pt) ∧ TrIn S w' T' ∧ T'.list = rest ∧ Below W.heap.size W w') := fun W hb => by
            have := ihr nk S W (later W hb) (hr.later hb) hRr (by omega) hgr
            rw [hdr] at this
            exact this
          have HB : Hid (∀ W (R : Tr), Below w.heap.size w W → TrIn S W R → R.list = rest → Calls Tryd.prog 82 #[.pointer (some ⟨nb, 0, none⟩), .pointer (some ⟨lb, 0, none⟩), .pointer R.pt] W fun e w' => ∃ T' : Tr, e = .returned (.pointer T'.pt) ∧ TrIn S w' T' ∧ T'.list = (Tr.node lb lk lv ll lr).list ++ (nk, nv) :: R.list ∧ Below W.heap.size W w') := fun W R hb hR' hRl' =>
            balanced_is (b := nb) (k := nk) (v := nv) (l := .node lb lk lv ll lr) (r := R) (later W hb) (cell_later hb n0) (cell_later hb n1) (hl.later hb) hR' (by
              have e1 : R.n = rest.length := by rw [← Tr.len, hRl']
              have e2 : (Tr.node rb rk rv rl rr).n = rest.length + 1 := by rw [← Tr.len, hrest]; rfl
              omega)
          have HE : Hid ((Tr.node rb rk rv rl rr).list = (nk, nv) :: rest) := hrest
          clear hn hl hr hR hRl hRr hkl hkr ihl ihr later hS h1 h4 hg h3 hle hnd n1 hgr hdr hrest
          go_enter Tryd.func84, Tryd.ntmps84
          go_wp2_with (go_at_call 91; refine HLe.out.mono ?_; rintro e w1 ⟨rfl, rfl⟩)
          go_region_held3 (fun w' => w'.cell? ⟨b, 2, none⟩ = some (.pointer (some ⟨lb, 0, none⟩)) ∧ w'.cell? ⟨b, 3, none⟩ = some (.pointer (some ⟨rb, 0, none⟩)) ∧ w'.cell? ⟨nb, 0, none⟩ = some (.string nk) ∧ Below w1.heap.size w1 w')
            ((refine (fun (hB : Below w1.heap.size w1 _) => ⟨cell_later hB h2', cell_later hB h3', cell_later hB n0, hB⟩) ?_; (repeat (first | exact Below.refl _ _ | assumption | refine Below.drew ?_ | refine Below.al ?_ _ | refine Below.setCell ?_ (by first | exact Nat.le_refl _ | (simp; omega) | (simp; done)) _ | refine Below.on ?_ (by assumption)))))
            (first
              | (go_at_call 84; refine (HW.out _ ?_).mono ?_; ((repeat (first | exact Below.refl _ _ | assumption | refine Below.drew ?_ | refine Below.al ?_ _ | refine Below.setCell ?_ (by first | exact Nat.le_refl _ | (simp; omega) | (simp; done)) _ | refine Below.on ?_ (by assumption)))); rintro e w2 ⟨R, rfl, t1, hR, hb1⟩)
              | (go_at_call 82; refine (HB.out _ R ?_ t1 hR).mono ?_; ((repeat (first | exact Below.refl _ _ | assumption | refine Below.drew ?_ | refine Below.al ?_ _ | refine Below.setCell ?_ (by first | exact Nat.le_refl _ | (simp; omega) | (simp; done)) _ | refine Below.on ?_ (by assumption)))); rintro e w3 ⟨T', rfl, t2, hT', hb2⟩))
          go_wp2_with fail
          go_ret
          exact ⟨T', rfl, t2, by rw [hT', HX.out, hR, HE.out], by (repeat (first | exact Below.refl _ _ | assumption | refine Below.drew ?_ | refine Below.al ?_ _ | refine Below.setCell ?_ (by first | exact Nat.le_refl _ | (simp; omega) | (simp; done)) _ | refine Below.on ?_ (by assumption)))⟩
    · have q1 : Op.bytesLess key.toList k.toList = true := hk
      have HW : Hid (∀ W, Below w.heap.size w W → _) := fun W hb => ihl key S W (later W hb) (hl.later hb) hRl (by omega) (has_left hR hk hg)
      have HB : Hid (∀ W (L : Tr), Below w.heap.size w W → TrIn S W L → L.n ≤ l.n → _) := fun W L hb hL hLn => balanced_is (b := b) (k := k) (v := u) (l := L) (r := r) (later W hb) (cell_later hb h0) (cell_later hb h1) hL (hr.later hb) (by omega)
      have HX : Hid (delX (Tr.node b k u l r).list key = delX l.list key ++ (k, u) :: r.list) := delX_left hkr hk
      have HL : Hid (∀ L : Tr, L.list = delX l.list key → L.n ≤ l.n) := fun L hL => by rw [← Tr.len, hL, ← Tr.len]; exact delX_len _ _
      obtain ⟨pl, hpl⟩ : ∃ p, p = l.pt := ⟨_, rfl⟩
      rw [← hpl] at HW h2
      clear hpl hn hl hr hR hRl hRr hkl hkr ihl ihr later hS h1 h4 hk hg
      go_enter Tryd.func84, Tryd.ntmps84
      go_wp2_with fail
      go_region_held3 (fun w' => w'.cell? ⟨b, 2, none⟩ = some (.pointer pl) ∧ w'.cell? ⟨b, 3, none⟩ = some (.pointer r.pt) ∧ Below w.heap.size w w')
        ((refine (fun (hB : Below w.heap.size w _) => ⟨cell_later hB h2, cell_later hB h3, hB⟩) ?_; (repeat (first | exact Below.refl _ _ | assumption | refine Below.drew ?_ | refine Below.al ?_ _ | refine Below.setCell ?_ (by first | exact Nat.le_refl _ | (simp; omega) | (simp; done)) _ | refine Below.on ?_ (by assumption)))))
        (first
          | (go_at_call 84; refine (HW.out _ ?_).mono ?_; ((repeat (first | exact Below.refl _ _ | assumption | refine Below.drew ?_ | refine Below.al ?_ _ | refine Below.setCell ?_ (by first | exact Nat.le_refl _ | (simp; omega) | (simp; done)) _ | refine Below.on ?_ (by assumption)))); rintro e w1 ⟨L, rfl, t1, hL, hb1⟩)
          | (go_at_call 82; refine (HB.out _ L ?_ t1 (HL.out L hL)).mono ?_; ((repeat (first | exact Below.refl _ _ | assumption | refine Below.drew ?_ | refine Below.al ?_ _ | refine Below.setCell ?_ (by first | exact Nat.le_refl _ | (simp; omega) | (simp; done)) _ | refine Below.on ?_ (by assumption)))); rintro e w2 ⟨T', rfl, t2, hT', hb2⟩))
      go_wp2_with fail
      go_ret
      exact ⟨T', rfl, t2, by rw [hT', HX.out, hL], by (repeat (first | exact Below.refl _ _ | assumption | refine Below.drew ?_ | refine Below.al ?_ _ | refine Below.setCell ?_ (by first | exact Nat.le_refl _ | (simp; omega) | (simp; done)) _ | refine Below.on ?_ (by assumption)))⟩
    · have q1 : Op.bytesLess key.toList k.toList = false := lt_asymm hk
      have q2 : (key.toList == k.toList) = false := toList_beq' (decide_eq_false (fun e => lt_ne hk e.symm))
      have HW : Hid (∀ W, Below w.heap.size w W → _) := fun W hb => ihr key S W (later W hb) (hr.later hb) hRr (by omega) (has_right hR hk hg)
      have HB : Hid (∀ W (L : Tr), Below w.heap.size w W → TrIn S W L → L.n ≤ r.n → _) := fun W L hb hL hLn => balanced_is (b := b) (k := k) (v := u) (l := l) (r := L) (later W hb) (cell_later hb h0) (cell_later hb h1) (hl.later hb) hL (by omega)
      have HX : Hid (delX (Tr.node b k u l r).list key = l.list ++ (k, u) :: delX r.list key) := delX_right hkl hk
      have HL : Hid (∀ L : Tr, L.list = delX r.list key → L.n ≤ r.n) := fun L hL => by rw [← Tr.len, hL, ← Tr.len]; exact delX_len _ _
      obtain ⟨pr, hpr⟩ : ∃ p, p = r.pt := ⟨_, rfl⟩
      rw [← hpr] at HW h3
      clear hpr hn hl hr hR hRl hRr hkl hkr ihl ihr later hS h1 h4 hk hg
      go_enter Tryd.func84, Tryd.ntmps84
      go_wp2_with fail
      go_region_held3 (fun w' => w'.cell? ⟨b, 2, none⟩ = some (.pointer l.pt) ∧ w'.cell? ⟨b, 3, none⟩ = some (.pointer pr) ∧ Below w.heap.size w w')
        ((refine (fun (hB : Below w.heap.size w _) => ⟨cell_later hB h2, cell_later hB h3, hB⟩) ?_; (repeat (first | exact Below.refl _ _ | assumption | refine Below.drew ?_ | refine Below.al ?_ _ | refine Below.setCell ?_ (by first | exact Nat.le_refl _ | (simp; omega) | (simp; done)) _ | refine Below.on ?_ (by assumption)))))
        (first
          | (go_at_call 84; refine (HW.out _ ?_).mono ?_; ((repeat (first | exact Below.refl _ _ | assumption | refine Below.drew ?_ | refine Below.al ?_ _ | refine Below.setCell ?_ (by first | exact Nat.le_refl _ | (simp; omega) | (simp; done)) _ | refine Below.on ?_ (by assumption)))); rintro e w1 ⟨L, rfl, t1, hL, hb1⟩)
          | (go_at_call 82; refine (HB.out _ L ?_ t1 (HL.out L hL)).mono ?_; ((repeat (first | exact Below.refl _ _ | assumption | refine Below.drew ?_ | refine Below.al ?_ _ | refine Below.setCell ?_ (by first | exact Nat.le_refl _ | (simp; omega) | (simp; done)) _ | refine Below.on ?_ (by assumption)))); rintro e w2 ⟨T', rfl, t2, hT', hb2⟩))
      go_wp2_with fail
      go_ret
      exact ⟨T', rfl, t2, by rw [hT', HX.out, hL], by (repeat (first | exact Below.refl _ _ | assumption | refine Below.drew ?_ | refine Below.al ?_ _ | refine Below.setCell ?_ (by first | exact Nat.le_refl _ | (simp; omega) | (simp; done)) _ | refine Below.on ?_ (by assumption)))⟩

end Go.Proofs.YtmlacdfdpdkdaaaDoor.Vs
