import Derived.Test.YtogjhpknlopajaaXBkNew
/- fresh: a ledger in each place of the book. -/
namespace Go.Proofs.Ytogjhpknlopajaa.Lg
open Go.RowKit Go.Sort Go.Shelf Go.Lib Lk
set_option linter.unusedVariables false

def pc (k i : Nat) (p : Nat → Nat) : Value := if i < k then .pointer (some ⟨p i, 0, none⟩) else .pointer none
def pcs (k : Nat) (p q : Nat → Nat) : Array Value := #[pc k 0 p, pc k 1 p, pc k 2 p, pc k 0 q, pc k 1 q, pc k 2 q]
theorem pcs_set {k : Nat} (hk : k < 3) (p q : Nat → Nat) (x y : Nat) : ((pcs k p q).setIfInBounds k (.pointer (some ⟨x, 0, none⟩))).setIfInBounds (3 + k) (.pointer (some ⟨y, 0, none⟩)) = pcs (k + 1) (upd p k x) (upd q k y) := by
  match k, hk with
  | 0, _ => simp [pcs, pc, upd]
  | 1, _ => simp [pcs, pc, upd]
  | 2, _ => simp [pcs, pc, upd]
/-- the book, its first k places filled -/
structure Part (B k : Nat) (w : World) (bk : Nat) (p q : Nat → Nat) : Prop where
  blk : w.heap[bk]? = some (.cells (pcs k p q) 112)
  L : ∀ i, i < k → Lg w (p i) none []
  D : ∀ i, i < k → Rl w (q i) none 0 0 []
  dp : ∀ i j, i < k → j < k → i ≠ j → p i ≠ p j
  dq : ∀ i j, i < k → j < k → i ≠ j → q i ≠ q j
  lo : B ≤ bk
  lp : ∀ i, i < k → B ≤ p i
  lq : ∀ i, i < k → B ≤ q i
theorem Part.lt {B k : Nat} {w : World} {bk : Nat} {p q : Nat → Nat} (S : Part B k w bk p q) : bk < w.heap.size := (Array.getElem?_eq_some_iff.1 S.blk).1
theorem Part.later {B k : Nat} {w w' : World} {bk : Nat} {p q : Nat → Nat} (S : Part B k w bk p q) (hb : Below w.heap.size w w') : Part B k w' bk p q :=
  ⟨(hb.block bk S.lt).trans S.blk, fun i hi => (S.L i hi).later hb, fun i hi => (S.D i hi).later hb, S.dp, S.dq, S.lo, S.lp, S.lq⟩
theorem Part.new {B k : Nat} {w w1 w2 w3 w4 : World} {bk sp sq : Nat} {p q : Nat → Nat} (S : Part B k w bk p q) (hm : Below w.heap.size w w1) (hk : k < 3) (L1 : Lg w1 sp none []) (hsp : w.heap.size ≤ sp) (h2 : w2 = w1.setCell ⟨bk, k, none⟩ (.pointer (some ⟨sp, 0, none⟩))) (b3 : Below w2.heap.size w2 w3)
    (D3 : Rl w3 sq none 0 0 []) (hsq : w2.heap.size ≤ sq) (h4 : w4 = w3.setCell ⟨bk, 3 + k, none⟩ (.pointer (some ⟨sq, 0, none⟩))) (hB : B ≤ w.heap.size) : Part B (k + 1) w4 bk (upd p k sp) (upd q k sq) := by
  have S1 := S.later hm
  have o2 : Onl (fun b => b = bk) w1 w2 := by rw [h2]; exact (Onl.refl (fun b => b = bk) _).set (p := bk) rfl _ _
  have o4 : Onl (fun b => b = bk) w3 w4 := by rw [h4]; exact (Onl.refl (fun b => b = bk) _).set (p := bk) rfl _ _
  have hlt := S.lt
  have hs1 := hm.size
  have hs2 := o2.size
  have hs3 := b3.size
  have k1 : w1.heap[bk]? = some (.cells (pcs k p q) 112) := S1.blk
  have k2 : w2.heap[bk]? = some (.cells ((pcs k p q).setIfInBounds k (.pointer (some ⟨sp, 0, none⟩))) 112) := by
    rw [h2]; exact heap_setCell_same w1 bk k _ _ _ k1
  have k3 := (b3.block bk (by omega)).trans k2
  have k4 : w4.heap[bk]? = some (.cells (pcs (k + 1) (upd p k sp) (upd q k sq)) 112) := by
    rw [h4, ← pcs_set hk p q sp sq]; exact heap_setCell_same w3 bk (3 + k) _ _ _ k3
  have nb : ∀ {p m M} {v : World} {x : Array Value}, Lg v p m M → v.heap[bk]? = some (.cells x 112) → ∀ b, ItsL p m b → ¬ b = bk := fun L h b hb e => lg_bk L h (e ▸ hb)
  have nr : ∀ {q n c a M} {v : World} {x : Array Value}, Rl v q a n c M → v.heap[bk]? = some (.cells x 112) → ∀ b, RItL q a n c b → ¬ b = bk := fun L h b hb e => rl_bk L h (e ▸ hb)
  have goL : ∀ {p m M}, Lg w1 p m M → Lg w4 p m M := fun L => by
    have L3 := (L.onl o2 (nb L k1)).later b3
    exact L3.onl o4 (nb L3 k3)
  have goR : ∀ {q n c a M}, Rl w1 q a n c M → Rl w4 q a n c M := fun L => by
    have L3 := (L.onl o2 (nr L k1)).later b3
    exact L3.onl o4 (nr L3 k3)
  have nep : ∀ i, i < k → p i ≠ sp := fun i hi e => by have := (S.L i hi).lt; omega
  have neq : ∀ i, i < k → q i ≠ sq := fun i hi e => by have := (S.D i hi).lt; omega
  have bsp : B ≤ sp := by omega
  have bsq : B ≤ sq := by omega
  refine ⟨k4, fun i hi => ?_, fun i hi => ?_, fun i j hi hj hne => ?_, fun i j hi hj hne => ?_, S.lo, fun i hi => ?_, fun i hi => ?_⟩
  · by_cases h : i = k
    · subst h; rw [upd_same]; exact goL L1
    · rw [upd_ne h]; exact goL (S1.L i (by omega))
  · by_cases h : i = k
    · subst h; rw [upd_same]; exact D3.onl o4 (nr D3 k3)
    · rw [upd_ne h]; exact goR (S1.D i (by omega))
  · by_cases h : i = k
    · subst h; rw [upd_same, upd_ne (Ne.symm hne)]; exact Ne.symm (nep j (by omega))
    · by_cases h' : j = k
      · subst h'; rw [upd_same, upd_ne h]; exact nep i (by omega)
      · rw [upd_ne h, upd_ne h']; exact S.dp i j (by omega) (by omega) hne
  · by_cases h : i = k
    · subst h; rw [upd_same, upd_ne (Ne.symm hne)]; exact Ne.symm (neq j (by omega))
    · by_cases h' : j = k
      · subst h'; rw [upd_same, upd_ne h]; exact neq i (by omega)
      · rw [upd_ne h, upd_ne h']; exact S.dq i j (by omega) (by omega) hne
  · by_cases h : i = k
    · subst h; rw [upd_same]; exact bsp
    · rw [upd_ne h]; exact S.lp i (by omega)
  · by_cases h : i = k
    · subst h; rw [upd_same]; exact bsq
    · rw [upd_ne h]; exact S.lq i (by omega)
theorem Part.st {B : Nat} {w : World} {bk : Nat} {p q : Nat → Nat} (S : Part B 3 w bk p q) : St w bk (fun i => ⟨p i, none, []⟩) (fun i => ⟨q i, none, 0, 0, []⟩) := by
  refine ⟨?_, S.L, S.D, fun _ _ => rfl, fun i j hi hj hne b h1 h2 => ?_, fun i j hi hj hne b h1 h2 => ?_⟩
  · have := S.blk; simpa [pcs, pc] using this
  · rcases h1 with h1 | h1
    · rcases h2 with h2 | h2
      · exact S.dp i j hi hj hne (h1.symm.trans h2)
      · cases h2
    · cases h1
  · rcases h1 with h1 | h1
    · rcases h2 with h2 | h2
      · exact S.dq i j hi hj hne (h1.symm.trans h2)
      · cases h2
    · cases h1
set_option maxRecDepth 100000 in
set_option maxHeartbeats 4000000 in
theorem fresh_is (w : World) : Calls Try.prog 45 #[] w fun r w' => ∃ (p q : Nat → Nat), r = .returned (.tuple #[.pointer (some ⟨w.heap.size, 0, none⟩), .bool true]) ∧ Hid (Part w.heap.size 3 w' w.heap.size p q) ∧ Hid (Below w.heap.size w w') := by
  obtain ⟨w0, hw0⟩ : ∃ w0, w0 = w.alloc (.cells #[.pointer none, .pointer none, .pointer none, .pointer none, .pointer none, .pointer none] 112) := ⟨_, rfl⟩
  have HB0 : Hid (Below w.heap.size w w0) := by rw [hw0]; exact Below.al (Below.refl _ _) _
  have HP0 : Hid (Part w.heap.size 0 w0 w.heap.size (fun _ => 0) (fun _ => 0)) := by
    refine hid ⟨?_, fun i hi => by omega, fun i hi => by omega, fun i j hi => by omega, fun i j hi => by omega, Nat.le_refl _, fun i hi => by omega, fun i hi => by omega⟩
    rw [hw0]; exact (MapKept.heap_alloc _ _).1
  go_enter Try.func45, Try.ntmps45
  go_wp2_with fail
  rw [← hw0]
  clear hw0
  go_loopg [6] 3 (fun g s6 wr => ∃ (k : Nat) (p q : Nat → Nat), k ≤ 3 ∧ g = 3 - k ∧ s6 = .int .i64 k ∧ Hid (Part w.heap.size k wr w.heap.size p q) ∧ Hid (Below w.heap.size w wr))
  case atStart => exact ⟨0, _, _, by omega, by omega, rfl, HP0, HB0⟩
  case round =>
    obtain ⟨k, p, q, hk, rfl, rfl, HP, HB⟩ := hrel
    by_cases hlt : k < 3
    · have hk1 : (k : Int) < 3 := by omega
      obtain ⟨v, hv⟩ : ∃ v, wr.cell? ⟨w.heap.size, k, none⟩ = some v := ⟨_, cell_of_obj HP.out.blk (Array.getElem?_eq_getElem (by simp [pcs]; omega))⟩
      obtain ⟨u, hu⟩ : ∃ u, wr.cell? ⟨w.heap.size, 3 + k, none⟩ = some u := ⟨_, cell_of_obj HP.out.blk (Array.getElem?_eq_getElem (by simp [pcs]; omega))⟩
      have HU := hid hu
      have HV := hid hv
      have f1 : wr.frozen? ⟨w.heap.size, k, none⟩ = false := by simp [World.frozen?, HP.out.blk]
      have NEWP : Hid (∀ W, Below wr.heap.size wr W → Calls Try.prog 9 #[] W fun r w' => ∃ sp, r = .returned (.pointer (some ⟨sp, 0, none⟩)) ∧ w'.cell? ⟨w.heap.size, k, none⟩ = some v ∧ w'.frozen? ⟨w.heap.size, k, none⟩ = false ∧ Hid (Lg w' sp none []) ∧ Hid (wr.heap.size ≤ sp) ∧ Below W.heap.size W w') := fun W hb => (new_is W).mono fun r w' ⟨h1, h2, h3⟩ =>
        ⟨_, h1, cell_later (Below.on hb h3) HV.out, by simp [World.frozen?, (HP.out.later (Below.on hb h3)).blk], h2, hb.size, h3⟩
      clear hu
      go_wp2_with fail
      go_region_with (first | (go_at_call 9; refine (NEWP.out _ (by (repeat (first | exact Below.refl _ _ | assumption | refine Below.drew ?_ | refine Below.al ?_ _ | refine Below.setCell ?_ (by first | exact Nat.le_refl _ | (simp; omega) | (simp; done)) _ | refine Below.on ?_ (by assumption))))).mono ?_; rintro r w1 ⟨sp, rfl, k2, k3, KL, KS, hb1⟩))
      all_goals
        have HB1 : Hid (Below wr.heap.size wr w1) := hid (by (repeat (first | exact Below.refl _ _ | assumption | refine Below.drew ?_ | refine Below.al ?_ _ | refine Below.setCell ?_ (by first | exact Nat.le_refl _ | (simp; omega) | (simp; done)) _ | refine Below.on ?_ (by assumption))))
        obtain ⟨w2, hw2⟩ : ∃ w2, w2 = w1.setCell ⟨w.heap.size, k, none⟩ (.pointer (some ⟨sp, 0, none⟩)) := ⟨_, rfl⟩
        have HW2 := hid hw2
        have HO2 : Hid (Onl (fun b => b = w.heap.size) w1 w2) := by rw [hw2]; exact (Onl.refl (fun b => b = w.heap.size) _).set (p := w.heap.size) rfl _ _
        have HK2 : Hid (w2.heap[w.heap.size]? = some (.cells ((pcs k p q).setIfInBounds k (.pointer (some ⟨sp, 0, none⟩))) 112)) := by rw [hw2]; exact heap_setCell_same w1 _ k _ _ _ (HP.out.later HB1.out).blk
        have v2 : w2.cell? ⟨w.heap.size, 3 + k, none⟩ = some u := by
          rw [hw2]; exact cell_setc (by intro e; injection e with _ e; omega) (cell_later HB1.out HU.out)
        have v3 : w2.frozen? ⟨w.heap.size, 3 + k, none⟩ = false := by simp [World.frozen?, HK2.out]
        have v4 : w2.cell? ⟨w.heap.size, k, none⟩ = some (.pointer (some ⟨sp, 0, none⟩)) := by rw [hw2]; exact World.cell?_setCell_same _ _ _ k2
        have RNEW : Hid (∀ W, Below w2.heap.size w2 W → Calls Try.prog 57 #[] W fun r w' => ∃ sq, r = .returned (.pointer (some ⟨sq, 0, none⟩)) ∧ w'.cell? ⟨w.heap.size, 3 + k, none⟩ = some u ∧ w'.frozen? ⟨w.heap.size, 3 + k, none⟩ = false ∧ w'.cell? ⟨w.heap.size, k, none⟩ = some (.pointer (some ⟨sp, 0, none⟩)) ∧ Hid (Rl w' sq none 0 0 []) ∧ Hid (w2.heap.size ≤ sq) ∧ Below W.heap.size W w') := fun W hb => (rnew_is W).mono fun r w' ⟨h1, h2, h3⟩ => by
          have hb' := Below.on hb h3
          have hkk : w'.heap[w.heap.size]? = _ := (hb'.block _ (Array.getElem?_eq_some_iff.1 HK2.out).1).trans HK2.out
          exact ⟨_, h1, cell_later hb' v2, by simp [World.frozen?, hkk], cell_later hb' v4, h2, hb.size, h3⟩
        go_wp2_with fail
        rw [← hw2]
        clear hw2 k2 k3 f1 hb1 NEWP hv
        go_region_with (first | (go_at_call 57; refine (RNEW.out _ (by (repeat (first | exact Below.refl _ _ | assumption | refine Below.drew ?_ | refine Below.al ?_ _ | refine Below.setCell ?_ (by first | exact Nat.le_refl _ | (simp; omega) | (simp; done)) _ | refine Below.on ?_ (by assumption))))).mono ?_; rintro r w3 ⟨sq, rfl, x2, x3, x4, KR, KQ, hb3⟩))
        all_goals
          have HB3 : Hid (Below w2.heap.size w2 w3) := hid (by (repeat (first | exact Below.refl _ _ | assumption | refine Below.drew ?_ | refine Below.al ?_ _ | refine Below.setCell ?_ (by first | exact Nat.le_refl _ | (simp; omega) | (simp; done)) _ | refine Below.on ?_ (by assumption))))
          obtain ⟨w4, hw4⟩ : ∃ w4, w4 = w3.setCell ⟨w.heap.size, 3 + k, none⟩ (.pointer (some ⟨sq, 0, none⟩)) := ⟨_, rfl⟩
          have u4 : (w3.setCell ⟨w.heap.size, 3 + k, none⟩ (.pointer (some ⟨sq, 0, none⟩))).cell? ⟨w.heap.size, k, none⟩ = some (.pointer (some ⟨sp, 0, none⟩)) := cell_setc (by intro e; injection e with _ e; omega) x4
          have HN : Hid (Part w.heap.size (k + 1) w4 w.heap.size (upd p k sp) (upd q k sq)) := HP.out.new HB1.out hlt KL.out KS.out HW2.out HB3.out KR.out KQ.out hw4 HB.out.size
          have HBN : Hid (Below w.heap.size w w4) := by
            have h1 := Below.on HB.out HB1.out
            have h2 : Below w.heap.size w1 w2 := HO2.out.below (fun b hb => by omega) h1.size
            have h12 := h1.trans h2
            have h3 := Below.on h12 HB3.out
            have o4 : Onl (fun b => b = w.heap.size) w3 w4 := by rw [hw4]; exact (Onl.refl (fun b => b = w.heap.size) _).set (p := w.heap.size) rfl _ _
            exact h3.trans (o4.below (fun b hb => by omega) h3.size)
          clear x2 x3 v2 v3 v4 hb3 RNEW
          go_wp2_with fail
          rw [← hw4]
          go_roundg (3 - (k + 1))
          case measure => omega
          case rel => exact ⟨k + 1, _, _, by omega, rfl, by go_num, HN, HBN⟩
    · obtain rfl : k = 3 := by omega
      go_wp2_with fail
      exact bodyPost_ret (v := .tuple #[.pointer (some ⟨w.heap.size, 0, none⟩), .bool true]) (by simp [results, Try.results45, go_sem]) rfl ⟨p, q, rfl, HP, HB⟩
end Go.Proofs.Ytogjhpknlopajaa.Lg
