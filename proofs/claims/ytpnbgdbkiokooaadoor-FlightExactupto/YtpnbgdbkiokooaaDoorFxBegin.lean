import Derived.Test.YtpnbgdbkiokooaaDoorFxDoes
import Derived.Test.YtpnbgdbkiokooaaDoorFxWhole2
/- The law's beginning: two flights, two of the document's, an empty book. -/
namespace Go.Proofs.YtpnbgdbkiokooaaDoor.Fl
open Go.RowKit Go.Sort Go.Proofs.YtpnbgdbkiokooaaDoor
set_option linter.unusedVariables false

abbrev th : ByteArray := ⟨#[104]⟩
def pn : Value := .pointer none
/-- the head of the law, as far as i: the arrays lie at A and A + 1 -/
structure L1 (W w : World) (A i : Nat) (p r : Nat → Nat) (v u : Nat → Value) : Prop where
  fl : ∀ j, j < i → Fl w (A + 2) (p j) (v j) [th]
  rf : ∀ j, j < i → Rf w (A + 2) (r j) (u j) [th]
  pr : ∀ j, j < i → ∀ k, k < i → ∀ x, ItF (p j) (v j) x → ¬ ItF (r k) (u k) x
  pp : ∀ j, j < i → ∀ k, k < i → j ≠ k → ∀ x, ItF (p j) (v j) x → ¬ ItF (p k) (v k) x
  rr : ∀ j, j < i → ∀ k, k < i → j ≠ k → ∀ x, ItF (r j) (u j) x → ¬ ItF (r k) (u k) x
  a0 : ∀ j, j < 2 → w.cell? ⟨A, j, none⟩ = some (if j < i then pt (p j) else pn)
  a1 : ∀ j, j < 2 → w.cell? ⟨A + 1, j, none⟩ = some (if j < i then pt (r j) else pn)
  l0 : Loose w A
  l1 : Loose w (A + 1)
  sz : A + 2 ≤ w.heap.size
  bl : Below A W w
  hA : A = W.heap.size
/-- blocks from A + 2 on that were there are as they were -/
def Kq (A : Nat) (w w' : World) : Prop := ∀ k, A + 2 ≤ k → k < w.heap.size → w'.heap[k]? = w.heap[k]?
theorem Kq.fl {A B p : Nat} {w w' : World} {v : Value} {xs : List ByteArray} (h : Kq A w w') (hf : Fl w B p v xs) (hB : A + 2 ≤ B) : Fl w' B p v xs := hf.keep fun k hk => h k (Nat.le_trans hB (hf.its hk).1) (hf.its hk).2
theorem Kq.rf {A B p : Nat} {w w' : World} {v : Value} {xs : List ByteArray} (h : Kq A w w') (hf : Rf w B p v xs) (hB : A + 2 ≤ B) : Rf w' B p v xs := hf.keep fun k hk => h k (Nat.le_trans hB (hf.its hk).1) (hf.its hk).2
theorem Kq.of_below {A : Nat} {w w' : World} (h : Below w.heap.size w w') : Kq A w w' := fun k _ hk => h.block k hk
theorem Kq.trans {A : Nat} {w w1 w2 : World} (h : Kq A w w1) (k : Kq A w1 w2) (hs : w.heap.size ≤ w1.heap.size) : Kq A w w2 := fun x h1 h2 => (k x h1 (Nat.lt_of_lt_of_le h2 hs)).trans (h x h1 h2)
theorem Kq.set {A : Nat} {w w' : World} (h : Kq A w w') {q : Nat} (hq : q < A + 2) (o : Nat) (x : Value) : Kq A w (w'.setCell ⟨q, o, none⟩ x) := fun k h1 h2 => (Below.heap_setCell _ _ _ _ (by show k ≠ q; omega)).trans (h k h1 h2)
/-- one pair more -/
theorem L1.next {W w w' : World} {A i : Nat} {p r : Nat → Nat} {v u : Nat → Value} (h : L1 W w A i p r v u) (hi : i < 2) {p' r' : Nat} {v' u' : Value} (hk : Kq A w w') (hs : w.heap.size ≤ w'.heap.size) (hf : Fl w' w.heap.size p' v' [th]) (hg : Rf w' w.heap.size r' u' [th]) (hap : ∀ x, ItF p' v' x → ¬ ItF r' u' x)
    (b0 : w'.cell? ⟨A, i, none⟩ = some (pt p')) (b1 : w'.cell? ⟨A + 1, i, none⟩ = some (pt r')) (o0 : ∀ j, j ≠ i → w'.cell? ⟨A, j, none⟩ = w.cell? ⟨A, j, none⟩) (o1 : ∀ j, j ≠ i → w'.cell? ⟨A + 1, j, none⟩ = w.cell? ⟨A + 1, j, none⟩) (l0 : Loose w' A) (l1 : Loose w' (A + 1)) (hb : Below A w w') : L1 W w' A (i + 1) (upd p i p') (upd r i r') (upd v i v') (upd u i u') := by
  have hsz := h.sz
  have old : ∀ {q : Nat} {z : Value} {xs : List ByteArray} {x : Nat}, Fl w (A + 2) q z xs → ItF q z x → x < w.heap.size := fun h hx => (h.its hx).2
  have oldr : ∀ {q : Nat} {z : Value} {xs : List ByteArray} {x : Nat}, Rf w (A + 2) q z xs → ItF q z x → x < w.heap.size := fun h hx => (h.its hx).2
  have newp : ∀ {x : Nat}, ItF p' v' x → w.heap.size ≤ x := fun hx => (hf.its hx).1
  have newr : ∀ {x : Nat}, ItF r' u' x → w.heap.size ≤ x := fun hx => (hg.its hx).1
  refine ⟨fun j hj => ?_, fun j hj => ?_, fun j hj k hk2 x hx hx2 => ?_, fun j hj k hk2 hne x hx hx2 => ?_, fun j hj k hk2 hne x hx hx2 => ?_, fun j hj => ?_, fun j hj => ?_, l0, l1, Nat.le_trans hsz hs, h.bl.trans hb, h.hA⟩
  · by_cases e : j = i
    · subst e; rw [upd_same, upd_same]; exact ⟨hf.cell, hf.ty, hf.row.base hsz, Nat.le_trans hsz hf.low⟩
    · rw [upd_other _ _ e, upd_other _ _ e]; exact hk.fl (h.fl j (by omega)) (Nat.le_refl _)
  · by_cases e : j = i
    · subst e; rw [upd_same, upd_same]; exact ⟨hg.cell, hg.ty, hg.row.base hsz, Nat.le_trans hsz hg.low⟩
    · rw [upd_other _ _ e, upd_other _ _ e]; exact hk.rf (h.rf j (by omega)) (Nat.le_refl _)
  · by_cases e : j = i
    · subst e
      rw [upd_same, upd_same] at hx
      by_cases e2 : k = j
      · subst e2; rw [upd_same, upd_same] at hx2; exact hap x hx hx2
      · rw [upd_other _ _ e2, upd_other _ _ e2] at hx2
        have h1 := newp hx
        have h2 := oldr (h.rf k (by omega)) hx2
        omega
    · rw [upd_other _ _ e, upd_other _ _ e] at hx
      by_cases e2 : k = i
      · subst e2
        rw [upd_same, upd_same] at hx2
        have h1 := newr hx2
        have h2 := old (h.fl j (by omega)) hx
        omega
      · rw [upd_other _ _ e2, upd_other _ _ e2] at hx2
        exact h.pr j (by omega) k (by omega) x hx hx2
  · by_cases e : j = i
    · subst e
      rw [upd_same, upd_same] at hx
      rw [upd_other _ _ (fun e2 => hne e2.symm), upd_other _ _ (fun e2 => hne e2.symm)] at hx2
      have h1 := newp hx
      have h2 := old (h.fl k (by omega)) hx2
      omega
    · rw [upd_other _ _ e, upd_other _ _ e] at hx
      by_cases e2 : k = i
      · subst e2
        rw [upd_same, upd_same] at hx2
        have h1 := newp hx2
        have h2 := old (h.fl j (by omega)) hx
        omega
      · rw [upd_other _ _ e2, upd_other _ _ e2] at hx2
        exact h.pp j (by omega) k (by omega) hne x hx hx2
  · by_cases e : j = i
    · subst e
      rw [upd_same, upd_same] at hx
      rw [upd_other _ _ (fun e2 => hne e2.symm), upd_other _ _ (fun e2 => hne e2.symm)] at hx2
      have h1 := newr hx
      have h2 := oldr (h.rf k (by omega)) hx2
      omega
    · rw [upd_other _ _ e, upd_other _ _ e] at hx
      by_cases e2 : k = i
      · subst e2
        rw [upd_same, upd_same] at hx2
        have h1 := newr hx2
        have h2 := oldr (h.rf j (by omega)) hx
        omega
      · rw [upd_other _ _ e2, upd_other _ _ e2] at hx2
        exact h.rr j (by omega) k (by omega) hne x hx hx2
  · by_cases e : j = i
    · subst e; rw [b0, if_pos (by omega), upd_same]
    · rw [o0 j e, h.a0 j hj, upd_other _ _ e]
      by_cases hlt : j < i
      · rw [if_pos hlt, if_pos (by omega)]
      · rw [if_neg hlt, if_neg (by omega)]
  · by_cases e : j = i
    · subst e; rw [b1, if_pos (by omega), upd_same]
    · rw [o1 j e, h.a1 j hj, upd_other _ _ e]
      by_cases hlt : j < i
      · rw [if_pos hlt, if_pos (by omega)]
      · rw [if_neg hlt, if_neg (by omega)]
theorem cell_of_below {B : Nat} {w w' : World} {q o : Nat} {x : Value} (hb : Below B w w') (hq : q < B) (h : w.cell? ⟨q, o, none⟩ = some x) : w'.cell? ⟨q, o, none⟩ = some x := by
  rw [← h]; exact World.cell?_of_block (a := ⟨q, o, none⟩) (hb.block q hq)
theorem loose_of_below {B : Nat} {w w' : World} {q : Nat} (hb : Below B w w') (hq : q < B) (h : Loose w q) : Loose w' q := fun o => by
  rw [← h o]; exact World.frozen?_of_block (a := ⟨q, o, none⟩) (hb.block q hq)
theorem cell_eq_below {B : Nat} {w w' : World} {q o : Nat} (hb : Below B w w') (hq : q < B) : w'.cell? ⟨q, o, none⟩ = w.cell? ⟨q, o, none⟩ := World.cell?_of_block (a := ⟨q, o, none⟩) (hb.block q hq)
/-- a pair that was made and laid into the arrays -/
structure Md (A i : Nat) (wr w4 : World) (p' r' : Nat) : Prop where
  fl : Fl w4 wr.heap.size p' (.slice none 0 0) []
  rf : Rf w4 wr.heap.size r' (.slice none 0 0) []
  ne : p' ≠ r'
  kq : Kq A wr w4
  c : w4.cell? ⟨A, i, none⟩ = some (pt p')
  cr : w4.cell? ⟨A + 1, i, none⟩ = some (pt r')
  o : ∀ j, j ≠ i → w4.cell? ⟨A, j, none⟩ = wr.cell? ⟨A, j, none⟩ ∧ w4.cell? ⟨A + 1, j, none⟩ = wr.cell? ⟨A + 1, j, none⟩
  l0 : Loose w4 A
  l1 : Loose w4 (A + 1)
  bl : Below A wr w4
  sz : wr.heap.size ≤ w4.heap.size
  s2 : A + 2 ≤ wr.heap.size
theorem L1.made {W wr w1 w2 w3 w4 : World} {A i : Nat} {p r : Nat → Nat} {v u : Nat → Value} (h : L1 W wr A i p r v u) (hi : i < 2) {p' r' : Nat} (hf1 : Fl w1 wr.heap.size p' (.slice none 0 0) []) (hb1 : Below wr.heap.size wr w1) (hw2 : w2 = w1.setCell ⟨A, i, none⟩ (pt p')) (hf3 : Rf w3 w2.heap.size r' (.slice none 0 0) []) (hb3 : Below w2.heap.size w2 w3) (hw4 : w4 = w3.setCell ⟨A + 1, i, none⟩ (pt r')) :
    w1.cell? ⟨A, i, none⟩ = some (.pointer none) ∧ w1.frozen? ⟨A, i, none⟩ = false ∧ w3.cell? ⟨A + 1, i, none⟩ = some (.pointer none) ∧ w3.frozen? ⟨A + 1, i, none⟩ = false ∧ w3.cell? ⟨A, i, none⟩ = some (pt p') ∧ Md A i wr w4 p' r' := by
  have hsz := h.sz
  have hs1 := hb1.size
  have hs2 : w2.heap.size = w1.heap.size := by rw [hw2]; simp [World.setCell]
  have hs3 := hb3.size
  have hs4 : w4.heap.size = w3.heap.size := by rw [hw4]; simp [World.setCell]
  have a0 := h.a0 i hi
  have a1 := h.a1 i hi
  rw [if_neg (by omega)] at a0 a1
  have c1 : w1.cell? ⟨A, i, none⟩ = some (.pointer none) := cell_later hb1 a0
  have hne2 : ∀ k, k ≠ A → w2.heap[k]? = w1.heap[k]? := fun k hk => by rw [hw2]; exact Below.heap_setCell _ _ _ _ hk
  have hne4 : ∀ k, k ≠ A + 1 → w4.heap[k]? = w3.heap[k]? := fun k hk => by rw [hw4]; exact Below.heap_setCell _ _ _ _ hk
  have hA13 : w3.heap[A + 1]? = wr.heap[A + 1]? := by rw [hb3.block _ (by omega), hne2 _ (by omega), hb1.block _ (by omega)]
  have hA3 : w3.heap[A]? = w2.heap[A]? := hb3.block _ (by omega)
  have hA4 : w4.heap[A]? = w2.heap[A]? := (hne4 A (by omega)).trans hA3
  have c3 : w3.cell? ⟨A + 1, i, none⟩ = some (.pointer none) := (World.cell?_of_block (a := ⟨A + 1, i, none⟩) hA13).trans a1
  have c2 : w2.cell? ⟨A, i, none⟩ = some (pt p') := by rw [hw2]; exact World.cell?_setCell_same _ _ _ c1
  have c3b : w3.cell? ⟨A, i, none⟩ = some (pt p') := (World.cell?_of_block (a := ⟨A, i, none⟩) hA3).trans c2
  have l1 : Loose w1 A := loose_of_below hb1 (by omega) h.l0
  have l3 : Loose w3 (A + 1) := fun o => (World.frozen?_of_block (a := ⟨A + 1, o, none⟩) hA13).trans (h.l1 o)
  have f2 : Fl w2 wr.heap.size p' (.slice none 0 0) [] := hf1.keep fun k hk => hne2 k (by have := (hf1.its hk).1; omega)
  have f3 := f2.later hb3
  have r3 : Rf w3 wr.heap.size r' (.slice none 0 0) [] := ⟨hf3.cell, hf3.ty, hf3.row.base (by omega), by have := hf3.low; omega⟩
  refine ⟨c1, l1 i, c3, l3 i, c3b, f3.keep fun k hk => hne4 k (by have := (f3.its hk).1; omega), r3.keep fun k hk => hne4 k (by have := (r3.its hk).1; omega), ?_, ?_, (World.cell?_of_block (a := ⟨A, i, none⟩) hA4).trans c2, by rw [hw4]; exact World.cell?_setCell_same _ _ _ c3, fun j hj => ⟨?_, ?_⟩, fun o => ?_, fun o => ?_, ?_, by omega, hsz⟩
  · have h1 := hf1.lt
    have h2 := hf3.low
    omega
  · intro k h1 h2
    rw [hne4 k (by omega), hb3.block k (by omega), hne2 k (by omega), hb1.block k h2]
  · rw [World.cell?_of_block (a := ⟨A, j, none⟩) hA4, hw2, World.cell?_setCell_other _ _ _ _ (fun e => by injection e with e1 e2 _; omega)]
    exact World.cell?_of_block (a := ⟨A, j, none⟩) (hb1.block A (by omega))
  · rw [hw4, World.cell?_setCell_other _ _ _ _ (fun e => by injection e with e1 e2 _; omega)]
    exact World.cell?_of_block (a := ⟨A + 1, j, none⟩) hA13
  · rw [World.frozen?_of_block (a := ⟨A, o, none⟩) hA4, hw2, World.frozen?_setCell]; exact l1 o
  · rw [hw4, World.frozen?_setCell]; exact l3 o
  · have k1 : Below A wr w2 := by rw [hw2]; exact (hb1.mono (show A ≤ wr.heap.size by omega)).setCell (Nat.le_refl _) _
    have k3 : Below A wr w3 := k1.trans (hb3.mono (show A ≤ w2.heap.size by omega))
    rw [hw4]
    exact k3.setCell (Nat.le_succ _) _
/-- both have got their first message -/
theorem Md.next {W wr w4 w5 w6 w7 w8 : World} {A i : Nat} {p r : Nat → Nat} {v u : Nat → Value} (h : L1 W wr A i p r v u) (hi : i < 2) {p' r' : Nat} {v6 u8 : Value} (d : Md A i wr w4 p' r') (hb5 : Below w4.heap.size w4 w5) (m6 : Mv w5 w6 wr.heap.size p' (.slice none 0 0) v6 [th]) (hb7 : Below w6.heap.size w6 w7) (m8 : Mw w7 w8 wr.heap.size r' (.slice none 0 0) u8 [th]) :
    w8.cell? ⟨A, i, none⟩ = some (pt p') ∧ Fl w8 wr.heap.size p' v6 [th] ∧ ∃ p r v u, L1 W w8 A (i + 1) p r v u := by
  have hsz := d.sz
  have h2 := d.s2
  have s5 := hb5.size
  have s6 := m6.onl.size
  have s7 := hb7.size
  have fl5 := d.fl.later hb5
  have hb46 : Below wr.heap.size w4 w6 := (hb5.mono hsz).trans (m6.below fl5 (by omega))
  have rf5 := d.rf.later hb5
  have rf6 : Rf w6 wr.heap.size r' (.slice none 0 0) [] := rf5.keep fun k hk => m6.onl.block k (rf5.its hk).2 (fun hf => by
    rcases hk with rfl | hk
    · rcases hf with e | e
      · exact d.ne e.symm
      · cases e
    · cases hk)
  have rf7 := rf6.later hb7
  have hb68 : Below wr.heap.size w6 w8 := (hb7.mono (by omega)).trans (m8.below rf7 (by omega))
  have hb48 := hb46.trans hb68
  have fl7 := m6.fl.later hb7
  have fl8 : Fl w8 wr.heap.size p' v6 [th] := fl7.keep fun k hk => m8.onl.block k (fl7.its hk).2 (fun hf => by
    rcases hf with e | e
    · subst e
      rcases hk with e2 | e2
      · exact d.ne e2.symm
      · exact rf7.apart (fl7.row.ty _ e2) rfl
    · cases e)
  have c8 := cell_of_below hb48 (show A < wr.heap.size by omega) d.c
  have c8r := cell_of_below hb48 (show A + 1 < wr.heap.size by omega) d.cr
  refine ⟨c8, fl8, _, _, _, _, h.next hi (fun k h3 h4 => (hb48.block k h4).trans (d.kq k h3 h4)) (Nat.le_trans hsz hb48.size) fl8 m8.fl (fun x hx hx2 => ?_) c8 c8r (fun j hj => ?_) (fun j hj => ?_) (loose_of_below hb48 (by omega) d.l0) (loose_of_below hb48 (by omega) d.l1) (d.bl.trans (hb48.mono (by omega)))⟩
  · rcases hx with e | e
    · rcases hx2 with e2 | e2
      · exact d.ne (e.symm.trans e2)
      · subst e; exact fl8.apart (m8.fl.row.ty _ e2) rfl
    · rcases hx2 with e2 | e2
      · subst e2; exact m8.fl.apart (fl8.row.ty _ e) rfl
      · rcases m8.new x e2 with h5 | h5
        · cases h5
        · have h6 := (m6.fl.row.lt x e).2
          omega
  · rw [cell_eq_below hb48 (by omega)]; exact (d.o j hj).1
  · rw [cell_eq_below hb48 (by omega)]; exact (d.o j hj).2
/-- a world as the one at the outset, the arrays filled -/
def baseW (W w : World) : World := { w with heap := w.heap.extract 0 (W.heap.size + 2) }
theorem baseW_size {W w : World} (h : W.heap.size + 2 ≤ w.heap.size) : (baseW W w).heap.size = W.heap.size + 2 := by
  simp [baseW]; omega
theorem baseW_below {W w : World} (h : W.heap.size + 2 ≤ w.heap.size) : Below (baseW W w).heap.size (baseW W w) w := by
  refine ⟨rfl, rfl, rfl, by rw [baseW_size h]; exact h, fun k hk => ?_⟩
  rw [baseW_size h] at hk
  simp [baseW, Array.getElem?_extract]
  omega
theorem below_baseW {W w : World} (hb : Below W.heap.size W w) (h : W.heap.size + 2 ≤ w.heap.size) : Below W.heap.size W (baseW W w) := by
  refine ⟨hb.os, hb.tape, hb.output, by rw [baseW_size h]; omega, fun k hk => ?_⟩
  have h1 := (baseW_below h).block k (by rw [baseW_size h]; omega)
  rw [← h1]
  exact hb.block k hk
open Classical in
/-- the state when the head is done, with an empty book -/
theorem L1.ss {W w w' : World} {p r : Nat → Nat} {v u : Nat → Value} (h : L1 W w W.heap.size 2 p r v u) (hw' : w' = w.alloc (.cells #[.slice none 0 0, .slice none 0 0, .slice none 0 0, .slice none 0 0] 43)) : Ss (baseW W w) w' p r (fun _ => [th]) w.heap.size 0 := by
  have hb : Below w.heap.size w w' := by rw [hw']; exact Below.al (Below.refl _ _) _
  have hsz := h.sz
  have hbs := baseW_size hsz
  obtain ⟨c, hc⟩ : ∃ c : Nat → Nat, c = fun k => if ItF (p 0) (v 0) k then 0 else if ItF (p 1) (v 1) k then 1 else if ItF (r 0) (u 0) k then 2 else if ItF (r 1) (u 1) k then 3 else if k = w.heap.size then 8 else 12 := ⟨_, rfl⟩
  have hcp : ∀ j, j < 2 → ∀ k, ItF (p j) (v j) k → c k = j := fun j hj k hk => by
    rw [hc]
    simp only
    match j, hj, hk with
    | 0, _, hk => rw [if_pos hk]
    | 1, _, hk => rw [if_neg (fun h0 => h.pp 0 (by omega) 1 (by omega) (by omega) k h0 hk), if_pos hk]
  have hcr : ∀ j, j < 2 → ∀ k, ItF (r j) (u j) k → c k = 2 + j := fun j hj k hk => by
    rw [hc]
    simp only
    rw [if_neg (fun h0 => h.pr 0 (by omega) j hj k h0 hk), if_neg (fun h0 => h.pr 1 (by omega) j hj k h0 hk)]
    match j, hj, hk with
    | 0, _, hk => rw [if_pos hk]
    | 1, _, hk => rw [if_neg (fun h0 => h.rr 0 (by omega) 1 (by omega) (by omega) k h0 hk), if_pos hk]
  have hcb : c w.heap.size = 8 := by
    rw [hc]
    simp only
    have np : ∀ j, j < 2 → ¬ ItF (p j) (v j) w.heap.size := fun j hj hk => by have := ((h.fl j hj).its hk).2; omega
    have nr : ∀ j, j < 2 → ¬ ItF (r j) (u j) w.heap.size := fun j hj hk => by have := ((h.rf j hj).its hk).2; omega
    rw [if_neg (np 0 (by omega)), if_neg (np 1 (by omega)), if_neg (nr 0 (by omega)), if_neg (nr 1 (by omega))]
    simp
  refine ⟨c, v, u, ⟨.slice none 0 0, .slice none 0 0, .slice none 0 0, .slice none 0 0, [], [], [], [], [], [], []⟩, ⟨fun j hj => ?_, hcp, fun j hj => ?_, hcr, ⟨?_, ?_, hcb, World.ownsRow_nil _ _ _ _, (fun g e => by cases e), World.ownsRow_nil _ _ _ _, (fun g e => by cases e), World.ownsRow_nil _ _ _ _, (fun g e => by cases e), World.ownsRow_nil _ _ _ _, (fun g e => by cases e), rfl, rfl, rfl, rfl, Nat.le_refl _, (fun i hi => by simp at hi), (fun i hi => by simp at hi), (fun i hi => by simp at hi), (fun i hi => by simp at hi)⟩, (fun e he => by cases he), ?_⟩, ⟨rfl, rfl, (fun i hi => by simp at hi), (fun i hi => by simp at hi), Nat.le_refl _, rfl⟩⟩
  · rw [hbs]; exact (h.fl j hj).later hb
  · rw [hbs]; exact (h.rf j hj).later hb
  · rw [hw']; exact World.alloc_heap_new _ _
  · rw [hbs]; exact hsz
  · exact Below.on (baseW_below hsz) hb
end Go.Proofs.YtpnbgdbkiokooaaDoor.Fl
