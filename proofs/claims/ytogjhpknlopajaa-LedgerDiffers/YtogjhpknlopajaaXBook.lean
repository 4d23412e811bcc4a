import Derived.Test.YtogjhpknlopajaaXUnt
/- The book of ledgers; rows of pointers. -/
namespace Go.Proofs.Ytogjhpknlopajaa.Lg
open Go.RowKit Go.Sort Go.Shelf Go.Lib Lk
set_option linter.unusedVariables false

def upd {α : Type} (f : Nat → α) (i : Nat) (x : α) : Nat → α := fun j => if j = i then x else f j
theorem upd_same {α : Type} (f : Nat → α) (i : Nat) (x : α) : upd f i x i = x := by simp [upd]
theorem upd_ne {α : Type} {f : Nat → α} {i j : Nat} {x : α} (h : j ≠ i) : upd f i x j = f j := by simp [upd, h]
/-- the book at bk -/
structure St (w : World) (bk : Nat) (P : Nat → Ld) (R : Nat → Rd) : Prop where
  blk : w.heap[bk]? = some (.cells #[.pointer (some ⟨(P 0).p, 0, none⟩), .pointer (some ⟨(P 1).p, 0, none⟩), .pointer (some ⟨(P 2).p, 0, none⟩), .pointer (some ⟨(R 0).q, 0, none⟩), .pointer (some ⟨(R 1).q, 0, none⟩), .pointer (some ⟨(R 2).q, 0, none⟩)] 112)
  L : ∀ i, i < 3 → Lg w (P i).p (P i).m (P i).M
  D : ∀ i, i < 3 → (R i).at w
  same : ∀ i, i < 3 → (P i).M = (R i).M
  dL : ∀ i j, i < 3 → j < 3 → i ≠ j → ∀ b, ItsL (P i).p (P i).m b → ¬ ItsL (P j).p (P j).m b
  dR : ∀ i j, i < 3 → j < 3 → i ≠ j → ∀ b, RItL (R i).q (R i).a (R i).n (R i).c b → ¬ RItL (R j).q (R j).a (R j).n (R j).c b
section
variable {w w' : World} {bk : Nat} {P : Nat → Ld} {R : Nat → Rd}
theorem St.lt (S : St w bk P R) : bk < w.heap.size := (Array.getElem?_eq_some_iff.1 S.blk).1
theorem St.later (S : St w bk P R) (hb : Below w.heap.size w w') : St w' bk P R :=
  ⟨(hb.block bk S.lt).trans S.blk, fun i hi => (S.L i hi).later hb, fun i hi => (S.D i hi).later hb, S.same, S.dL, S.dR⟩
theorem St.c1 (S : St w bk P R) {i : Nat} (hi : i < 3) : w.cell? ⟨bk, i, none⟩ = some (.pointer (some ⟨(P i).p, 0, none⟩)) := by
  match i, hi with
  | 0, _ => exact cell_of_obj S.blk rfl
  | 1, _ => exact cell_of_obj S.blk rfl
  | 2, _ => exact cell_of_obj S.blk rfl
theorem St.c2 (S : St w bk P R) {i : Nat} (hi : i < 3) : w.cell? ⟨bk, 3 + i, none⟩ = some (.pointer (some ⟨(R i).q, 0, none⟩)) := by
  match i, hi with
  | 0, _ => exact cell_of_obj S.blk rfl
  | 1, _ => exact cell_of_obj S.blk rfl
  | 2, _ => exact cell_of_obj S.blk rfl
theorem St.ok (S : St w bk P R) {i : Nat} (hi : i < 3) : Pr.ok w (P i, R i) := ⟨S.L i hi, S.D i hi, S.same i hi⟩
end
/-- blocks of a ledger of the program's are none of the document's, nor the book's -/
theorem obj_t {w : World} {b : Nat} {x y : Array Value} {t u : TypeId} {z z' : Nat × Nat} (h : w.heap[b]? = some (.cells x t z)) (h' : w.heap[b]? = some (.cells y u z')) : t = u := by
  rw [h] at h'
  injection h' with h'
  injection h'
theorem lg_rl {w : World} {p q n c : Nat} {m : Option Nat} {a : Option Addr} {M N : List En} (L : Lg w p m M) (D : Rl w q a n c N) {b : Nat} (h : ItsL p m b) : ¬ RItL q a n c b := fun k => by
  rcases h with rfl | e
  · rcases k with rfl | k
    · have := obj_t L.blk D.blk; revert this; decide
    · obtain ⟨cur, hc⟩ := own_type D.own k
      have := obj_t L.blk hc; revert this; decide
  · subst e
    rcases k with rfl | k
    · exact mapat_ne L.ents D.blk rfl
    · obtain ⟨cur, hc⟩ := own_type D.own k
      exact mapat_ne L.ents hc rfl
theorem lg_bk {w : World} {p bk : Nat} {m : Option Nat} {M : List En} {x : Array Value} (L : Lg w p m M) (h : w.heap[bk]? = some (.cells x 112)) : ¬ ItsL p m bk := fun k => by
  rcases k with rfl | e
  · have := obj_t L.blk h; revert this; decide
  · subst e; exact mapat_ne L.ents h rfl
theorem rl_bk {w : World} {q n c bk : Nat} {a : Option Addr} {M : List En} {x : Array Value} (D : Rl w q a n c M) (h : w.heap[bk]? = some (.cells x 112)) : ¬ RItL q a n c bk := fun k => by
  rcases k with rfl | k
  · have := obj_t D.blk h; revert this; decide
  · obtain ⟨cur, hc⟩ := own_type D.own k
    have := obj_t h hc; revert this; decide
/-- behind a Decide at place i on both -/
theorem St.dec {w w1 w2 w3 : World} {bk i : Nat} {P : Nat → Ld} {R : Nat → Rd} {m' : Option Nat} {a' : Option Addr} {n' c' : Nat} {M' : List En} (S : St w bk P R) (hi : i < 3) (L1 : Lg w1 (P i).p m' M') (i1 : m' = (P i).m ∨ ∃ b, m' = some b ∧ w.heap.size ≤ b) (o1 : Onl (ItsL (P i).p (P i).m) w w1) (b2 : Below w1.heap.size w1 w2)
    (D3 : Rl w3 (R i).q a' n' c' M') (i3 : ∀ b, RItL (R i).q a' n' c' b → RItL (R i).q (R i).a (R i).n (R i).c b ∨ w2.heap.size ≤ b) (o3 : Onl (RItL (R i).q (R i).a (R i).n (R i).c) w2 w3) :
    St w3 bk (upd P i ⟨(P i).p, m', M'⟩) (upd R i ⟨(R i).q, a', n', c', M'⟩) := by
  have nbL : ¬ ItsL (P i).p (P i).m bk := lg_bk (S.L i hi) S.blk
  have nbR : ¬ RItL (R i).q (R i).a (R i).n (R i).c bk := rl_bk (S.D i hi) S.blk
  have hs1 : w.heap.size ≤ w1.heap.size := o1.size
  have hs2 : w1.heap.size ≤ w2.heap.size := b2.size
  have hbk1 := (o1.block bk S.lt nbL).trans S.blk
  have hbk2 := (b2.block bk (Nat.lt_of_lt_of_le S.lt hs1)).trans hbk1
  have hbk3 := (o3.block bk (Nat.lt_of_lt_of_le S.lt (Nat.le_trans hs1 hs2)) nbR).trans hbk2
  have ep : ∀ j, (upd P i ⟨(P i).p, m', M'⟩ j).p = (P j).p := fun j => by
    by_cases h : j = i
    · subst h; rw [upd_same]
    · rw [upd_ne h]
  have eq : ∀ j, (upd R i ⟨(R i).q, a', n', c', M'⟩ j).q = (R j).q := fun j => by
    by_cases h : j = i
    · subst h; rw [upd_same]
    · rw [upd_ne h]
  have Lj1 : ∀ j, j < 3 → j ≠ i → Lg w1 (P j).p (P j).m (P j).M := fun j hj hne => (S.L j hj).onl o1 (fun b hb k => S.dL j i hj hi hne b hb k)
  have Dj1 : ∀ j, j < 3 → (R j).at w1 := fun j hj => (S.D j hj).onl o1 (fun b hb k => lg_rl (S.L i hi) (S.D j hj) k hb)
  refine ⟨?_, fun j hj => ?_, fun j hj => ?_, fun j hj => ?_, fun j k hj hk hne b hb hb' => ?_, fun j k hj hk hne b hb hb' => ?_⟩
  · rw [ep 0, ep 1, ep 2, eq 0, eq 1, eq 2]; exact hbk3
  · by_cases h : j = i
    · subst h; rw [upd_same]
      exact (L1.later b2).onl o3 (fun b hb k => lg_rl (L1.later b2) ((Dj1 j hj).later b2) hb k)
    · rw [upd_ne h]
      exact ((Lj1 j hj h).later b2).onl o3 (fun b hb k => lg_rl ((Lj1 j hj h).later b2) ((Dj1 i hi).later b2) hb k)
  · by_cases h : j = i
    · subst h; rw [upd_same]; exact D3
    · rw [upd_ne h]
      exact ((Dj1 j hj).later b2).onl o3 (fun b hb k => S.dR j i hj hi h b hb k)
  · by_cases h : j = i
    · subst h; rw [upd_same, upd_same]
    · rw [upd_ne h, upd_ne h]; exact S.same j hj
  · have new : ∀ j, j < 3 → j ≠ i → ItsL (P i).p m' b → ItsL (P j).p (P j).m b → False := fun j hj hne h1 h2 => by
      rcases h1 with e | e
      · exact S.dL i j hi hj (Ne.symm hne) b (.inl e) h2
      · rcases i1 with h | ⟨b2, h, hle⟩
        · exact S.dL i j hi hj (Ne.symm hne) b (.inr (by rw [← h, e])) h2
        · rw [e] at h; injection h with h; subst h
          have := (S.L j hj).its_lt h2; omega
    by_cases h : j = i
    · subst h
      rw [upd_same] at hb
      rw [upd_ne (Ne.symm hne)] at hb'
      exact new k hk (Ne.symm hne) hb hb'
    · rw [upd_ne h] at hb
      by_cases h' : k = i
      · subst h'
        rw [upd_same] at hb'
        exact new j hj h hb' hb
      · rw [upd_ne h'] at hb'
        exact S.dL j k hj hk hne b hb hb'
  · have new : ∀ j, j < 3 → j ≠ i → RItL (R i).q a' n' c' b → RItL (R j).q (R j).a (R j).n (R j).c b → False := fun j hj hne h1 h2 => by
      rcases i3 b h1 with h | h
      · exact S.dR i j hi hj (Ne.symm hne) b h h2
      · have := (S.D j hj).its_lt h2; omega
    by_cases h : j = i
    · subst h
      rw [upd_same] at hb
      rw [upd_ne (Ne.symm hne)] at hb'
      exact new k hk (Ne.symm hne) hb hb'
    · rw [upd_ne h] at hb
      by_cases h' : k = i
      · subst h'
        rw [upd_same] at hb'
        exact new j hj h hb' hb
      · rw [upd_ne h'] at hb'
        exact S.dR j k hj hk hne b hb hb'

/-- rows of pointers, in blocks of their own -/
def OwnP (B : Nat) (w : World) (v : Value) (n : Nat) (D : List (Option Ld)) : Prop := w.ownsRow B 23 1 v n (D.map ptv)
def OwnQ (B : Nat) (w : World) (v : Value) (n : Nat) (D : List (Option Rd)) : Prop := w.ownsRow B 109 1 v n (D.map ptr)
theorem infoP : (Try.prog.info? 23).map (fun i => (i.zero, i.size, i.bytes)) = some (some (.pointer none), 1, 8) := by kernel_rfl
theorem infoQ : (Try.prog.info? 109).map (fun i => (i.zero, i.size, i.bytes)) = some (some (.pointer none), 1, 8) := by kernel_rfl
theorem rowP {B n c : Nat} {w : World} {a : Option Addr} {D : List (Option Ld)} {xs : List Value} {n' : Nat} (h : w.ownsRow B 23 1 (.slice a n c) n (D.map ptv ++ xs)) (hn : D.length ≤ n) : RowC none (fun d => [ptv d]) 1 w a D := fun i hi => by
  obtain ⟨g, rfl, _, hc⟩ := own_cells h (by omega)
  refine ⟨g, 0, rfl, fun o u ho => ?_⟩
  match o, ho with
  | 0, ho =>
    simp at ho
    subst ho
    refine hc _ _ ?_
    rw [List.getElem?_append_left (by simp; omega)]
    simp [hi]
theorem rowQ {B n c : Nat} {w : World} {a : Option Addr} {D : List (Option Rd)} (h : OwnQ B w (.slice a n c) n D) (hn : D.length = n) : RowC none (fun d => [ptr d]) 1 w a D := fun i hi => by
  obtain ⟨g, rfl, _, hc⟩ := own_cells h (by omega)
  refine ⟨g, 0, rfl, fun o u ho => ?_⟩
  match o, ho with
  | 0, ho =>
    simp at ho
    subst ho
    refine hc _ _ ?_
    simp [hi]
end Go.Proofs.Ytogjhpknlopajaa.Lg
