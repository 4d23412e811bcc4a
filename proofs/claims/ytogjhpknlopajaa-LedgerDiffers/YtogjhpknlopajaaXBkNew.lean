import Derived.Test.YtogjhpknlopajaaXBookD
/- The book, and a new ledger in one of its places. -/
namespace Go.Proofs.Ytogjhpknlopajaa.Lg
open Go.RowKit Go.Sort Go.Shelf Go.Lib Lk
set_option linter.unusedVariables false

/-- the book's block, at given cells -/
abbrev bcs (P : Nat → Ld) (R : Nat → Rd) : Array Value := #[.pointer (some ⟨(P 0).p, 0, none⟩), .pointer (some ⟨(P 1).p, 0, none⟩), .pointer (some ⟨(P 2).p, 0, none⟩), .pointer (some ⟨(R 0).q, 0, none⟩), .pointer (some ⟨(R 1).q, 0, none⟩), .pointer (some ⟨(R 2).q, 0, none⟩)]
theorem bcs_L {P : Nat → Ld} {R : Nat → Rd} {j : Nat} (hj : j < 3) (x : Ld) : (bcs P R).setIfInBounds j (.pointer (some ⟨x.p, 0, none⟩)) = bcs (upd P j x) R := by
  match j, hj with
  | 0, _ => simp [bcs, upd]
  | 1, _ => simp [bcs, upd]
  | 2, _ => simp [bcs, upd]
theorem bcs_R {P : Nat → Ld} {R : Nat → Rd} {j : Nat} (hj : j < 3) (x : Rd) : (bcs P R).setIfInBounds (3 + j) (.pointer (some ⟨x.q, 0, none⟩)) = bcs P (upd R j x) := by
  match j, hj with
  | 0, _ => simp [bcs, upd]
  | 1, _ => simp [bcs, upd]
  | 2, _ => simp [bcs, upd]
theorem St.new {w w1 w2 w3 w4 : World} {bk j sp sq : Nat} {P : Nat → Ld} {R : Nat → Rd} (S : St w bk P R) (hm : Below w.heap.size w w1) (hj : j < 3) (L1 : Lg w1 sp none []) (hsp : w.heap.size ≤ sp) (h2 : w2 = w1.setCell ⟨bk, j, none⟩ (.pointer (some ⟨sp, 0, none⟩))) (b3 : Below w2.heap.size w2 w3)
    (D3 : Rl w3 sq none 0 0 []) (hsq : w2.heap.size ≤ sq) (h4 : w4 = w3.setCell ⟨bk, 3 + j, none⟩ (.pointer (some ⟨sq, 0, none⟩))) :
    St w4 bk (upd P j ⟨sp, none, []⟩) (upd R j ⟨sq, none, 0, 0, []⟩) := by
  have S1 := S.later hm
  have o2 : Onl (fun b => b = bk) w1 w2 := by rw [h2]; exact (Onl.refl (fun b => b = bk) _).set (p := bk) rfl _ _
  have o4 : Onl (fun b => b = bk) w3 w4 := by rw [h4]; exact (Onl.refl (fun b => b = bk) _).set (p := bk) rfl _ _
  have hlt := S.lt
  have hs1 := hm.size
  have hs2 := o2.size
  have hs3 := b3.size
  have k1 : w1.heap[bk]? = some (.cells (bcs P R) 112) := S1.blk
  have k2 : w2.heap[bk]? = some (.cells (bcs (upd P j ⟨sp, none, []⟩) R) 112) := by
    rw [h2, ← bcs_L hj ⟨sp, none, []⟩]; exact heap_setCell_same w1 bk j _ _ _ k1
  have k3 : w3.heap[bk]? = some (.cells (bcs (upd P j ⟨sp, none, []⟩) R) 112) := (b3.block bk (by omega)).trans k2
  have k4 : w4.heap[bk]? = some (.cells (bcs (upd P j ⟨sp, none, []⟩) (upd R j ⟨sq, none, 0, 0, []⟩)) 112) := by
    rw [h4, ← bcs_R hj ⟨sq, none, 0, 0, []⟩]; exact heap_setCell_same w3 bk (3 + j) _ _ _ k3
  have nb : ∀ {p m M} {v : World} {x : Array Value}, Lg v p m M → v.heap[bk]? = some (.cells x 112) → ∀ b, ItsL p m b → ¬ b = bk := fun L h b hb e => lg_bk L h (e ▸ hb)
  have nr : ∀ {q n c a M} {v : World} {x : Array Value}, Rl v q a n c M → v.heap[bk]? = some (.cells x 112) → ∀ b, RItL q a n c b → ¬ b = bk := fun L h b hb e => rl_bk L h (e ▸ hb)
  have goL : ∀ {p m M}, Lg w1 p m M → Lg w4 p m M := fun L => by
    have L3 := (L.onl o2 (nb L k1)).later b3
    exact L3.onl o4 (nb L3 k3)
  have goR : ∀ {q n c a M}, Rl w1 q a n c M → Rl w4 q a n c M := fun L => by
    have L3 := (L.onl o2 (nr L k1)).later b3
    exact L3.onl o4 (nr L3 k3)
  refine ⟨k4, fun i hi => ?_, fun i hi => ?_, fun i hi => ?_, fun i k hi hk hne b hb hb' => ?_, fun i k hi hk hne b hb hb' => ?_⟩
  · by_cases h : i = j
    · subst h; rw [upd_same]; exact goL L1
    · rw [upd_ne h]; exact goL (S1.L i hi)
  · by_cases h : i = j
    · subst h; rw [upd_same]; exact D3.onl o4 (nr D3 k3)
    · rw [upd_ne h]; exact goR (S1.D i hi)
  · by_cases h : i = j
    · subst h; rw [upd_same, upd_same]
    · rw [upd_ne h, upd_ne h]; exact S.same i hi
  · have new : ∀ i, i < 3 → ItsL sp none b → ItsL (P i).p (P i).m b → False := fun i hi h1 h2 => by
      have := (S.L i hi).its_lt h2
      rcases h1 with e | e
      · omega
      · cases e
    by_cases h : i = j
    · subst h
      rw [upd_same] at hb
      rw [upd_ne (Ne.symm hne)] at hb'
      exact new k hk hb hb'
    · rw [upd_ne h] at hb
      by_cases h' : k = j
      · subst h'
        rw [upd_same] at hb'
        exact new i hi hb' hb
      · rw [upd_ne h'] at hb'
        exact S.dL i k hi hk hne b hb hb'
  · have new : ∀ i, i < 3 → RItL sq none 0 0 b → RItL (R i).q (R i).a (R i).n (R i).c b → False := fun i hi h1 h2 => by
      have := (S.D i hi).its_lt h2
      rcases h1 with e | e
      · omega
      · cases e
    by_cases h : i = j
    · subst h
      rw [upd_same] at hb
      rw [upd_ne (Ne.symm hne)] at hb'
      exact new k hk hb hb'
    · rw [upd_ne h] at hb
      by_cases h' : k = j
      · subst h'
        rw [upd_same] at hb'
        exact new i hi hb' hb
      · rw [upd_ne h'] at hb'
        exact S.dR i k hi hk hne b hb hb'
end Go.Proofs.Ytogjhpknlopajaa.Lg
