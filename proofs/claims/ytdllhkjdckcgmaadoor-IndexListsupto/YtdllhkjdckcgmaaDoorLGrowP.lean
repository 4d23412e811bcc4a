import Derived.Test.YtdllhkjdckcgmaaDoorLEnt
namespace Go.Proofs.YtdllhkjdckcgmaaDoor
open Go.RowKit Go.Sort
set_option linter.unusedVariables false

/-- a row's block is another's or a new one -/
def Near (w : World) (v v' : Value) : Prop := v'.ownBlock = v.ownBlock ∨ ∃ k, v'.ownBlock = some k ∧ w.heap.size ≤ k
theorem Near.rfl {w : World} {v : Value} : Near w v v := .inl _root_.rfl
/-- a row that is gone on with while the beginning stays -/
structure Longer (w wr : World) (B : Nat) (v vk : Value) (T R : List ByteArray) : Prop where
  own : OwnT wr B vk (T ++ R)
  old : OwnT wr B v T
  gr : w.grownBy wr v.ownBlock
  near : Near w v vk
theorem Longer.start {w : World} {B : Nat} {v : Value} {T : List ByteArray} (h : OwnT w B v T) : Longer w w B v v T [] := ⟨by rw [List.append_nil]; exact h, h, grownBy_refl _ _, .rfl⟩
theorem Longer.later {w wr wr' : World} {B : Nat} {v vk : Value} {T R : List ByteArray} (h : Longer w wr B v vk T R) (hb : Below wr.heap.size wr wr') : Longer w wr' B v vk T R :=
  ⟨h.own.later hb, h.old.later hb, grownBy_trans h.gr (grownBy_of hb v.ownBlock) (.inl _root_.rfl), h.near⟩
theorem Longer.step {w wr wr' : World} {B : Nat} {v vk v' : Value} {T R : List ByteArray} {t : ByteArray} (h : Longer w wr B v vk T R) (ho : OwnT wr' B v' (T ++ R ++ [t])) (hgr : wr.grownBy wr' vk.ownBlock) (hkk : OwnT wr' B vk (T ++ R)) (hn : v'.ownBlock = vk.ownBlock ∨ ∃ k, v'.ownBlock = some k ∧ wr.heap.size ≤ k) : Longer w wr' B v v' T (R ++ [t]) := by
  have hs := h.gr.size
  refine ⟨by rw [← List.append_assoc]; exact ho, ?_, ?_, ?_⟩
  · by_cases e : vk.ownBlock = v.ownBlock
    · have h1 := h.own
      have h2 := hkk
      simp only [OwnT, List.length_append, List.map_append] at h1 h2
      exact owns_head (by decide) h.old h1 h2 e
    · exact World.ownsRow.kept h.old hgr (.inr fun e' => e e'.symm)
  · refine grownBy_trans h.gr hgr ?_
    rcases h.near with e | ⟨k, e, hk⟩
    · exact .inl e
    · exact .inr fun j hj => by rw [e] at hj; injection hj with hj; omega
  · rcases hn with e | ⟨k, e, hk⟩
    · rcases h.near with e' | ⟨k, e', hk⟩
      · exact .inl (e.trans e')
      · exact .inr ⟨k, e.trans e', hk⟩
    · exact .inr ⟨k, e, by omega⟩
theorem OwnT.head {w : World} {B g m c : Nat} {T R : List ByteArray} (h : OwnT w B (.slice (some ⟨g, 0, none⟩) m c) (T ++ R)) : OwnT w B (.slice (some ⟨g, 0, none⟩) T.length c) T := by
  obtain ⟨hl, ⟨h', _⟩ | ⟨g1, cap, cur, e, hb, hg, hnc, hcm, hcs, ht⟩⟩ := h
  · cases h'
  · injection e with e1 e2 e3
    injection e1 with e1
    injection e1 with e1 _ _
    subst e1
    subst e3
    rw [List.length_append] at hnc ht
    refine ⟨by simp, .inr ⟨g, c, cur, rfl, hb, hg, by omega, hcm, hcs, ?_⟩⟩
    have h4 := congrArg (List.take (T.length * 1)) ht
    rw [List.take_take, Nat.min_eq_left (by omega), List.map_append] at h4
    rw [h4, show T.length * 1 = (T.map Value.string).length by simp]
    exact List.take_left
/-- the beginning of a row that was gone on with stays while the row is gone on with otherwise -/
theorem one_head {w1 w2 : World} {B g m c : Nat} {v : Value} {T R : List ByteArray} (h1 : OwnT w1 B v T) (ho : OwnT w1 B (.slice (some ⟨g, 0, none⟩) m c) (T ++ R)) (h2 : OwnT w2 B v T) (hg : w1.grownBy w2 v.ownBlock) : OwnT w2 B (.slice (some ⟨g, 0, none⟩) T.length c) T := by
  by_cases e : v.ownBlock = some g
  · rcases h1.2 with ⟨rfl, _⟩ | ⟨g1, cap, cur, rfl, hb, hgg, hnc, hcm, hcs, ht⟩
    · simp [Value.ownBlock] at e
    · have e1 : g1 = g := by simpa [Value.ownBlock] using e
      subst e1
      obtain ⟨_, ⟨h', _⟩ | ⟨g2, cap2, cur2, e2, hb2, hg2, hnc2, hcm2, hcs2, ht2⟩⟩ := ho
      · cases h'
      · injection e2 with e2 e3 e4
        injection e2 with e2
        injection e2 with e2 _ _
        subst e2
        subst e4
        rw [hgg] at hg2
        injection hg2 with hg2
        injection hg2 with hg2 _ _
        subst hg2
        have ec : cap = c := by omega
        subst ec
        exact h2
  · exact World.ownsRow.kept ho.head hg (.inr fun e' => e (by rw [← e']; rfl))
theorem OwnT.slice {w : World} {B : Nat} {v : Value} {T : List ByteArray} (h : OwnT w B v T) : ∃ a c, v = .slice a T.length c ∧ T.length ≤ c := by
  rcases h.2 with ⟨rfl, h0⟩ | ⟨g, cap, cur, rfl, _, _, hnc, _⟩
  · exact ⟨none, 0, by rw [h0], by omega⟩
  · exact ⟨_, cap, rfl, hnc⟩
theorem OwnT.block {w : World} {B : Nat} {v : Value} {T : List ByteArray} (h : OwnT w B v T) (h0 : 0 < T.length) : ∃ g c, v = .slice (some ⟨g, 0, none⟩) T.length c ∧ T.length ≤ c := by
  rcases h.2 with ⟨rfl, h1⟩ | ⟨g, cap, cur, rfl, _, _, hnc, _⟩
  · omega
  · exact ⟨g, cap, rfl, hnc⟩
/-- a text laid into a row -/
theorem OwnT.put {w : World} {B g n c : Nat} {T : List ByteArray} (h : OwnT w B (.slice (some ⟨g, 0, none⟩) n c) T) (hn : n = T.length) (j : Nat) (t : ByteArray) : OwnT (w.setCell ⟨g, j, none⟩ (.string t)) B (.slice (some ⟨g, 0, none⟩) n c) (T.set j t) ∧ w.grownBy (w.setCell ⟨g, j, none⟩ (.string t)) (some g) := by
  subst hn
  have h1 := World.ownsRow.stored h j (.string t)
  refine ⟨?_, h1.2⟩
  show World.ownsRow _ _ _ _ _ (T.set j t).length ((T.set j t).map Value.string)
  rw [List.length_set, List.map_set]
  exact h1.1

end Go.Proofs.YtdllhkjdckcgmaaDoor
