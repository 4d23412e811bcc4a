import Derived.Test.YtcphmahbhecfaaaZEnt
/- Rows of entries that are gone on with and written into (written by mk_zent.py). -/
namespace Go.Proofs.Ytcphmahbhecfaaa.Lg
open Go.RowKit Go.Sort Go.Shelf Go.Lib Lk
set_option linter.unusedVariables false

/-- a row's block is another's or a new one -/
def Near (w : World) (v v' : Value) : Prop := v'.ownBlock = v.ownBlock ∨ ∃ k, v'.ownBlock = some k ∧ w.heap.size ≤ k
theorem Near.rfl {w : World} {v : Value} : Near w v v := .inl _root_.rfl
/-- a row that is gone on with while the beginning stays -/
structure Longer (w wr : World) (B : Nat) (v vk : Value) (T R : List En) : Prop where
  own : OwnE wr B vk (T ++ R)
  old : OwnE wr B v T
  gr : w.grownBy wr v.ownBlock
  near : Near w v vk
theorem Longer.start {w : World} {B : Nat} {v : Value} {T : List En} (h : OwnE w B v T) : Longer w w B v v T [] := ⟨by rw [List.append_nil]; exact h, h, grownBy_refl _ _, .rfl⟩
theorem Longer.later {w wr wr' : World} {B : Nat} {v vk : Value} {T R : List En} (h : Longer w wr B v vk T R) (hb : Below wr.heap.size wr wr') : Longer w wr' B v vk T R :=
  ⟨h.own.later hb, h.old.later hb, grownBy_trans h.gr (grownBy_of hb v.ownBlock) (.inl _root_.rfl), h.near⟩
theorem Longer.step {w wr wr' : World} {B : Nat} {v vk v' : Value} {T R : List En} {t : En} (h : Longer w wr B v vk T R) (ho : OwnE wr' B v' (T ++ R ++ [t])) (hgr : wr.grownBy wr' vk.ownBlock) (hkk : OwnE wr' B vk (T ++ R)) (hn : v'.ownBlock = vk.ownBlock ∨ ∃ k, v'.ownBlock = some k ∧ wr.heap.size ≤ k) : Longer w wr' B v v' T (R ++ [t]) := by
  have hs := h.gr.size
  refine ⟨by rw [← List.append_assoc]; exact ho, ?_, ?_, ?_⟩
  · by_cases e : vk.ownBlock = v.ownBlock
    · have h1 := h.own
      have h2 := hkk
      simp only [OwnE, List.length_append, List.flatMap_append] at h1 h2
      exact owns_head (by decide) h.old h1 h2 e
    · exact World.ownsRow.kept h.old hgr (.inr fun e' => e e'.symm)
  · refine grownBy_trans h.gr hgr ?_
    rcases h.near with e | ⟨k, e, hk⟩
    · exact .inl e
    · exact .inr fun j hj => by rw [e] at hj; injection hj with hj; omega
  · rcases hn with e | ⟨k, e, hk⟩
    · rcases h.near with e' | ⟨k, e', hk⟩
      · exact .inl (e.trans e')
      · exact .inr ⟨k, e.trans e', hk⟩
    · exact .inr ⟨k, e, by omega⟩
theorem OwnE.head {w : World} {B g m c : Nat} {T R : List En} (h : OwnE w B (.slice (some ⟨g, 0, none⟩) m c) (T ++ R)) : OwnE w B (.slice (some ⟨g, 0, none⟩) T.length c) T := by
  obtain ⟨hl, ⟨h', _⟩ | ⟨g1, cap, cur, e, hb, hg, hnc, hcm, hcs, ht⟩⟩ := h
  · cases h'
  · injection e with e1 e2 e3
    injection e1 with e1
    injection e1 with e1 _ _
    subst e1
    subst e3
    rw [List.length_append] at hnc ht
    refine ⟨fm_len ecs_len T, .inr ⟨g, c, cur, rfl, hb, hg, by omega, hcm, hcs, ?_⟩⟩
    have h4 := congrArg (List.take (T.length * 7)) ht
    rw [List.take_take, Nat.min_eq_left (by omega), List.flatMap_append] at h4
    rw [h4, ← fm_len ecs_len T]
    exact List.take_left
/-- the beginning of a row that was gone on with stays while the row is gone on with otherwise -/
theorem one_head {w1 w2 : World} {B g m c : Nat} {v : Value} {T R : List En} (h1 : OwnE w1 B v T) (ho : OwnE w1 B (.slice (some ⟨g, 0, none⟩) m c) (T ++ R)) (h2 : OwnE w2 B v T) (hg : w1.grownBy w2 v.ownBlock) : OwnE w2 B (.slice (some ⟨g, 0, none⟩) T.length c) T := by
  by_cases e : v.ownBlock = some g
  · rcases h1.2 with ⟨rfl, _⟩ | ⟨g1, cap, cur, rfl, hb, hgg, hnc, hcm, hcs, ht⟩
    · simp [Value.ownBlock] at e
    · have e1 : g1 = g := by simpa [Value.ownBlock] using e
      subst e1
      obtain ⟨_, ⟨h', _⟩ | ⟨g2, cap2, cur2, e2, hb2, hg2, hnc2, hcm2, hcs2, ht2⟩⟩ := ho
      · cases h'
      · injection e2 with e2 e3 e4
        injection e2 with e2
        injection e2 with e2 _ _
        subst e2
        subst e4
        rw [hgg] at hg2
        injection hg2 with hg2
        injection hg2 with hg2 _ _
        subst hg2
        have ec : cap = c := by omega
        subst ec
        exact h2
  · exact World.ownsRow.kept ho.head hg (.inr fun e' => e (by rw [← e']; rfl))
theorem OwnE.slice {w : World} {B : Nat} {v : Value} {T : List En} (h : OwnE w B v T) : ∃ a c, v = .slice a T.length c ∧ T.length ≤ c := by
  rcases h.2 with ⟨rfl, h0⟩ | ⟨g, cap, cur, rfl, _, _, hnc, _⟩
  · exact ⟨none, 0, by rw [h0], by omega⟩
  · exact ⟨_, cap, rfl, hnc⟩
theorem OwnE.block {w : World} {B : Nat} {v : Value} {T : List En} (h : OwnE w B v T) (h0 : 0 < T.length) : ∃ g c, v = .slice (some ⟨g, 0, none⟩) T.length c ∧ T.length ≤ c := by
  rcases h.2 with ⟨rfl, h1⟩ | ⟨g, cap, cur, rfl, _, _, hnc, _⟩
  · omega
  · exact ⟨g, cap, rfl, hnc⟩
theorem Longer.pre {w w0 wr : World} {B : Nat} {v vk : Value} {T R : List En} (hb : Below w.heap.size w w0) (h : Longer w0 wr B v vk T R) : Longer w wr B v vk T R :=
  ⟨h.own, h.old, grownBy_trans (grownBy_of hb _) h.gr (.inl _root_.rfl), h.near.imp id (fun ⟨k, e, hk⟩ => ⟨k, e, Nat.le_trans hb.size hk⟩)⟩
theorem fm_set {U : List En} {i : Nat} (h : i < U.length) (e : En) :
    (((((((U.flatMap ecs).set (i * 7) (.int .u32 e.id.1)).set (i * 7 + 1) (.int .u32 e.id.2)).set (i * 7 + 2) (.int .u32 e.home)).set (i * 7 + 3) (.int .i64 e.oc)).set (i * 7 + 4) (.int .u64 e.w)).set (i * 7 + 5) (.int .u32 e.l)).set (i * 7 + 6) (.int .u32 e.n) = (U.set i e).flatMap ecs := by
  have e1 : U = U.take i ++ nthE U i :: U.drop (i + 1) := by
    have h1 := List.take_append_drop (i + 1) U
    rw [nthE_take h, List.append_assoc] at h1
    exact h1.symm
  have hl : (U.take i).length = i := by rw [List.length_take]; omega
  obtain ⟨A, hA⟩ : ∃ A, A = U.take i := ⟨_, rfl⟩
  obtain ⟨C, hC⟩ : ∃ C, C = U.drop (i + 1) := ⟨_, rfl⟩
  obtain ⟨x, hx⟩ : ∃ x, x = nthE U i := ⟨_, rfl⟩
  rw [← hA, ← hC, ← hx] at e1
  rw [← hA] at hl
  clear hA hC hx h
  subst e1
  subst hl
  have hs0 : ∀ (P Q : List Value) (v : Value), (P ++ Q).set P.length v = P ++ Q.set 0 v := fun P Q v => by
    rw [List.set_append_right _ _ (Nat.le_refl _)]; simp
  have hs : ∀ (P Q : List Value) (j : Nat) (v : Value), (P ++ Q).set (P.length + j) v = P ++ Q.set j v := fun P Q j v => by
    rw [List.set_append_right _ _ (by omega)]; simp
  have hr : (A ++ x :: C).set A.length e = A ++ e :: C := by
    rw [List.set_append_right _ _ (Nat.le_refl _)]; simp
  rw [hr, List.flatMap_append, List.flatMap_append, List.flatMap_cons, List.flatMap_cons, ← fm_len ecs_len A, hs0, hs, hs, hs, hs, hs, hs]
  rfl
abbrev putE (w : World) (g o : Nat) (x : En) : World := ((((((w.setCell ⟨g, o, none⟩ (.int .u32 x.id.1)).setCell ⟨g, o + 1, none⟩ (.int .u32 x.id.2)).setCell ⟨g, o + 2, none⟩ (.int .u32 x.home)).setCell ⟨g, o + 3, none⟩ (.int .i64 x.oc)).setCell ⟨g, o + 4, none⟩ (.int .u64 x.w)).setCell ⟨g, o + 5, none⟩ (.int .u32 x.l)).setCell ⟨g, o + 6, none⟩ (.int .u32 x.n)
/-- an entry laid into a row -/
theorem OwnE.put {w : World} {B g n c : Nat} {U : List En} (h : OwnE w B (.slice (some ⟨g, 0, none⟩) n c) U) (hn : n = U.length) (j : Nat) (hj : j < n) (x : En) : OwnE (putE w g (j * 7) x) B (.slice (some ⟨g, 0, none⟩) n c) (U.set j x) ∧ w.grownBy (putE w g (j * 7) x) (some g) := by
  subst hn
  have h0 := World.ownsRow.stored h (j * 7) (.int .u32 x.id.1)
  have h1 := World.ownsRow.stored h0.1 (j * 7 + 1) (.int .u32 x.id.2)
  have h2 := World.ownsRow.stored h1.1 (j * 7 + 2) (.int .u32 x.home)
  have h3 := World.ownsRow.stored h2.1 (j * 7 + 3) (.int .i64 x.oc)
  have h4 := World.ownsRow.stored h3.1 (j * 7 + 4) (.int .u64 x.w)
  have h5 := World.ownsRow.stored h4.1 (j * 7 + 5) (.int .u32 x.l)
  have h6 := World.ownsRow.stored h5.1 (j * 7 + 6) (.int .u32 x.n)
  refine ⟨?_, grownBy_trans h0.2 (grownBy_trans h1.2 (grownBy_trans h2.2 (grownBy_trans h3.2 (grownBy_trans h4.2 (grownBy_trans h5.2 h6.2 (.inl rfl)) (.inl rfl)) (.inl rfl)) (.inl rfl)) (.inl rfl)) (.inl rfl)⟩
  show World.ownsRow _ _ _ _ _ (U.set j x).length ((U.set j x).flatMap ecs)
  rw [List.length_set, ← fm_set hj]
  exact h6.1
theorem OwnE.cellsAt {w : World} {B g n c : Nat} {U : List En} (h : OwnE w B (.slice (some ⟨g, 0, none⟩) n c) U) (hn : U.length = n) (k : Nat) (hk : k < n) : ∀ (j : Nat) (u : Value), (ecs (nthE U k))[j]? = some u → w.cell? ⟨g, k * 7 + j, none⟩ = some u := by
  subst hn
  obtain ⟨b, off, e, hc⟩ := own_row h rfl k hk
  injection e with e
  injection e with e1 e2 _
  subst e1 e2
  intro j u hj
  have := hc j u hj
  rwa [Nat.zero_add] at this
theorem OwnE.loose {w : World} {B g n c : Nat} {U : List En} (h : OwnE w B (.slice (some ⟨g, 0, none⟩) n c) U) (hn : U.length = n) (o : Nat) : w.frozen? ⟨g, o, none⟩ = false := by
  subst hn
  exact World.ownsRow.frozenAt h o
end Go.Proofs.Ytcphmahbhecfaaa.Lg
