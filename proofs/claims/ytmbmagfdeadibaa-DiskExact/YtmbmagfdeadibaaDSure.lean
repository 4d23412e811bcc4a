import Derived.Test.YtmbmagfdeadibaaDApp
namespace Go.Proofs.Ytmbmagfdeadibaa
open Go.RowKit Go.Sort
set_option linter.unusedVariables false

/-- a row: its bytes, and which of them are sure -/
def mkC (b : List Nat) (p : Nat → Bool) : List Cc := b.mapIdx fun i v => ⟨v, p i⟩
theorem mkC_length (b : List Nat) (p : Nat → Bool) : (mkC b p).length = b.length := by simp [mkC]
theorem mkC_nth {b : List Nat} {p : Nat → Bool} {i : Nat} (h : i < b.length) : nthC (mkC b p) i = ⟨b[i], p i⟩ := by simp [nthC, mkC, h]
/-- sure are those below m and those from q on -/
def sureP (m q i : Nat) : Bool := decide (i < m) || decide (q ≤ i)
theorem mkC_set {b : List Nat} {m q : Nat} (hq : q < b.length) (x : Nat) (hx : b[q]? = some x) : (mkC b (sureP m (q + 1))).set q ⟨x, true⟩ = mkC b (sureP m q) := by
  apply List.ext_getElem?
  intro i
  rw [List.getElem?_set]
  by_cases e : q = i
  · subst e
    have hb : b[q] = x := by rw [List.getElem?_eq_getElem hq] at hx; exact Option.some.inj hx
    simp [mkC, hq, sureP, hb]
  · rw [if_neg e]
    simp only [mkC, List.getElem?_mapIdx]
    cases b[i]? with
    | none => rfl
    | some v =>
      simp only [Option.map_some, Option.some.injEq, Cc.mk.injEq, true_and]
      unfold sureP
      rw [Bool.eq_iff_iff]
      simp
      omega
theorem flatC_set (xs : List Cc) (i : Nat) (h : i < xs.length) : (flatC xs).set (i * 2 + 1) (.bool true) = flatC (xs.set i ⟨(nthC xs i).b, true⟩) := by
  induction xs generalizing i with
  | nil => simp at h
  | cons x xs ih =>
    have e : ∀ (y : Cc) (ys : List Cc), flatC (y :: ys) = .int .u8 (y.b : Int) :: .bool y.s :: flatC ys := fun y ys => by simp [flatC, Cc.cs]
    cases i with
    | zero => simp [e, nthC]
    | succ i =>
      have := ih i (by simpa using h)
      have n1 : nthC (x :: xs) (i + 1) = nthC xs i := by simp [nthC]
      have e2 : (x :: xs).set (i + 1) ⟨(nthC xs i).b, true⟩ = x :: xs.set i ⟨(nthC xs i).b, true⟩ := rfl
      rw [n1, e2, e, e, show (i + 1) * 2 + 1 = (i * 2 + 1) + 1 + 1 by omega, List.set_cons_succ, List.set_cons_succ, this]

/-- a cell is made sure, in its place -/
theorem RefD.sure0 {w : World} {y : Rf} {i g cap : Nat} (h : RefD w y) (hv : y.v 0 = .slice (some ⟨g, 0, none⟩) (y.r 0).length cap) (hi : i < (y.r 0).length) :
    ∃ z, Then w (w.setCell ⟨g, i * 2 + 1, none⟩ (.bool true)) y z ((y.r 0).set i ⟨(nthC (y.r 0) i).b, true⟩) (y.r 1) ∧ z.v 0 = y.v 0 ∧ z.v 1 = y.v 1 := by
  have hg : (y.v 0).ownBlock = some g := by rw [hv]; rfl
  have hs : Onl (fun k => k = g) w (w.setCell ⟨g, i * 2 + 1, none⟩ (.bool true)) := (Onl.refl (fun k => k = g) w).set (p := g) rfl _ _
  have hgp : ¬ y.p = g := fun e => h.n0 (e ▸ hg)
  have ho := h.o0
  rw [hv] at ho
  have ho2 := (ho.stored (i * 2 + 1) (.bool true)).1
  rw [flatC_set _ _ hi] at ho2
  have hl : ((y.r 0).set i ⟨(nthC (y.r 0) i).b, true⟩).length = (y.r 0).length := by simp
  refine ⟨⟨y.p, y.cap, y.v, upd y.r 0 ((y.r 0).set i ⟨(nthC (y.r 0) i).b, true⟩)⟩, ⟨⟨hs.cell hgp h.c0, hs.cell hgp h.c1, hs.cell hgp h.c2, hs.loose hgp h.lt h.loose, ?_, ?_, h.n0, h.n1, h.n2, h.cl, ?_⟩, rfl, rfl, rfl, rfl, hs.mono (fun k e => .inr (.inl (e ▸ hg))), fun k hk => .inl hk⟩, rfl, rfl⟩
  · show World.ownsRow _ 0 _ 2 (y.v 0) ((y.r 0).set i ⟨(nthC (y.r 0) i).b, true⟩).length (flatC ((y.r 0).set i ⟨(nthC (y.r 0) i).b, true⟩))
    rw [hl, hv]
    exact ho2
  · exact owns_onl h.o1 hs (fun g' hg' e => h.n2 g (hg) (e ▸ hg'))
  · show ((y.r 0).set i ⟨(nthC (y.r 0) i).b, true⟩).length + (y.r 1).length ≤ y.cap
    rw [hl]
    exact h.used
theorem RefD.sure1 {w : World} {y : Rf} {i g cap : Nat} (h : RefD w y) (hv : y.v 1 = .slice (some ⟨g, 0, none⟩) (y.r 1).length cap) (hi : i < (y.r 1).length) :
    ∃ z, Then w (w.setCell ⟨g, i * 2 + 1, none⟩ (.bool true)) y z (y.r 0) ((y.r 1).set i ⟨(nthC (y.r 1) i).b, true⟩) ∧ z.v 0 = y.v 0 ∧ z.v 1 = y.v 1 := by
  have hg : (y.v 1).ownBlock = some g := by rw [hv]; rfl
  have hs : Onl (fun k => k = g) w (w.setCell ⟨g, i * 2 + 1, none⟩ (.bool true)) := (Onl.refl (fun k => k = g) w).set (p := g) rfl _ _
  have hgp : ¬ y.p = g := fun e => h.n1 (e ▸ hg)
  have ho := h.o1
  rw [hv] at ho
  have ho2 := (ho.stored (i * 2 + 1) (.bool true)).1
  rw [flatC_set _ _ hi] at ho2
  have hl : ((y.r 1).set i ⟨(nthC (y.r 1) i).b, true⟩).length = (y.r 1).length := by simp
  refine ⟨⟨y.p, y.cap, y.v, upd y.r 1 ((y.r 1).set i ⟨(nthC (y.r 1) i).b, true⟩)⟩, ⟨⟨hs.cell hgp h.c0, hs.cell hgp h.c1, hs.cell hgp h.c2, hs.loose hgp h.lt h.loose, ?_, ?_, h.n0, h.n1, h.n2, h.cl, ?_⟩, rfl, rfl, rfl, rfl, hs.mono (fun k e => .inr (.inr (e ▸ hg))), fun k hk => .inl hk⟩, rfl, rfl⟩
  · exact owns_onl h.o0 hs (fun g' hg' e => h.n2 g' hg' (e ▸ hg))
  · show World.ownsRow _ 0 _ 2 (y.v 1) ((y.r 1).set i ⟨(nthC (y.r 1) i).b, true⟩).length (flatC ((y.r 1).set i ⟨(nthC (y.r 1) i).b, true⟩))
    rw [hl, hv]
    exact ho2
  · show (y.r 0).length + ((y.r 1).set i ⟨(nthC (y.r 1) i).b, true⟩).length ≤ y.cap
    rw [hl]
    exact h.used

end Go.Proofs.Ytmbmagfdeadibaa
