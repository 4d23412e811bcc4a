import Derived.Laws.MakeOwn
import Derived.Test.YtofpaldolcnmiaaGreatB12
import Derived.Maps.AppendAt
set_option linter.unusedVariables false
namespace Go.Proofs.YtofpaldolcnmiaaGreat
namespace Lk
open Go.RowKit Go.Sort
theorem own_le {w : World} {B n size : Nat} {e : TypeId} {v : Value} {xs : List Value} (h : w.ownsRow B e size v n xs) : n ≤ 9223372036854775807 := by
 obtain ⟨_, ⟨_, e1⟩ | ⟨g, cap, cur, e1, _, _, h1, h2, _⟩⟩ := h
 ·omega
 ·simp only [maxLen] at h2; omega
theorem own_type {w : World} {B n size : Nat} {e : TypeId} {v : Value} {xs : List Value} (h : w.ownsRow B e size v n xs) {g : Nat} (hg : v.ownBlock = some g) : ∃ cur, w.heap[g]? = some (.cells cur e (0, 0)) := by
 obtain ⟨_, ⟨e1, _⟩ | ⟨g', cap, cur, e1, _, hh, _⟩⟩ := h
 ·subst e1; simp [Value.ownBlock] at hg
 ·subst e1; simp [Value.ownBlock] at hg; subst hg; exact ⟨cur, hh⟩
end Lk
namespace Vs
open Go.RowKit Go.Sort
theorem usable_at {t : Sp} {u : Bool} (hu : decide (t.a < 18446744073709551615) = u) (W : World) : Calls Tryz.prog 125 #[sv t] W fun e w' => e = .returned (.bool u) ∧ Below W.heap.size W w' := by
 have h := usable_is (a := t.a) (b := t.b) (c := t.c) W; rw [hu] at h; exact h
theorem stonew_is (w : World) : Calls Tryz.prog 207 #[] w fun e w' => ∃ p F, e = .returned (pt p) ∧ Sto F w' p [] ⟨0, 0, 0⟩ ∧ (∀ b, F b → w.heap.size ≤ b) ∧ Below w.heap.size w w' := by
 go_enter Tryz.func207, Tryz.ntmps207
 go_wp2_with fail
 go_ret
 obtain ⟨W, hW⟩ : ∃ W, W = w.alloc (.cells #[.pointer none, .int .u64 0, .int .u32 0, .int .u32 0] 91) := ⟨_, rfl⟩; have hb2 : Below w.heap.size w W := by rw [hW]; exact Below.al (Below.refl _ _) _
 have kb : W.heap[w.heap.size]? = some (.cells #[.pointer none, .int .u64 0, .int .u32 0, .int .u32 0] 91 (0, 0)) := by rw [hW]; exact World.alloc_heap_new _ _
 refine ⟨w.heap.size, fun b => b = w.heap.size, rfl, ⟨[], ?_, rfl⟩, ?_, by rw [← hW]; exact hb2⟩
 ·rw [← hW]; refine ⟨⟨_, kb, rfl, rfl, rfl⟩, stT_store, ⟨.nil, _, _, kb, stT_store.1, rfl, trivial, rfl, List.Pairwise.nil⟩, fun e he => (by cases he), List.Pairwise.nil, Good.nil, rfl, fun e he => (by cases he), ?_⟩; rintro b rfl; exact ⟨_, _, _, kb, .inl rfl⟩
 ·rintro b rfl; exact Nat.le_refl _
open Go.RowKit Go.Sort Go.Shelf
attribute [local go_sem] Oper.semAt_some
theorem not_ixt {t : TypeId} (h : (t == 272 || t == 126 || t == 87) = false) : ¬ IxT t := by
 simp only [Bool.or_eq_false_iff, beq_eq_false_iff_ne] at h; rintro (e | e | e)
 ·exact h.1.1 e
 ·exact h.1.2 e
 ·exact h.2 e
theorem row_not {W : World} {base size k : Nat} {e : TypeId} {v : Value} {xs : List Value} (hr : W.ownsRow base e size v k xs) (he : ¬ IxT e) {b : Nat} {cs : Array Value} {t : TypeId} {z : Nat × Nat} (ht : IxT t) (hb : W.heap[b]? = some (.cells cs t z)) : some b ≠ v.ownBlock := by
 rcases hr.2 with ⟨rfl, _⟩ | ⟨g, cap, cur, rfl, _, hgb, _⟩
 ·simp [Value.ownBlock]
 ·intro e'; obtain rfl : b = g := by simpa [Value.ownBlock] using e'
  rw [hb] at hgb; cases hgb
  exact he ht
open Go.RowKit Go.Sort Go.Shelf
attribute [local go_sem] Oper.semAt_some
end Vs
end Go.Proofs.YtofpaldolcnmiaaGreat
