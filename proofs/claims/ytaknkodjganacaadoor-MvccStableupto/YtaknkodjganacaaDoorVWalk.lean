import Derived.Test.YtaknkodjganacaaDoorVNew
import Derived.Maps.AppendAt
/- What loops over an iterator keep. -/
namespace Go.Proofs.YtaknkodjganacaaDoor.Vs
open Go.RowKit Go.Sort Go.Shelf
set_option linter.unusedVariables false
attribute [local go_sem] Oper.semAt_some

theorem not_ixt {t : TypeId} (h : (t == 105 || t == 28 || t == 83) = false) : ¬ IxT t := by
  simp only [Bool.or_eq_false_iff, beq_eq_false_iff_ne] at h
  rintro (e | e | e)
  · exact h.1.1 e
  · exact h.1.2 e
  · exact h.2 e
theorem row_not {W : World} {base size k : Nat} {e : TypeId} {v : Value} {xs : List Value} (hr : W.ownsRow base e size v k xs) (he : ¬ IxT e) {b : Nat} {cs : Array Value} {t : TypeId} {z : Nat × Nat} (ht : IxT t) (hb : W.heap[b]? = some (.cells cs t z)) : some b ≠ v.ownBlock := by
  rcases hr.2 with ⟨rfl, _⟩ | ⟨g, cap, cur, rfl, _, hgb, _⟩
  · simp [Value.ownBlock]
  · intro e'
    obtain rfl : b = g := by simpa [Value.ownBlock] using e'
    rw [hb] at hgb
    cases hgb
    exact he ht
/-- 'out = append(out, ..)' keeps what no call changes -/
theorem kp_appended {W w1 : World} {n₀ B : Nat} {t e : TypeId} {size : Nat} {v v' : Value} {k : Nat} {xs : List Value} {tmp : Obj}
    (hv : Boxed W B t v) (hrow : W.ownsRow n₀ e size v k xs) (hgrow : (W.alloc tmp).grownBy w1 v.ownBlock) (ht : ¬ IxT t) (he : ¬ IxT e) : Kp W (w1.setCell ⟨B, 0, none⟩ v') := by
  refine ⟨Nat.le_trans (Nat.le_trans (by simp) hgrow.size) (by simp [World.setCell]), fun b cs ty z hty hb => ?_⟩
  have hlt := (Array.getElem?_eq_some_iff.1 hb).1
  have hne : b ≠ B := fun e' => by subst e'; rw [show W.heap[b]? = _ from hv] at hb; cases hb; exact ht hty
  refine (Below.heap_setCell _ _ _ _ hne).trans ((hgrow.block b (by simp; omega) (row_not hrow he hty hb)).trans ((Below.heap_alloc W tmp b hlt).trans hb))

theorem kp_set {W : World} {B : Nat} {t : TypeId} {v : Value} (h : Boxed W B t v) (ht : ¬ IxT t) (u : Value) : Kp W (W.setCell ⟨B, 0, none⟩ u) :=
  Kp.of_onl (F := fun b => b = B) (Onl.set (F := fun b => b = B) (Onl.refl _ _) rfl _ _) fun b cs ty z hf ho hty => by subst hf; rw [show W.heap[b]? = _ from h] at ho; cases ho; exact ht hty
/-- three boxes, all written -/
theorem three {W : World} {a b c : Nat} {ta tb tc : TypeId} {x y z : Value} (h1 : Boxed W a ta x) (h2 : Boxed W b tb y) (h3 : Boxed W c tc z) (hab : a ≠ b) (hac : a ≠ c) (hbc : b ≠ c) (x' y' z' : Value) :
    Boxed (((W.setCell ⟨a, 0, none⟩ x').setCell ⟨b, 0, none⟩ y').setCell ⟨c, 0, none⟩ z') a ta x' ∧ Boxed (((W.setCell ⟨a, 0, none⟩ x').setCell ⟨b, 0, none⟩ y').setCell ⟨c, 0, none⟩ z') b tb y' ∧ Boxed (((W.setCell ⟨a, 0, none⟩ x').setCell ⟨b, 0, none⟩ y').setCell ⟨c, 0, none⟩ z') c tc z' :=
  ⟨((h1.set x').other hab _).other hac _, ((h2.other (Ne.symm hab) _).set y').other hbc _, ((h3.other (Ne.symm hac) _).other (Ne.symm hbc) _).set z'⟩
theorem keeps3 (W : World) (a b c : Addr) (x y z : Value) : KeepsOthers W (((W.setCell a x).setCell b y).setCell c z) := ((KeepsOthers.setCell _ _ _).trans (KeepsOthers.setCell _ _ _)).trans (KeepsOthers.setCell _ _ _)
theorem boxed_put {W : World} {B D : Nat} {t : TypeId} {v : Value} {o : Obj} (h : Boxed W B t v) (hD : W.heap[D]? = some o) (ho : o.isCells = false) (o' : Obj) : Boxed (W.putObj D o') B t v :=
  h.kept (grownBy_putObj' W D o') (fun e => by
    have e2 : B = D := by simpa using e
    subst e2
    rw [show W.heap[B]? = _ from h] at hD; cases hD; cases ho)
end Go.Proofs.YtaknkodjganacaaDoor.Vs
