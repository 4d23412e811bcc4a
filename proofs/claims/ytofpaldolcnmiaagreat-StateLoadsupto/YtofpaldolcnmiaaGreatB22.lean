import Derived.Test.YtofpaldolcnmiaaGreatB21
set_option linter.unusedVariables false
namespace Go.Proofs.YtofpaldolcnmiaaGreat
namespace Vs
open Go.RowKit Go.Sort Go.Shelf
theorem StoX.marked {F : Nat → Prop} {w : World} {p o : Nat} {ty : TypeId} {m : List En} {mk : Sp} (h : StoX F w p o ty m mk) (t : Sp) : StoX F (((w.setCell ⟨p, o + 1, none⟩ (.int .u64 t.a)).setCell ⟨p, o + 2, none⟩ (.int .u32 t.b)).setCell ⟨p, o + 3, none⟩ (.int .u32 t.c)) p o ty m t ∧
  Onl (fun b => b = p) w (((w.setCell ⟨p, o + 1, none⟩ (.int .u64 t.a)).setCell ⟨p, o + 2, none⟩ (.int .u32 t.b)).setCell ⟨p, o + 3, none⟩ (.int .u32 t.c)) ∧ Part p o 4 w (((w.setCell ⟨p, o + 1, none⟩ (.int .u64 t.a)).setCell ⟨p, o + 2, none⟩ (.int .u32 t.b)).setCell ⟨p, o + 3, none⟩ (.int .u32 t.c)) := by
 have ho : Onl (fun b => b = p) w (((w.setCell ⟨p, o + 1, none⟩ (.int .u64 t.a)).setCell ⟨p, o + 2, none⟩ (.int .u32 t.b)).setCell ⟨p, o + 3, none⟩ (.int .u32 t.c)) := (((Onl.refl (fun k => k = p) w).set (p := p) rfl _ _).set (p := p) rfl _ _).set (p := p) rfl _ _; have hpt : Part p o 4 w (((w.setCell ⟨p, o + 1, none⟩ (.int .u64 t.a)).setCell ⟨p, o + 2, none⟩ (.int .u32 t.b)).setCell ⟨p, o + 3, none⟩ (.int .u32 t.c)) := (((Part.set w p (o + 1) _).wide (by omega) (by omega)).trans ((Part.set _ p (o + 2) _).wide (by omega) (by omega))).trans ((Part.set _ p (o + 3) _).wide (by omega) (by omega)); obtain ⟨cs, hb, x1, x2, x3⟩ := h.obj; have h1 := heap_put (o := o + 1) (.int .u64 t.a) hb; have h2 := heap_put (o := o + 2) (.int .u32 t.b) h1; have h3 := heap_put (o := o + 3) (.int .u32 t.c) h2; have l1 := (Array.getElem?_eq_some_iff.1 x1).1; have l2 := (Array.getElem?_eq_some_iff.1 x2).1
 have l3 := (Array.getElem?_eq_some_iff.1 x3).1; have hk : Kp w (((w.setCell ⟨p, o + 1, none⟩ (.int .u64 t.a)).setCell ⟨p, o + 2, none⟩ (.int .u32 t.b)).setCell ⟨p, o + 3, none⟩ (.int .u32 t.c)) := Kp.of_index ho hb h.ty.1; refine ⟨⟨⟨_, h3, ?_, ?_, ?_⟩, h.ty, h.xi.keepC hk ?_, fun e he => ?_, h.apart, h.good, h.fp, h.fr, fun b hf => ?_⟩, ho, hpt⟩
 ·rw [Array.getElem?_setIfInBounds_ne (by omega), Array.getElem?_setIfInBounds_ne (by omega)]; simp [l1]
 ·rw [Array.getElem?_setIfInBounds_ne (by omega)]; simp [l2]
 ·simp [l3]
 ·intro cs' t' hc'; rw [hb] at hc'; injection hc' with hc'; injection hc' with e1 e2 _; subst e1 e2
  exact ⟨_, h3, by rw [Array.getElem?_setIfInBounds_ne (by omega), Array.getElem?_setIfInBounds_ne (by omega), Array.getElem?_setIfInBounds_ne (by omega)]⟩
 ·have r := h.row e he; obtain ⟨cs, z, hb2⟩ := r.block; exact r.keep (ho.block _ r.lt (type_ne hb2 hb h.ty.2.symm))
 ·by_cases e : b = p
  ·subst e; exact ⟨_, _, _, h3, .inl rfl⟩
  ·obtain ⟨cs, ty, z, hc, ht⟩ := h.own b hf; exact ⟨cs, ty, z, (ho.block b (h.lt hf) e).trans hc, ht⟩
attribute [local go_sem] Oper.semAt_some
end Vs
section
open Go.RowKit Go.Sort
def putStamp (w : World) (p : Nat) (a b c : Int) : World :=
 ((w.setCell ⟨p, 0, none⟩ (.int .u64 a)).setCell ⟨p, 1, none⟩ (.int .u32 b)).setCell ⟨p, 2, none⟩ (.int .u32 c)
theorem StampAt.put {w : World} {p : Nat} {a b c : Int} (h : StampAt w p a b c) (x y z : Int) : StampAt (putStamp w p x y z) p x y z := by
 obtain ⟨h0, h1, h2⟩ := h; refine ⟨?_, ?_, ?_⟩
 ·unfold putStamp; rw [World.cell?_setCell_other _ _ _ _ (by simp), World.cell?_setCell_other _ _ _ _ (by simp), World.cell?_setCell_same _ _ _ h0]
 ·unfold putStamp; rw [World.cell?_setCell_other _ _ _ _ (by simp), World.cell?_setCell_same _ _ _ (u := .int .u32 b) (by rw [World.cell?_setCell_other _ _ _ _ (by simp)]; exact h1)]
 ·unfold putStamp; rw [World.cell?_setCell_same _ _ _ (u := .int .u32 c) (by rw [World.cell?_setCell_other _ _ _ _ (by simp), World.cell?_setCell_other _ _ _ _ (by simp)]; exact h2)]
theorem cell_put {w : World} {p q o : Nat} {v : Value} (a b c : Int) (hne : p ≠ q) (h : w.cell? ⟨q, o, none⟩ = some v) : (putStamp w p a b c).cell? ⟨q, o, none⟩ = some v := by
 unfold putStamp; rw [World.cell?_setCell_other _ _ _ _ (fun e => hne (congrArg Addr.block e)), World.cell?_setCell_other _ _ _ _ (fun e => hne (congrArg Addr.block e)), World.cell?_setCell_other _ _ _ _ (fun e => hne (congrArg Addr.block e)), h]
theorem Loose.put {w : World} {p q : Nat} (h : Loose w q) (a b c : Int) : Loose (putStamp w p a b c) q := fun o => by
 unfold putStamp; rw [World.frozen?_setCell, World.frozen?_setCell, World.frozen?_setCell]; exact h o
theorem Below.put {B : Nat} {w0 w : World} (h : Below B w0 w) {p : Nat} (hp : B ≤ p) (a b c : Int) : Below B w0 (putStamp w p a b c) :=
 Below.setCell (p := ⟨p, 2, none⟩) (Below.setCell (p := ⟨p, 1, none⟩) (Below.setCell (p := ⟨p, 0, none⟩) h hp _) hp _) hp _
structure St where
 w : Int
 l : Int
 n : Int
def zst : St := ⟨0, 0, 0⟩
abbrev St.val (s : St) : Value := stv s.w s.l s.n
def St.less (s t : St) : Bool := lessB s.w s.l s.n t.w t.l t.n
def nth (xs : List St) (i : Nat) : St := (xs[i]?).getD zst
def Row (w : World) (a : Option Addr) (xs : List St) : Prop :=
 ∀ i, i < xs.length → ∃ b off, a = some ⟨b, off, none⟩ ∧ w.cell? ⟨b, off + i * 3, none⟩ = some (.int .u64 (nth xs i).w) ∧ w.cell? ⟨b, off + i * 3 + 1, none⟩ = some (.int .u32 (nth xs i).l) ∧ w.cell? ⟨b, off + i * 3 + 2, none⟩ = some (.int .u32 (nth xs i).n)
theorem Row.later {w w' : World} {a : Option Addr} {xs : List St} (h : Row w a xs) (hb : Below w.heap.size w w') : Row w' a xs := fun i hi => by
 obtain ⟨b, off, e, h0, h1, h2⟩ := h i hi; exact ⟨b, off, e, cell_later hb h0, cell_later hb h1, cell_later hb h2⟩
def maxSt (m : St) : List St → St
 | [] => m
 | x :: xs => maxSt (if m.less x then x else m) xs
theorem maxSt_snoc (xs : List St) (x m : St) : maxSt m (xs ++ [x]) = if (maxSt m xs).less x then x else maxSt m xs := by
 induction xs generalizing m with
 | nil => rfl
 | cons y ys ih => exact ih _
theorem nth_take {xs : List St} {k : Nat} (h : k < xs.length) : xs.take (k + 1) = xs.take k ++ [nth xs k] := by
 rw [List.take_succ_eq_append_getElem h]; simp [nth, h]
end
end Go.Proofs.YtofpaldolcnmiaaGreat
