import Derived.Test.YtmloaddbmkonoabKRoad
namespace Go.Proofs.Ytmloaddbmkonoab
open Go.RowKit Go.Sort

/-- three numbers -/
structure St where
  w : Int
  l : Int
  n : Int
def zst : St := ⟨0, 0, 0⟩
def St.ok (s : St) : Prop := StB s.w s.l s.n
abbrev St.val (s : St) : Value := stv s.w s.l s.n
def St.less (s t : St) : Bool := lessB s.w s.l s.n t.w t.l t.n
/-- the i-th stamp of a list, the zero stamp where there is none -/
def nth (xs : List St) (i : Nat) : St := (xs[i]?).getD zst

/-- the stamps xs lie in memory from the address a on -/
def Row (w : World) (a : Option Addr) (xs : List St) : Prop :=
  ∀ i, i < xs.length → ∃ b off, a = some ⟨b, off, none⟩ ∧ w.cell? ⟨b, off + i * 3, none⟩ = some (.int .u64 (nth xs i).w) ∧ w.cell? ⟨b, off + i * 3 + 1, none⟩ = some (.int .u32 (nth xs i).l) ∧ w.cell? ⟨b, off + i * 3 + 2, none⟩ = some (.int .u32 (nth xs i).n)

theorem Row.later {w w' : World} {a : Option Addr} {xs : List St} (h : Row w a xs) (hb : Below w.heap.size w w') : Row w' a xs := fun i hi => by
  obtain ⟨b, off, e, h0, h1, h2⟩ := h i hi
  exact ⟨b, off, e, cell_later hb h0, cell_later hb h1, cell_later hb h2⟩

/-- the greatest of a list, behind m -/
def maxSt (m : St) : List St → St
  | [] => m
  | x :: xs => maxSt (if m.less x then x else m) xs
theorem maxSt_snoc (xs : List St) (x m : St) : maxSt m (xs ++ [x]) = if (maxSt m xs).less x then x else maxSt m xs := by
  induction xs generalizing m with
  | nil => rfl
  | cons y ys ih => exact ih _
theorem nth_take {xs : List St} {k : Nat} (h : k < xs.length) : xs.take (k + 1) = xs.take k ++ [nth xs k] := by
  rw [List.take_succ_eq_append_getElem h]; simp [nth, h]

end Go.Proofs.Ytmloaddbmkonoab
