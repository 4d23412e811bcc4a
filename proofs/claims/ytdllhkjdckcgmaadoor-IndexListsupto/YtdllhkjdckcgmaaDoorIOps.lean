import Derived.Test.YtdllhkjdckcgmaaDoorIIndex
namespace Go.Proofs.YtdllhkjdckcgmaaDoor
open Go.RowKit Go.Sort
set_option linter.unusedVariables false

/-- a step of a script -/
structure Ao where
  k : Int
  pl : Int
  key : ByteArray
  hi : ByteArray
  v : Int
  st : Int
def zao : Ao := ⟨0, 0, ⟨#[]⟩, ⟨#[]⟩, 0, 0⟩
def nthO (l : List Ao) (i : Nat) : Ao := (l[i]?).getD zao
theorem nthO_take {l : List Ao} {i : Nat} (h : i < l.length) : l.take (i + 1) = l.take i ++ [nthO l i] := by
  rw [List.take_add_one, nthO, List.getElem?_eq_getElem h]; rfl
theorem nthO_mem {l : List Ao} {i : Nat} (h : i < l.length) : nthO l i ∈ l := by
  rw [nthO, List.getElem?_eq_getElem h]; exact List.getElem_mem h
def RowO (w : World) (a : Option Addr) (l : List Ao) : Prop :=
  ∀ i, i < l.length → ∃ b off, a = some ⟨b, off, none⟩ ∧ w.cell? ⟨b, off + i * 6, none⟩ = some (.int .i64 (nthO l i).k) ∧ w.cell? ⟨b, off + i * 6 + 1, none⟩ = some (.int .i64 (nthO l i).pl) ∧ w.cell? ⟨b, off + i * 6 + 2, none⟩ = some (.string (nthO l i).key) ∧
    w.cell? ⟨b, off + i * 6 + 3, none⟩ = some (.string (nthO l i).hi) ∧ w.cell? ⟨b, off + i * 6 + 4, none⟩ = some (.int .i64 (nthO l i).v) ∧ w.cell? ⟨b, off + i * 6 + 5, none⟩ = some (.int .i64 (nthO l i).st)
theorem RowO.later {w w' : World} {a : Option Addr} {l : List Ao} (h : RowO w a l) (hb : Below w.heap.size w w') : RowO w' a l := fun i hi => by
  obtain ⟨b, off, e, h0, h1, h2, h3, h4, h5⟩ := h i hi
  exact ⟨b, off, e, cell_later hb h0, cell_later hb h1, cell_later hb h2, cell_later hb h3, cell_later hb h4, cell_later hb h5⟩
/-- nothing that lay below B has changed -/
theorem RowO.below {w w' : World} {B : Nat} {a : Option Addr} {l : List Ao} (h : RowO w a l) (hB : ∀ b off, a = some ⟨b, off, none⟩ → b < B) (hb : Below B w w') : RowO w' a l := fun i hi => by
  obtain ⟨b, off, e, h0, h1, h2, h3, h4, h5⟩ := h i hi
  have hlt := hB b off e
  have key : ∀ o, w'.cell? ⟨b, o, none⟩ = w.cell? ⟨b, o, none⟩ := fun o => hb.cell (p := ⟨b, o, none⟩) hlt
  exact ⟨b, off, e, by rw [key]; exact h0, by rw [key]; exact h1, by rw [key]; exact h2, by rw [key]; exact h3, by rw [key]; exact h4, by rw [key]; exact h5⟩
theorem RowO.drop {w : World} {b off : Nat} {l : List Ao} (h : RowO w (some ⟨b, off, none⟩) l) (j : Nat) : RowO w (some ⟨b, off + j * 6, none⟩) (l.drop j) := fun i hi => by
  rw [List.length_drop] at hi
  obtain ⟨b', off', e, h0, h1, h2, h3, h4, h5⟩ := h (j + i) (by omega)
  injection e with e; injection e with e1 e2 _
  subst e1 e2
  have hn : nthO (l.drop j) i = nthO l (j + i) := by rw [nthO, nthO, List.getElem?_drop]
  rw [hn]
  exact ⟨b, _, rfl, by rw [show off + j * 6 + i * 6 = off + (j + i) * 6 by omega]; exact h0, by rw [show off + j * 6 + i * 6 = off + (j + i) * 6 by omega]; exact h1, by rw [show off + j * 6 + i * 6 = off + (j + i) * 6 by omega]; exact h2, by rw [show off + j * 6 + i * 6 = off + (j + i) * 6 by omega]; exact h3, by rw [show off + j * 6 + i * 6 = off + (j + i) * 6 by omega]; exact h4, by rw [show off + j * 6 + i * 6 = off + (j + i) * 6 by omega]; exact h5⟩

/-- what a script's sets and deletes are -/
def chO (o : Ao) : List Ch := if o.k = 2 then [⟨o.key, o.v, false⟩] else if o.k = 4 then [⟨o.key, 0, true⟩] else []
def chs (l : List Ao) : List Ch := l.flatMap chO
theorem chs_snoc (l : List Ao) (o : Ao) : chs (l ++ [o]) = chs l ++ chO o := by simp [chs]
theorem chs_len (l : List Ao) : (chs l).length ≤ l.length := by
  induction l with
  | nil => simp [chs]
  | cons o l ih =>
    have : chs (o :: l) = chO o ++ chs l := rfl
    have h1 : (chO o).length ≤ 1 := by unfold chO; split <;> (try split) <;> simp
    rw [this, List.length_append, List.length_cons]; omega
theorem getL_chs_snoc (l : List Ao) (o : Ao) (key : ByteArray) : getL (chs (l ++ [o])) key = if o.key = key then (if o.k = 2 then some o.v else if o.k = 4 then none else getL (chs l) key) else getL (chs l) key := by
  rw [chs_snoc]
  unfold chO
  by_cases h2 : o.k = 2
  · rw [if_pos h2, if_pos h2, getL_snoc]; simp
  · rw [if_neg h2, if_neg h2]
    by_cases h4 : o.k = 4
    · rw [if_pos h4, if_pos h4, getL_snoc]; simp
    · rw [if_neg h4, if_neg h4]; simp
theorem ixL_chs_snoc (l : List Ao) (o : Ao) : ixL (chs (l ++ [o])) = if o.k = 2 then setX (ixL (chs l)) o.key o.v else if o.k = 4 then delX (ixL (chs l)) o.key else ixL (chs l) := by
  rw [chs_snoc]
  unfold chO
  by_cases h2 : o.k = 2
  · rw [if_pos h2, if_pos h2, ixL_snoc]; simp
  · rw [if_neg h2, if_neg h2]
    by_cases h4 : o.k = 4
    · rw [if_pos h4, if_pos h4, ixL_snoc]; simp
    · rw [if_neg h4, if_neg h4]; simp
theorem ixL_len (log : List Ch) : (ixL log).length ≤ log.length := by
  induction log using snoc_ind with
  | nil => simp [ixL]
  | snoc log c ih =>
    rw [ixL_snoc, List.length_append]
    split
    · have := delX_len (ixL log) c.key; simp; omega
    · have := setX_len (ixL log) c.key c.v; simp; omega

def setO (l : List Ao) (key : ByteArray) : Bool := l.any fun o => decide (o.k = 2) && decide (o.key = key)
theorem retB' {a b : Bool} (h : a = b) : Ending.returned (Value.bool a) = Ending.returned (Value.bool b) := by rw [h]

end Go.Proofs.YtdllhkjdckcgmaaDoor
