import Derived.Test.YtdllhkjdckcgmaaDoorIPlain
import Derived.Test.YtdllhkjdckcgmaaDoorDOnl
import Derived.RangeFuncBox
/- The document's index: a list of changes. -/
namespace Go.Proofs.YtdllhkjdckcgmaaDoor
open Go.RowKit Go.Sort
set_option linter.unusedVariables false

theorem ret_boolI {x u : Bool} (h : x = u) : Ending.returned (.bool x) = Ending.returned (.bool u) := h ▸ rfl
def zch : Ch := ⟨⟨#[]⟩, 0, false⟩
def nthH (l : List Ch) (i : Nat) : Ch := (l[i]?).getD zch
def nthE (l : List En) (i : Nat) : En := (l[i]?).getD (⟨#[]⟩, 0)
theorem nthH_take {l : List Ch} {k : Nat} (h : k < l.length) : l.take (k + 1) = l.take k ++ [nthH l k] := by
  rw [List.take_succ_eq_append_getElem h]; simp [nthH, h]
theorem nthE_take {l : List En} {k : Nat} (h : k < l.length) : l.take (k + 1) = l.take k ++ [nthE l k] := by
  rw [List.take_succ_eq_append_getElem h]; simp [nthE, h]
def Ch.cs (c : Ch) : List Value := [.string c.key, .int .i64 c.v, .bool c.gone]
abbrev En.cs (e : En) : List Value := [.string e.1, .int .i64 e.2]
def flatH (l : List Ch) : List Value := l.flatMap Ch.cs
def flatE (l : List En) : List Value := l.flatMap En.cs
theorem flatH_length (l : List Ch) : (flatH l).length = l.length * 3 := by
  induction l with
  | nil => rfl
  | cons x l ih => simp only [flatH, List.flatMap_cons, List.length_append, List.length_cons] at *; rw [ih]; simp [Ch.cs]; omega
theorem flatE_length (l : List En) : (flatE l).length = l.length * 2 := by
  induction l with
  | nil => rfl
  | cons x l ih => simp only [flatE, List.flatMap_cons, List.length_append, List.length_cons] at *; rw [ih]; simp; omega
theorem flatH_snoc (l : List Ch) (c : Ch) : flatH (l ++ [c]) = flatH l ++ c.cs := by simp [flatH]
theorem flatE_snoc (l : List En) (e : En) : flatE (l ++ [e]) = flatE l ++ En.cs e := by simp [flatE]
theorem flatH_at (l : List Ch) (i : Nat) (h : i < l.length) : (flatH l)[i * 3]? = some (.string (nthH l i).key) ∧ (flatH l)[i * 3 + 1]? = some (.int .i64 (nthH l i).v) ∧ (flatH l)[i * 3 + 2]? = some (.bool (nthH l i).gone) := by
  induction l generalizing i with
  | nil => simp at h
  | cons x l ih =>
    have e : flatH (x :: l) = x.cs ++ flatH l := by simp [flatH]
    rw [e]
    cases i with
    | zero => exact ⟨rfl, rfl, rfl⟩
    | succ i =>
      have := ih i (by simpa using h)
      have n1 : nthH (x :: l) (i + 1) = nthH l i := by simp [nthH]
      rw [n1]
      have hl : x.cs.length = 3 := rfl
      refine ⟨?_, ?_, ?_⟩
      · rw [List.getElem?_append_right (by rw [hl]; omega), hl, show (i + 1) * 3 - 3 = i * 3 by omega]; exact this.1
      · rw [List.getElem?_append_right (by rw [hl]; omega), hl, show (i + 1) * 3 + 1 - 3 = i * 3 + 1 by omega]; exact this.2.1
      · rw [List.getElem?_append_right (by rw [hl]; omega), hl, show (i + 1) * 3 + 2 - 3 = i * 3 + 2 by omega]; exact this.2.2
theorem flatE_at (l : List En) (i : Nat) (h : i < l.length) : (flatE l)[i * 2]? = some (.string (nthE l i).1) ∧ (flatE l)[i * 2 + 1]? = some (.int .i64 (nthE l i).2) := by
  induction l generalizing i with
  | nil => simp at h
  | cons x l ih =>
    have e : flatE (x :: l) = En.cs x ++ flatE l := by simp [flatE]
    rw [e]
    cases i with
    | zero => exact ⟨rfl, rfl⟩
    | succ i =>
      have := ih i (by simpa using h)
      have n1 : nthE (x :: l) (i + 1) = nthE l i := by simp [nthE]
      rw [n1]
      have hl : (En.cs x).length = 2 := rfl
      refine ⟨?_, ?_⟩
      · rw [List.getElem?_append_right (by rw [hl]; omega), hl, show (i + 1) * 2 - 2 = i * 2 by omega]; exact this.1
      · rw [List.getElem?_append_right (by rw [hl]; omega), hl, show (i + 1) * 2 + 1 - 2 = i * 2 + 1 by omega]; exact this.2
def RowH (w : World) (a : Option Addr) (l : List Ch) : Prop :=
  ∀ i, i < l.length → ∃ b off, a = some ⟨b, off, none⟩ ∧ w.cell? ⟨b, off + i * 3, none⟩ = some (.string (nthH l i).key) ∧ w.cell? ⟨b, off + i * 3 + 1, none⟩ = some (.int .i64 (nthH l i).v) ∧ w.cell? ⟨b, off + i * 3 + 2, none⟩ = some (.bool (nthH l i).gone)
def RowE (w : World) (a : Option Addr) (l : List En) : Prop :=
  ∀ i, i < l.length → ∃ b off, a = some ⟨b, off, none⟩ ∧ w.cell? ⟨b, off + i * 2, none⟩ = some (.string (nthE l i).1) ∧ w.cell? ⟨b, off + i * 2 + 1, none⟩ = some (.int .i64 (nthE l i).2)
theorem RowH.later {w w' : World} {a : Option Addr} {l : List Ch} (h : RowH w a l) (hb : Below w.heap.size w w') : RowH w' a l := fun i hi => by
  obtain ⟨b, off, e, h0, h1, h2⟩ := h i hi
  exact ⟨b, off, e, cell_later hb h0, cell_later hb h1, cell_later hb h2⟩
theorem RowE.later {w w' : World} {a : Option Addr} {l : List En} (h : RowE w a l) (hb : Below w.heap.size w w') : RowE w' a l := fun i hi => by
  obtain ⟨b, off, e, h0, h1⟩ := h i hi
  exact ⟨b, off, e, cell_later hb h0, cell_later hb h1⟩
theorem rowH_of_owns {w : World} {base : Nat} {v : Value} {l : List Ch} (h : w.ownsRow base 61 3 v l.length (flatH l)) : ∃ a c, v = .slice a l.length c ∧ RowH w a l := by
  have h' := h
  obtain ⟨hl, ⟨rfl, h0⟩ | ⟨g, cap, cur, rfl, _⟩⟩ := h'
  · exact ⟨none, 0, by rw [h0], fun i hi => by omega⟩
  · refine ⟨_, cap, rfl, fun i hi => ⟨g, 0, rfl, ?_⟩⟩
    have hc := fun j hj => h.cellAt j hj
    obtain ⟨f0, f1, f2⟩ := flatH_at l i hi
    simp only [Nat.zero_add]
    exact ⟨by rw [hc _ (by omega)]; exact f0, by rw [hc _ (by omega)]; exact f1, by rw [hc _ (by omega)]; exact f2⟩
theorem rowE_of_owns {w : World} {base : Nat} {v : Value} {l : List En} (h : w.ownsRow base 72 2 v l.length (flatE l)) : ∃ a c, v = .slice a l.length c ∧ RowE w a l := by
  have h' := h
  obtain ⟨hl, ⟨rfl, h0⟩ | ⟨g, cap, cur, rfl, _⟩⟩ := h'
  · exact ⟨none, 0, by rw [h0], fun i hi => by omega⟩
  · refine ⟨_, cap, rfl, fun i hi => ⟨g, 0, rfl, ?_⟩⟩
    have hc := fun j hj => h.cellAt j hj
    obtain ⟨f0, f1⟩ := flatE_at l i hi
    simp only [Nat.zero_add]
    exact ⟨by rw [hc _ (by omega)]; exact f0, by rw [hc _ (by omega)]; exact f1⟩

/-- the document's index at p -/
structure Ri (w : World) (p : Nat) (v : Value) (log : List Ch) : Prop where
  box : Boxed w p 59 v
  own : w.ownsRow 0 61 3 v log.length (flatH log)
  np : v.ownBlock ≠ some p
  len : (log.length + 1) * 64 ≤ 140737488355328
theorem Ri.c0 {w : World} {p : Nat} {v : Value} {log : List Ch} (h : Ri w p v log) : w.cell? ⟨p, 0, none⟩ = some v := h.box.cell
theorem Ri.loose {w : World} {p : Nat} {v : Value} {log : List Ch} (h : Ri w p v log) : Loose w p := fun o => by
  simp only [World.frozen?, show w.heap[p]? = _ from h.box]; rfl
def Ri.has (p : Nat) (v : Value) (k : Nat) : Prop := k = p ∨ v.ownBlock = some k
theorem Ri.lt {w : World} {p : Nat} {v : Value} {log : List Ch} (h : Ri w p v log) : p < w.heap.size := World.block_lt_of_cell? _ _ h.c0
theorem Ri.keep {w w' : World} {F : Nat → Prop} {p : Nat} {v : Value} {log : List Ch} (h : Ri w p v log) (ho : Onl F w w') (hF : ∀ k, Ri.has p v k → ¬ F k) : Ri w' p v log :=
  ⟨(ho.block p h.lt (hF p (.inl rfl))).trans h.box, owns_onl h.own ho (fun g hg => hF g (.inr hg)), h.np, h.len⟩
theorem Ri.later {w w' : World} {p : Nat} {v : Value} {log : List Ch} (h : Ri w p v log) (hb : Below w.heap.size w w') : Ri w' p v log := h.keep (F := fun _ => False) (Onl.of_below hb) (fun _ _ => id)
theorem Ri.row {w : World} {p : Nat} {v : Value} {log : List Ch} (h : Ri w p v log) : ∃ a c, v = .slice a log.length c ∧ RowH w a log := rowH_of_owns h.own

/-- what Get answers -/
def gotV (o : Option Int) : Value := .tuple #[.int .i64 (o.getD 0), .bool o.isSome]
theorem getL_take {log : List Ch} {j : Nat} (hj : j < log.length) (k : ByteArray) : getL (log.take (j + 1)) k = if (nthH log j).key = k then (if (nthH log j).gone then none else some (nthH log j).v) else getL (log.take j) k := by
  rw [nthH_take hj, getL_snoc]

theorem toList_beq {a b : ByteArray} {u : Bool} (h : decide (a = b) = u) : (a.toList == b.toList) = u := by
  rw [← h, Bool.eq_iff_iff]
  simp only [beq_iff_eq, decide_eq_true_eq]
  exact ⟨bytes_inj, fun e => by rw [e]⟩

set_option maxHeartbeats 2000000 in
theorem refget_is {w : World} {p : Nat} {v : Value} {log : List Ch} (h : Ri w p v log) (k : ByteArray) :
    Calls Tryd.prog 20 #[.pointer (some ⟨p, 0, none⟩), .string k] w fun e w' => e = .returned (gotV (getL log k)) ∧ w' = w := by
  obtain ⟨a, c, rfl, hr⟩ := h.row
  have c0 := h.c0
  have hlen := h.len
  have HR := hid hr
  clear h hr
  go_enter Tryd.func20, Tryd.ntmps20
  go_wp2_with fail
  go_loopg [6] log.length (fun g s6 wr => ∃ j : Nat, j ≤ log.length ∧ g = j ∧ s6 = .int .i64 ((j : Int) - 1) ∧ Hid (getL log k = getL (log.take j) k) ∧ wr = w)
  case atStart => exact ⟨log.length, Nat.le_refl _, rfl, by go_num, by show _ = _; rw [List.take_of_length_le (Nat.le_refl _)], rfl⟩
  case round =>
    obtain ⟨j, hj, rfl, rfl, HG, rfl⟩ := hrel
    cases gk with
    | zero =>
      have HE : Hid (getL log k = none) := by show _ = _; rw [HG.out]; rfl
      go_wp2_with fail
      go_ret2
      exact ⟨by rw [HE.out]; rfl, rfl⟩
    | succ i =>
      have hi : i < log.length := by omega
      obtain ⟨b, off, rfl, d0, d1, d2⟩ := HR.out i hi
      have HT := hid (getL_take hi k)
      obtain ⟨x, hx⟩ : ∃ x, x = nthH log i := ⟨_, rfl⟩
      rw [← hx] at d0 d1 d2 HT
      clear hx
      rw [show (((i + 1 : Nat) : Int) - 1) = (i : Int) by omega]
      by_cases hk : x.key = k
      · have q1 := toList_beq (decide_eq_true hk)
        by_cases hg : x.gone = true
        · have HE : Hid (getL log k = none) := by show _ = _; rw [HG.out, HT.out, if_pos hk, if_pos hg]
          rw [hg] at d2
          clear hk hg
          go_wp2_with fail
          go_ret2
          exact ⟨by rw [HE.out]; rfl, rfl⟩
        · have HE : Hid (getL log k = some x.v) := by show _ = _; rw [HG.out, HT.out, if_pos hk, if_neg hg]
          rw [Bool.eq_false_iff.2 hg] at d2
          clear hk hg
          go_wp2_with fail
          go_ret2
          exact ⟨by rw [HE.out]; rfl, rfl⟩
      · have q1 := toList_beq (decide_eq_false hk)
        have HG2 : Hid (getL log k = getL (log.take i) k) := by show _ = _; rw [HG.out, HT.out, if_neg hk]
        clear hk
        go_wp2_with fail
        go_roundg i
        case measure => omega
        case rel => exact ⟨i, by omega, rfl, by go_num, HG2, rfl⟩

end Go.Proofs.YtdllhkjdckcgmaaDoor
