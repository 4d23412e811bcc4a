import Derived.Test.YtfkiccdjffhhhaaGreatDoorRMay
import Derived.Laws.MakeOwn
import Derived.Laws.CopyOwn
/- Rows of texts that are made anew. -/
namespace Go.Proofs.YtfkiccdjffhhhaaGreatDoor.Rt
open Go.RowKit Go.Sort
set_option linter.unusedVariables false

theorem info_ofR {P : Program} {t : TypeId} {z : Value} {n m : Nat} (h : (P.info? t).map (fun i => (i.zero, i.size, i.bytes)) = some (some z, n, m)) : ∃ i, P.info? t = some i ∧ i.zero = some z ∧ i.size = n ∧ i.bytes = m := by
  obtain ⟨i, hi, he⟩ := Option.map_eq_some_iff.1 h
  simp only [Prod.mk.injEq] at he
  exact ⟨i, hi, he.1, he.2.1, he.2.2⟩
theorem infoTx : (Tryz.prog.info? 9).map (fun i => (i.zero, i.size, i.bytes)) = some (some (.string ⟨#[]⟩), 1, 16) := by kernel_rfl
def flatS (ss : List ByteArray) : List Value := ss.map .string
theorem make_tx (w : World) (n : Nat) (h : n ≤ 17592186044416) : (Instr.makeSlice 22 (.int .i64 (n : Int)) (.int .i64 (n : Int))).run Tryz.prog w = .ok (.slice (some ⟨w.heap.size, 0, none⟩) n n) (w.alloc (.cells (madeCells (Value.string ⟨#[]⟩).cells n) 9)) := by
  obtain ⟨i0, hi, hz0, hz1, hz2⟩ := info_ofR infoTx
  have := run_make (P := Tryz.prog) w 22 9 i0 _ Tryz.underlying22 hi hz0 .i64 .i64 n n (by omega) (by omega) (by rw [hz2]; omega) (by omega)
  rw [this, hz1]
  simp
/-- n texts in block g -/
def CellsS (w : World) (g : Nat) (f : Nat → ByteArray) (n : Nat) : Prop := ∀ i, i < n → w.cell? ⟨g, i, none⟩ = some (.string (f i))
theorem CellsS.later {w w' : World} {g n : Nat} {f : Nat → ByteArray} (h : CellsS w g f n) (hb : Below w.heap.size w w') : CellsS w' g f n := fun i hi => cell_later hb (h i hi)
theorem madeS (w : World) (n : Nat) : CellsS (w.alloc (.cells (madeCells (Value.string ⟨#[]⟩).cells n) 9)) w.heap.size (fun _ => mt) n := by
  intro i hi
  simp [go_sem, madeCells, hi, Nat.mod_one]
def putS (f : Nat → ByteArray) (k : Nat) (y : ByteArray) : Nat → ByteArray := fun i => if i = k then y else f i
theorem CellsS.put {w : World} {g n k : Nat} {f : Nat → ByteArray} (h : CellsS w g f n) (hk : k < n) (y : ByteArray) : CellsS (w.setCell ⟨g, k, none⟩ (.string y)) g (putS f k y) n := by
  intro i hi
  by_cases e : i = k
  · subst e
    simp only [putS, if_true]
    exact World.cell?_setCell_same _ _ _ (h i hi)
  · simp only [putS, e, if_false]
    exact cell_setc (by simp only [ne_eq, Addr.mk.injEq]; omega) (h i hi)
theorem rowS_cells {w : World} {a : Option Addr} {ss : List ByteArray} (h : RowS w a ss) (h0 : 0 < ss.length) : ∃ b off, a = some ⟨b, off, none⟩ ∧ ∀ j v, (flatS ss)[j]? = some v → w.cell? ((⟨b, off, none⟩ : Addr).add j) = some v := by
  obtain ⟨b, off, rfl, _⟩ := h 0 h0
  refine ⟨b, off, rfl, fun j v hj => ?_⟩
  have hj' : j < ss.length := by have := (List.getElem?_eq_some_iff.1 hj).1; simpa [flatS] using this
  obtain ⟨b', off', e', c0⟩ := h j hj'
  injection e' with e'; injection e' with e1 e2
  subst e1 e2
  have hadd : (⟨b, off, none⟩ : Addr).add j = ⟨b, off + j, none⟩ := by
    unfold Addr.add
    split
    · rename_i h0; rw [h0, Nat.add_zero]
    · rfl
  rw [hadd, c0]
  simp [flatS, hj'] at hj
  simp [nthS, hj', ← hj]

end Go.Proofs.YtfkiccdjffhhhaaGreatDoor.Rt
