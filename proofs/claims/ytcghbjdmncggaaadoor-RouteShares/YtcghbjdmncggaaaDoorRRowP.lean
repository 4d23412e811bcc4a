import Derived.Test.YtcghbjdmncggaaaDoorRAsk
import Derived.Laws.OwnMore
/- Parts that were handed out, read. -/
namespace Go.Proofs.YtcghbjdmncggaaaDoor.Rt
open Go.RowKit Go.Sort
set_option linter.unusedVariables false

def nthP (l : List Pt) (i : Nat) : Pt := l[i]?.getD (0, mt, mt)
/-- a row of parts -/
def RowP (w : World) (a : Option Addr) (l : List Pt) : Prop := ∀ i, i < l.length → ∃ b off, a = some ⟨b, off, none⟩ ∧ w.cell? ⟨b, off + i * 3, none⟩ = some (.int .u32 ((nthP l i).1 : Int)) ∧ w.cell? ⟨b, off + i * 3 + 1, none⟩ = some (.string (nthP l i).2.1) ∧ w.cell? ⟨b, off + i * 3 + 2, none⟩ = some (.string (nthP l i).2.2)
theorem RowP.later {w w' : World} {a : Option Addr} {l : List Pt} (h : RowP w a l) (hb : Below w.heap.size w w') : RowP w' a l := fun i hi => by
  obtain ⟨b, off, e, h0, h1, h2⟩ := h i hi
  exact ⟨b, off, e, cell_later hb h0, cell_later hb h1, cell_later hb h2⟩
theorem flatP_get : ∀ (l : List Pt) (i o : Nat), i < l.length → o < 3 → (flatP l)[i * 3 + o]? = (cellsP (nthP l i))[o]?
  | [], i, o, h, _ => by simp at h
  | v :: vs, i, o, h, ho => by
    show (cellsP v ++ flatP vs)[i * 3 + o]? = _
    cases i with
    | zero => rw [List.getElem?_append_left (by simp [cellsP]; omega)]; simp [nthP]
    | succ i =>
      have e : (i + 1) * 3 + o - (cellsP v).length = i * 3 + o := by simp [cellsP]; omega
      rw [List.getElem?_append_right (by simp [cellsP]; omega), e, flatP_get vs i o (by simpa using h) ho]
      simp [nthP]
theorem OwnP.row {w : World} {B : Nat} {v : Value} {l : List Pt} (h : OwnP w B v l) : ∃ a c, v = .slice a l.length c ∧ RowP w a l := by
  rcases Nat.eq_zero_or_pos l.length with h0 | h0
  · obtain ⟨a, c, e⟩ := ownP_slice h
    exact ⟨a, c, e, fun i hi => by omega⟩
  · rcases h.2 with ⟨hv, h1⟩ | ⟨g, cap, cur, hv, _⟩
    · omega
    · subst hv
      refine ⟨_, _, rfl, fun i hi => ⟨g, 0, rfl, ?_, ?_, ?_⟩⟩
      · rw [Nat.zero_add]
        have := World.ownsRow.cellAt h (i * 3) (by omega)
        rw [this]; exact flatP_get l i 0 hi (by omega)
      · rw [Nat.zero_add]
        have := World.ownsRow.cellAt h (i * 3 + 1) (by omega)
        rw [this]; exact flatP_get l i 1 hi (by omega)
      · rw [Nat.zero_add]
        have := World.ownsRow.cellAt h (i * 3 + 2) (by omega)
        rw [this]; exact flatP_get l i 2 hi (by omega)
theorem Cutr_is {c : Cf} {w : World} (h : c.Ok w) (hv : c.okB = true) (s : T2) :
    Calls Tryd.prog 8 #[c.val, spv s] w fun e w' => ∃ a cp, e = .returned (.slice a (cutL c.ss s).length cp) ∧ RowP w' a (cutL c.ss s) ∧ Below w.heap.size w w' := by
  refine (Cut_is h s).mono ?_
  rintro e w' ⟨v, rfl, ho, hb⟩
  rw [Cf.cutA, if_pos hv] at ho
  obtain ⟨a, cp, rfl, hr⟩ := ho.row
  exact ⟨a, cp, rfl, hr, hb⟩
theorem Cutn_is {c : Cf} {w : World} (h : c.Ok w) (hv : c.okB = false) (s : T2) :
    Calls Tryd.prog 8 #[c.val, spv s] w fun e w' => ∃ a cp, e = .returned (.slice a 0 cp) ∧ Below w.heap.size w w' := by
  refine (Cut_is h s).mono ?_
  rintro e w' ⟨v, rfl, ho, hb⟩
  rw [Cf.cutA, hv] at ho
  obtain ⟨a, cp, rfl⟩ := ownP_slice ho
  exact ⟨a, cp, rfl, hb⟩
theorem nthP_mem {l : List Pt} {i : Nat} (h : i < l.length) : nthP l i ∈ l := by simp [nthP, h]
theorem cutL_rise {ss : List ByteArray} {s : T2} {i : Nat} (h : i + 1 < (cutL ss s).length) : (nthP (cutL ss s) i).1 < (nthP (cutL ss s) (i + 1)).1 := by
  have hp : (cutL ss s).Pairwise fun a b => a.1 < b.1 := cut_rise ss s (ss.length + 1)
  have := List.pairwise_iff_getElem.1 hp i (i + 1) (show i < (cutL ss s).length by omega) h (by omega)
  simpa [nthP, h, show i < (cutL ss s).length by omega] using this
theorem cutL_at {ss : List ByteArray} {s : T2} {i : Nat} (h : i < (cutL ss s).length) : (nthP (cutL ss s) i).1 ≤ ss.length ∧ void (nthP (cutL ss s) i).2 = false := by
  have hm : nthP (cutL ss s) i ∈ cutN ss s (ss.length + 1) := nthP_mem h
  obtain ⟨h1, h2⟩ := cut_mem hm
  exact ⟨by omega, comm_void h2⟩
theorem cntP_take {k : ByteArray} {l : List Pt} {j : Nat} (h : j < l.length) : cntP k (l.take (j + 1)) = cntP k (l.take j) + if insB k (nthP l j).2 then 1 else 0 := by
  rw [List.take_succ_eq_append_getElem h, cntP_snoc]
  simp [nthP, h]
theorem cntP_le (k : ByteArray) (l : List Pt) : cntP k l ≤ l.length := List.length_filter_le _ _
theorem cutL_len (ss : List ByteArray) (s : T2) : (cutL ss s).length ≤ ss.length + 1 := cut_len _ _ _

end Go.Proofs.YtcghbjdmncggaaaDoor.Rt
