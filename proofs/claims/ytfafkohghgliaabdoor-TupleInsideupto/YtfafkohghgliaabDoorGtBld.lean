import Derived.Test.YtfafkohghgliaabDoorRBuild
import Derived.Lib.AppendStr
/- A text more in a builder. -/
namespace Go.Proofs.YtfafkohghgliaabDoor.Rt
open Go.RowKit Go.Sort
set_option linter.unusedVariables false

/-- what another block holds stays, but a row of bytes -/
def Oth (w w' : World) (b : Nat) : Prop := ∀ k cs T fr, k ≠ b → T ≠ 5 → w.heap[k]? = some (.cells cs T fr) → w'.heap[k]? = some (.cells cs T fr)
theorem Oth.later {w w' : World} {b k : Nat} {cs : Array Value} {T : TypeId} {fr : Nat × Nat} (h : Oth w w' b) (hk : w.heap[k]? = some (.cells cs T fr)) (h1 : k ≠ b) (h2 : T ≠ 5) : w'.heap[k]? = some (.cells cs T fr) := h k cs T fr h1 h2 hk
theorem check_oth {B b : Nat} {bs : List Value} {w : World} (h : Lib.IsBuilder BT 5 B b bs w) :
    Calls Tryd.prog 76 #[.pointer (some ⟨b, 0, none⟩)] w fun e w' => e = .returned (.tuple #[]) ∧ Lib.BuilderAt BT 5 B b (.pointer (some ⟨b, 0, none⟩)) bs w' ∧ Below B w w' ∧ ∀ k, k ≠ b → w'.heap[k]? = w.heap[k]? := by
  rcases h with h | h
  · refine (check_new h.cell0 h.shape h.frozen0).mono ?_
    rintro e w' ⟨rfl, rfl⟩
    exact ⟨rfl, h.used _, (Below.refl B w).setCell (p := ⟨b, 0, none⟩) h.1 _, fun k hk => Below.heap_setCell _ _ _ _ hk⟩
  · refine (check_used h.cell0).mono ?_
    rintro e w' ⟨rfl, rfl⟩
    exact ⟨rfl, h, Below.refl B _, fun _ _ => rfl⟩

set_option maxHeartbeats 2000000 in
set_option maxRecDepth 100000 in
theorem wstr_is {B b : Nat} {bs : List Value} {s : ByteArray} {w : World} (h : Lib.IsBuilder BT 5 B b bs w) (hl : bs.length + s.size ≤ 140737488355328) (hB : B ≤ w.heap.size) :
    Calls Tryd.prog 53 #[.pointer (some ⟨b, 0, none⟩), .string s] w fun e w' => e = .returned (.tuple #[.int .i64 s.size, .nilIface]) ∧ Lib.IsBuilder BT 5 B b (bs ++ Lib.strCells s) w' ∧ Below B w w' ∧ Oth w w' b := by
  obtain ⟨i0, hi, hz0, hz1, hz2⟩ := info_parts infoU8
  go_enter Tryd.func53, Tryd.ntmps53
  go_wp2_with fail
  refine (check_oth h).mono ?_
  rintro e w1 ⟨rfl, ⟨hb0, v, hbk, hown, hne⟩, hb1, hoth⟩
  have HOT := hid hoth
  clear hoth
  have c0 : w1.cell? ⟨b, 0, none⟩ = some (.pointer (some ⟨b, 0, none⟩)) := by rw [Lib.cell_of_heap hbk]; rfl
  have c1 : w1.cell? ⟨b, 1, none⟩ = some v := by rw [Lib.cell_of_heap hbk]; rfl
  go_wp2_with (at_builtin; refine Lib.wpList_append_own_string _ rfl _ _ 50 9 rfl B 5 i0 Tryd.underlying50 Tryd.underlying9 hi hz0 hz1 hz2 _ _ _ rfl hown s rfl ?c3 ?c4 ?c5 ?_)
  case c3 => unfold maxLen; omega
  case c4 => omega
  case c5 => have := hb1.size; omega
  intro v' w2 hown' hgrow _
  have hlt : b < w1.heap.size := by
    rcases Nat.lt_or_ge b w1.heap.size with h' | h'
    · exact h'
    · simp [Array.getElem?_eq_none h'] at hbk
  have hb2 : w2.heap[b]? = some (.cells #[.pointer (some ⟨b, 0, none⟩), v] BT (0, 0)) := by
    rw [hgrow.block b hlt (fun e => hne e.symm)]
    exact hbk
  have d0 : w2.cell? ⟨b, 0, none⟩ = some (.pointer (some ⟨b, 0, none⟩)) := by rw [Lib.cell_of_heap hb2]; rfl
  have d1 : w2.cell? ⟨b, 1, none⟩ = some v := by rw [Lib.cell_of_heap hb2]; rfl
  have f1 : w2.frozen? ⟨b, 1, none⟩ = false := Lib.frozen_of_heap hb2 1
  obtain ⟨ao, n', cap, rfl⟩ : ∃ ao n' cap, v' = .slice ao n' cap := by
    rcases hown'.2 with ⟨hv, _⟩ | ⟨g, cap, cur, hv, _⟩
    · exact ⟨_, _, _, hv⟩
    · exact ⟨_, _, _, hv⟩
  go_wp2
  go_ret2
  refine ⟨rfl, .inr ?_, ?_, ?_⟩
  · exact Lib.BuilderAt.put hb0 hb2 (bs' := bs ++ Lib.strCells s) (by simpa [Lib.strCells_length] using hown') (by decide)
  · exact (hb1.grown hgrow (by have := hb1.size; omega) (fun k hk => (hown.lt k hk).1)).setCell (p := ⟨b, 1, none⟩) hb0 _
  · intro k cs T fr hk hT hc
    have h1 : w1.heap[k]? = some (.cells cs T fr) := by rw [HOT.out k hk]; exact hc
    have hl : k < w1.heap.size := by
      rcases Nat.lt_or_ge k w1.heap.size with h' | h'
      · exact h'
      · simp [Array.getElem?_eq_none h'] at h1
    rw [Below.heap_setCell _ _ _ _ hk, hgrow.block k hl (fun e => Lib.ownBlock_ne hown h1 hT e.symm)]
    exact h1

theorem cells_str (l : List Nat) : Lib.strCells (ofNats l) = Lib.byteCells (l.map UInt8.ofNat) := by
  simp [Lib.strCells, ofNats, Lib.byteCells]
/-- a text more -/
theorem adds_is {w0 w : World} {b : Nat} {l m : List Nat} (h : Bld w0 w b l) (hl : l.length + m.length ≤ 140737488355328) :
    Calls Tryd.prog 53 #[.pointer (some ⟨b, 0, none⟩), .string (ofNats m)] w fun e w' => e = .returned (.tuple #[.int .i64 m.length, .nilIface]) ∧ Bld w0 w' b (l ++ m) ∧ Oth w w' b := by
  have hs : (ofNats m).size = m.length := ofNats_size m
  refine (wstr_is h.is (s := ofNats m) (by rw [hs]; simpa [Lib.byteCells] using hl) h.bl.size).mono ?_
  rintro e w' ⟨rfl, h1, h2, h3⟩
  refine ⟨by rw [hs], ⟨?_, h.bl.trans h2⟩, h3⟩
  rw [cells_str] at h1
  have : Lib.byteCells ((l ++ m).map UInt8.ofNat) = Lib.byteCells (l.map UInt8.ofNat) ++ Lib.byteCells (m.map UInt8.ofNat) := by
    simp [Lib.byteCells]
  rw [this]
  exact h1

theorem Bld.on {w0 w w' : World} {b : Nat} {l : List Nat} (h : Bld w0 w b l) (hb : Below w.heap.size w w') : Bld w0 w' b l := by
  have up : ∀ p, Lib.BuilderAt BT 5 w0.heap.size b p (Lib.byteCells (l.map UInt8.ofNat)) w → Lib.BuilderAt BT 5 w0.heap.size b p (Lib.byteCells (l.map UInt8.ofNat)) w' := by
    rintro p ⟨h0, v, hbk, hown, hne⟩
    have hlt : b < w.heap.size := by
      rcases Nat.lt_or_ge b w.heap.size with h' | h'
      · exact h'
      · simp [Array.getElem?_eq_none h'] at hbk
    refine ⟨h0, v, by rw [hb.block b hlt]; exact hbk, ?_, hne⟩
    cases hv : v.ownBlock with
    | none => exact hown.kept (row := none) ⟨hb.os, hb.tape, hb.output, hb.size, fun k hk _ => hb.block k hk⟩ (.inl hv)
    | some g => exact hown.kept (row := none) ⟨hb.os, hb.tape, hb.output, hb.size, fun k hk _ => hb.block k hk⟩ (.inr (by rw [hv]; simp))
  refine ⟨?_, h.bl.trans (hb.mono h.bl.size)⟩
  rcases h.is with h1 | h1
  · exact .inl (up _ h1)
  · exact .inr (up _ h1)
theorem Bld.lt {w0 w : World} {b : Nat} {l : List Nat} (h : Bld w0 w b l) : b < w.heap.size := by
  rcases h.is with ⟨_, v, hbk, _⟩ | ⟨_, v, hbk, _⟩ <;>
  · rcases Nat.lt_or_ge b w.heap.size with h' | h'
    · exact h'
    · simp [Array.getElem?_eq_none h'] at hbk

end Go.Proofs.YtfafkohghgliaabDoor.Rt
