import Derived.Test.YtchfoipkaookmabDoorWOwn
import Derived.Laws.IdiomCopy
import Derived.Laws.MakeOwn
namespace Go.Proofs.YtchfoipkaookmabDoor
open Go.RowKit Go.Sort
set_option linter.unusedVariables false

/-- bytes as values -/
def vals (t : List Nat) : List Value := t.map fun (x : Nat) => .int .u8 x
theorem vals_length (t : List Nat) : (vals t).length = t.length := by simp [vals]

theorem text_cells {t : List Nat} (ht : B8 t) : (((ofNats t).extract 0 t.length).data.map fun (b : UInt8) => Value.int .u8 b.toNat).toList = vals t := by
  have e : (ofNats t).extract 0 t.length = ofNats t := by
    rw [ofNats_extract ht, List.take_of_length_le (Nat.le_refl _), List.drop_zero]
  rw [e]
  have h := nums_ofNats ht
  unfold nums at h
  rw [Array.toList_map]
  conv => rhs; rw [vals, ← h]
  rw [List.map_map]
  rfl

/-- copy from a text -/
theorem run_copy_text {P : Program} (w : World) (dT sT ty elem : TypeId) (b o dLen dCap : Nat) (t : List Nat) (ht : B8 t)
    (hu : P.underlying dT = some (.slice elem)) (hs : (P.info? elem).map (·.size) = some 1) (hn : t.length ≤ dLen)
    (hc : ∀ j, j < t.length → (w.cell? ⟨b, o + j, none⟩).isSome = true) (hf : ∀ j, j < t.length → w.frozen? ⟨b, o + j, none⟩ = false) :
    (Builtin.copy_ #[dT, sT] ty #[.slice (some ⟨b, o, none⟩) dLen dCap, .string (ofNats t)]).run P w = .ok (goInt t.length) (w.setCells b o (vals t)) := by
  have hst := run_storeCells_cells (P := P) b o (vals t) 0 w (by simpa [vals] using hc) (by simpa [vals] using hf) (fun v hv => by
    simp only [vals, List.mem_map] at hv
    obtain ⟨x, _, rfl⟩ := hv; rfl)
  have hx := text_cells ht
  have hm : Nat.min (ofNats t).size dLen = t.length := by rw [ofNats_size]; exact Nat.min_eq_left hn
  cases hq : P.info? elem with
  | none => simp [hq] at hs
  | some i =>
    simp [Builtin.copy_, run_underlying hu, Builtin.lenOf, Builtin.firstCells, sizeOf, typeInfo, hq, hm]
    simp at hx
    rw [hx, hst]
    rfl

theorem below_setCells {B b : Nat} {w : World} (hB : B ≤ b) : ∀ (vs : List Value) (o : Nat) (w1 : World), Below B w w1 → Below B w (w1.setCells b o vs)
  | [], _, _, h => h
  | v :: r, o, w1, h => by
    rw [World.setCells]
    exact below_setCells hB r (o + 1) _ (h.setCell hB v)

/-- a row of n bytes in a new block, filled from e on -/
structure RoomAt (w wr : World) (n e : Nat) (bs : List Nat) : Prop where
  below : Below w.heap.size w wr
  some' : ∀ i, i < n → (wr.cell? ⟨w.heap.size, i, none⟩).isSome = true
  ins : ∀ i, e ≤ i → i < n → wr.cell? ⟨w.heap.size, i, none⟩ = some (.int .u8 ((bs.getD i 0 : Nat) : Int))
  loose : Loose wr w.heap.size
  lt : w.heap.size < wr.heap.size

theorem RoomAt.fill {w wr : World} {n e : Nat} {bs t p r : List Nat} (h : RoomAt w wr n e bs) (hbs : bs = p ++ (t ++ r)) (he : e = p.length + t.length) (hn : n = bs.length) :
    RoomAt w (wr.drew.setCells w.heap.size p.length (vals t)) n p.length bs := by
  have hlen : p.length + t.length ≤ n := by rw [hn, hbs]; simp
  refine ⟨below_setCells (Nat.le_refl _) _ _ _ h.below.drew, fun i hi => ?_, fun i h1 h2 => ?_, fun o => ?_, ?_⟩
  · by_cases hx : i < p.length ∨ p.length + t.length ≤ i
    · rw [World.cell?_setCells_out _ _ _ _ _ (fun _ _ => by rw [vals_length]; exact hx)]
      exact h.some' i hi
    · have := World.cell?_setCells_in w.heap.size (vals t) p.length wr.drew (fun j hj => h.some' _ (by rw [vals_length] at hj; omega)) (i - p.length) (by rw [vals_length]; omega)
      rw [show p.length + (i - p.length) = i by omega] at this
      rw [this]; rfl
  · by_cases hx : p.length + t.length ≤ i
    · rw [World.cell?_setCells_out _ _ _ _ _ (fun _ _ => by rw [vals_length]; exact .inr hx)]
      exact h.ins i (by omega) h2
    · have := World.cell?_setCells_in w.heap.size (vals t) p.length wr.drew (fun j hj => h.some' _ (by rw [vals_length] at hj; omega)) (i - p.length) (by rw [vals_length]; omega)
      rw [show p.length + (i - p.length) = i by omega] at this
      rw [this]
      simp only [vals, List.getElem_map]
      have hg : bs.getD i 0 = t[i - p.length]'(by omega) := by
        rw [hbs, List.getD, List.getElem?_append_right h1, List.getElem?_append_left (by omega), List.getElem?_eq_getElem (by omega)]
        rfl
      rw [hg]
  · rw [World.frozen?_setCells]; exact h.loose o
  · exact Nat.lt_of_lt_of_le h.lt (below_setCells (B := 0) (Nat.zero_le _) (vals t) p.length wr.drew (Below.refl _ _).drew).size

theorem RoomAt.new (w : World) (bs : List Nat) (T : TypeId) : RoomAt w (w.alloc (.cells (madeCells (Value.int .u8 0).cells bs.length) T)) bs.length bs.length bs := by
  refine ⟨Below.al (Below.refl _ _) _, fun i hi => ?_, fun i h1 h2 => by omega, fun o => by simp [go_sem], by simp⟩
  rw [World.cell?_alloc_at _ _ _ _ (by simp)]
  simp [madeCells, hi]

theorem Tryd.infoU8 : (Tryd.prog.info? 5).map (fun i => (i.zero, i.size, i.bytes)) = some (some (.int .u8 0), 1, 1) := by kernel_rfl
theorem make_u8 (w : World) (l n : Nat) (hl : l ≤ n) (h : n ≤ 281474976710656) : (Instr.makeSlice 63 (.int .i64 (l : Int)) (.int .i64 (n : Int))).run Tryd.prog w = .ok (.slice (some ⟨w.heap.size, 0, none⟩) l n) (w.alloc (.cells (madeCells (Value.int .u8 0).cells n) 5)) := by
  obtain ⟨i0, hi, hz⟩ := Option.map_eq_some_iff.1 Tryd.infoU8
  injection hz with hz0 hz
  injection hz with hz1 hz2
  have := run_make (P := Tryd.prog) w 63 5 i0 (.int .u8 0) Tryd.underlying63 hi hz0 .i64 .i64 l n (by omega) (by omega) (by rw [hz2]; omega) (by omega)
  rw [this, hz1]
  simp
theorem Tryd.sizeU8 : (Tryd.prog.info? 5).map (·.size) = some 1 := by kernel_rfl

end Go.Proofs.YtchfoipkaookmabDoor
