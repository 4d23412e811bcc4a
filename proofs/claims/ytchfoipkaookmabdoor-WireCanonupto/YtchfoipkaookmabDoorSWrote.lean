import Derived.Test.YtchfoipkaookmabDoorBase0
import Derived.Test.YtchfoipkaookmabDoorBytes
namespace Go.Proofs.YtchfoipkaookmabDoor
open Go.RowKit Go.Sort

/-- the world w' is w, but that the bytes xs stand in block b from off on -/
structure Wrote (w w' : World) (b off : Nat) (xs : List Int) : Prop where
  os : w'.os = w.os
  tape : w'.tape = w.tape
  output : w'.output = w.output
  size : w'.heap.size = w.heap.size
  block : ∀ k, k ≠ b → w'.heap[k]? = w.heap[k]?
  ins : ∀ i, i < xs.length → w'.cell? ⟨b, off + i, none⟩ = some (.int .u8 (xs.getD i 0))
  out : ∀ o, (o < off ∨ off + xs.length ≤ o) → w'.cell? ⟨b, o, none⟩ = w.cell? ⟨b, o, none⟩
  frz : ∀ o, w'.frozen? ⟨b, o, none⟩ = w.frozen? ⟨b, o, none⟩

theorem Wrote.refl (w : World) (b off : Nat) : Wrote w w b off [] :=
  ⟨rfl, rfl, rfl, rfl, fun _ _ => rfl, fun i h => by simp at h, fun _ _ => rfl, fun _ => rfl⟩

theorem Wrote.cons {w w' : World} {b off : Nat} {xs : List Int} (h : Wrote w w' b (off + 1) xs) (x : Int) {u : Value} (hc : w.cell? ⟨b, off, none⟩ = some u) :
    Wrote w (w'.setCell ⟨b, off, none⟩ (.int .u8 x)) b off (x :: xs) := by
  have hc' : w'.cell? ⟨b, off, none⟩ = some u := (h.out off (.inl (by omega))).trans hc
  refine ⟨h.os, h.tape, h.output, by simpa [World.setCell] using h.size, fun k hk => ?_, fun i hi => ?_, fun o ho => ?_, fun o => ?_⟩
  · rw [Below.heap_setCell _ _ _ _ hk]; exact h.block k hk
  · cases i with
    | zero => exact World.cell?_setCell_same _ _ _ hc'
    | succ i =>
      rw [World.cell?_setCell_other _ _ _ _ (fun e => by have := congrArg Addr.off e; dsimp only at this; omega)]
      have := h.ins i (by simpa using hi)
      rw [Nat.add_right_comm, Nat.add_assoc] at this
      simpa using this
  · rw [World.cell?_setCell_other _ _ _ _ (fun e => by have := congrArg Addr.off e; dsimp only at this; simp only [List.length_cons] at ho; omega)]
    exact h.out o (by simp only [List.length_cons] at ho; omega)
  · rw [World.frozen?_setCell]; exact h.frz o

theorem Wrote.below {w w' : World} {b off : Nat} {xs : List Int} (h : Wrote w w' b off xs) {B : Nat} (hB : B ≤ b) : Below B w w' :=
  ⟨h.os, h.tape, h.output, by rw [h.size]; exact Nat.le_refl _, fun k hk => h.block k (by omega)⟩

theorem Wrote.cell {w w' : World} {b off : Nat} {xs : List Int} (h : Wrote w w' b off xs) {p o : Nat} (hp : p ≠ b) : w'.cell? ⟨p, o, none⟩ = w.cell? ⟨p, o, none⟩ :=
  World.cell?_of_block (w := w) (h.block p hp)

end Go.Proofs.YtchfoipkaookmabDoor
