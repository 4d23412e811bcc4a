import Derived.Test.YtfafkohghgliaabDoorTuOwn
/- A span in its box. -/
namespace Go.Proofs.YtfafkohghgliaabDoor.Tu
open Go.RowKit Go.Sort Go.Proofs.YtfafkohghgliaabDoor
set_option linter.unusedVariables false
set_option linter.unusedSectionVars false
variable [DecidableEq Vl]

/-- a span in its box -/
structure Bx (w : World) (p : Nat) (s z : ByteArray) : Prop where
  c0 : w.cell? ⟨p, 0, none⟩ = some (.string s)
  c1 : w.cell? ⟨p, 1, none⟩ = some (.string z)
  lo : Loose w p
  lt : p < w.heap.size
theorem Bx.later {w w' : World} {p : Nat} {s z : ByteArray} (h : Bx w p s z) (hb : Below w.heap.size w w') : Bx w' p s z := ⟨cell_later hb h.c0, cell_later hb h.c1, h.lo.later hb h.lt, Nat.lt_of_lt_of_le h.lt hb.size⟩
theorem Bx.onl {w w' : World} {F : Nat → Prop} {p : Nat} {s z : ByteArray} (h : Bx w p s z) (ho : Onl F w w') (hp : ¬ F p) : Bx w' p s z := ⟨ho.cell hp h.c0, ho.cell hp h.c1, ho.loose hp h.lt h.lo, Nat.lt_of_lt_of_le h.lt ho.size⟩
theorem Bx.new (w : World) (s z : ByteArray) (T : TypeId) : Bx (w.alloc (.cells #[.string s, .string z] T)) w.heap.size s z := by
  have h := World.alloc_heap_new w (.cells #[.string s, .string z] T)
  exact ⟨by simp only [World.cell?, h]; rfl, by simp only [World.cell?, h]; rfl, fun o => by simp [go_sem], by simp⟩
theorem Bx.put {w : World} {p : Nat} {s z : ByteArray} (h : Bx w p s z) (s' z' : ByteArray) : Bx ((w.setCell ⟨p, 0, none⟩ (.string s')).setCell ⟨p, 1, none⟩ (.string z')) p s' z' :=
  ⟨cell_setc (by simp) (World.cell?_setCell_same _ _ _ h.c0), World.cell?_setCell_same _ _ _ (cell_setc (by simp) h.c1), (h.lo.setc _ _).setc _ _, by simpa using h.lt⟩
theorem Bx.other {w : World} {p q : Nat} {s z : ByteArray} (h : Bx w p s z) (hne : p ≠ q) (s' z' : ByteArray) : Bx ((w.setCell ⟨q, 0, none⟩ (.string s')).setCell ⟨q, 1, none⟩ (.string z')) p s z :=
  ⟨cell_setc (fun e => hne (by injection e)) (cell_setc (fun e => hne (by injection e)) h.c0), cell_setc (fun e => hne (by injection e)) (cell_setc (fun e => hne (by injection e)) h.c1), (h.lo.setc _ _).setc _ _, by simpa using h.lt⟩
end Go.Proofs.YtfafkohghgliaabDoor.Tu
