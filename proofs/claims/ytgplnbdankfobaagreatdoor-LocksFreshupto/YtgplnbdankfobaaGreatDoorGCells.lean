import Derived.Test.YtgplnbdankfobaaGreatDoorGRows
import Derived.Test.YtgplnbdankfobaaGreatDoorDOnl
import Derived.Laws.MakeOwn
/- Lists of spans and writes in blocks of their own. -/
namespace Go.Proofs.YtgplnbdankfobaaGreatDoor
open Go.RowKit Go.Sort
set_option linter.unusedVariables false

/-- n spans in block g -/
def Cells2 (w : World) (g : Nat) (f : Nat → T2) (n : Nat) : Prop := ∀ i, i < n → w.cell? ⟨g, i * 2, none⟩ = some (.string (f i).1) ∧ w.cell? ⟨g, i * 2 + 1, none⟩ = some (.string (f i).2)
/-- n writes in block g -/
def CellsW (w : World) (g : Nat) (f : Nat → Wr) (n : Nat) : Prop := ∀ i, i < n → w.cell? ⟨g, i * 3, none⟩ = some (.string (f i).key) ∧ w.cell? ⟨g, i * 3 + 1, none⟩ = some (.bool (f i).del) ∧ w.cell? ⟨g, i * 3 + 2, none⟩ = some (.string (f i).val)
theorem Cells2.later {w w' : World} {g n : Nat} {f : Nat → T2} (h : Cells2 w g f n) (hb : Below w.heap.size w w') : Cells2 w' g f n := fun i hi => ⟨cell_later hb (h i hi).1, cell_later hb (h i hi).2⟩
theorem CellsW.later {w w' : World} {g n : Nat} {f : Nat → Wr} (h : CellsW w g f n) (hb : Below w.heap.size w w') : CellsW w' g f n := fun i hi => ⟨cell_later hb (h i hi).1, cell_later hb (h i hi).2.1, cell_later hb (h i hi).2.2⟩
theorem Cells2.onl {w w' : World} {G : Nat → Prop} {g n : Nat} {f : Nat → T2} (h : Cells2 w g f n) (ho : Onl G w w') (hg : ¬ G g) : Cells2 w' g f n := fun i hi => ⟨ho.cell hg (h i hi).1, ho.cell hg (h i hi).2⟩
theorem CellsW.onl {w w' : World} {G : Nat → Prop} {g n : Nat} {f : Nat → Wr} (h : CellsW w g f n) (ho : Onl G w w') (hg : ¬ G g) : CellsW w' g f n := fun i hi => ⟨ho.cell hg (h i hi).1, ho.cell hg (h i hi).2.1, ho.cell hg (h i hi).2.2⟩
def put {α : Type} (f : Nat → α) (k : Nat) (y : α) : Nat → α := fun i => if i = k then y else f i
theorem put_same {α : Type} (f : Nat → α) (k : Nat) (y : α) : put f k y k = y := by simp [put]
theorem put_other {α : Type} (f : Nat → α) {k i : Nat} (y : α) (h : i ≠ k) : put f k y i = f i := by simp [put, h]
abbrev set2 (w : World) (g k : Nat) (y : T2) : World := (w.setCell ⟨g, k * 2, none⟩ (.string y.1)).setCell ⟨g, k * 2 + 1, none⟩ (.string y.2)
abbrev setW (w : World) (g k : Nat) (y : Wr) : World := ((w.setCell ⟨g, k * 3, none⟩ (.string y.key)).setCell ⟨g, k * 3 + 1, none⟩ (.bool y.del)).setCell ⟨g, k * 3 + 2, none⟩ (.string y.val)
theorem Cells2.put {w : World} {g n k : Nat} {f : Nat → T2} (h : Cells2 w g f n) (hk : k < n) (y : T2) : Cells2 (set2 w g k y) g (put f k y) n := by
  intro i hi
  by_cases e : i = k
  · subst e
    rw [put_same]
    refine ⟨cell_setc (by simp) (World.cell?_setCell_same _ _ _ (h i hi).1), World.cell?_setCell_same _ _ _ (cell_setc (by simp) (h i hi).2)⟩
  · rw [put_other _ _ e]
    exact ⟨cell_setc (by simp only [ne_eq, Addr.mk.injEq]; omega) (cell_setc (by simp only [ne_eq, Addr.mk.injEq]; omega) (h i hi).1), cell_setc (by simp only [ne_eq, Addr.mk.injEq]; omega) (cell_setc (by simp only [ne_eq, Addr.mk.injEq]; omega) (h i hi).2)⟩
theorem CellsW.put {w : World} {g n k : Nat} {f : Nat → Wr} (h : CellsW w g f n) (hk : k < n) (y : Wr) : CellsW (setW w g k y) g (put f k y) n := by
  intro i hi
  by_cases e : i = k
  · subst e
    rw [put_same]
    refine ⟨cell_setc (by simp) (cell_setc (by simp) (World.cell?_setCell_same _ _ _ (h i hi).1)), cell_setc (by simp) (World.cell?_setCell_same _ _ _ (cell_setc (by simp) (h i hi).2.1)), World.cell?_setCell_same _ _ _ (cell_setc (by simp) (cell_setc (by simp) (h i hi).2.2))⟩
  · rw [put_other _ _ e]
    exact ⟨cell_setc (by simp only [ne_eq, Addr.mk.injEq]; omega) (cell_setc (by simp only [ne_eq, Addr.mk.injEq]; omega) (cell_setc (by simp only [ne_eq, Addr.mk.injEq]; omega) (h i hi).1)), cell_setc (by simp only [ne_eq, Addr.mk.injEq]; omega) (cell_setc (by simp only [ne_eq, Addr.mk.injEq]; omega) (cell_setc (by simp only [ne_eq, Addr.mk.injEq]; omega) (h i hi).2.1)), cell_setc (by simp only [ne_eq, Addr.mk.injEq]; omega) (cell_setc (by simp only [ne_eq, Addr.mk.injEq]; omega) (cell_setc (by simp only [ne_eq, Addr.mk.injEq]; omega) (h i hi).2.2))⟩
theorem onl_set2 (w : World) (g k : Nat) (y : T2) : Onl (fun b => b = g) w (set2 w g k y) := ((Onl.refl (fun b => b = g) w).set (p := g) rfl _ _).set (p := g) rfl _ _
theorem onl_setW (w : World) (g k : Nat) (y : Wr) : Onl (fun b => b = g) w (setW w g k y) := (((Onl.refl (fun b => b = g) w).set (p := g) rfl _ _).set (p := g) rfl _ _).set (p := g) rfl _ _

theorem Tryz.infoSp : (Tryz.prog.info? 34).map (fun i => (i.zero, i.size, i.bytes)) = some (some (.agg #[.string ⟨#[]⟩, .string ⟨#[]⟩]), 2, 32) := by kernel_rfl
theorem Tryz.infoWr : (Tryz.prog.info? 64).map (fun i => (i.zero, i.size, i.bytes)) = some (some (.agg #[.string ⟨#[]⟩, .bool false, .string ⟨#[]⟩]), 3, 40) := by kernel_rfl
theorem info_of {P : Program} {t : TypeId} {z : Value} {n m : Nat} (h : (P.info? t).map (fun i => (i.zero, i.size, i.bytes)) = some (some z, n, m)) : ∃ i, P.info? t = some i ∧ i.zero = some z ∧ i.size = n ∧ i.bytes = m := by
  obtain ⟨i, hi, he⟩ := Option.map_eq_some_iff.1 h
  simp only [Prod.mk.injEq] at he
  exact ⟨i, hi, he.1, he.2.1, he.2.2⟩
theorem make_sp (w : World) (n : Nat) (h : n ≤ 8796093022208) : (Instr.makeSlice 29 (.int .i64 (n : Int)) (.int .i64 (n : Int))).run Tryz.prog w = .ok (.slice (some ⟨w.heap.size, 0, none⟩) n n) (w.alloc (.cells (madeCells (Value.agg #[.string ⟨#[]⟩, .string ⟨#[]⟩]).cells (n * 2)) 34)) := by
  obtain ⟨i0, hi, hz0, hz1, hz2⟩ := info_of Tryz.infoSp
  have := run_make (P := Tryz.prog) w 29 34 i0 _ Tryz.underlying29 hi hz0 .i64 .i64 n n (by omega) (by omega) (by rw [hz2]; omega) (by omega)
  rw [this, hz1]
  simp
theorem make_wr (w : World) (n : Nat) (h : n ≤ 7036874417766) : (Instr.makeSlice 30 (.int .i64 (n : Int)) (.int .i64 (n : Int))).run Tryz.prog w = .ok (.slice (some ⟨w.heap.size, 0, none⟩) n n) (w.alloc (.cells (madeCells (Value.agg #[.string ⟨#[]⟩, .bool false, .string ⟨#[]⟩]).cells (n * 3)) 64)) := by
  obtain ⟨i0, hi, hz0, hz1, hz2⟩ := info_of Tryz.infoWr
  have := run_make (P := Tryz.prog) w 30 64 i0 _ Tryz.underlying30 hi hz0 .i64 .i64 n n (by omega) (by omega) (by rw [hz2]; omega) (by omega)
  rw [this, hz1]
  simp
theorem made2 (w : World) (n : Nat) : Cells2 (w.alloc (.cells (madeCells (Value.agg #[.string ⟨#[]⟩, .string ⟨#[]⟩]).cells (n * 2)) 34)) w.heap.size (fun _ => (⟨#[]⟩, ⟨#[]⟩)) n := by
  intro i hi
  have h1 : i * 2 < n * 2 := by omega
  have h2 : i * 2 + 1 < n * 2 := by omega
  constructor
  · simp [go_sem, madeCells, h1]
  · simp [go_sem, madeCells, h2, Nat.add_mod]
theorem madeW (w : World) (n : Nat) : CellsW (w.alloc (.cells (madeCells (Value.agg #[.string ⟨#[]⟩, .bool false, .string ⟨#[]⟩]).cells (n * 3)) 64)) w.heap.size (fun _ => ⟨⟨#[]⟩, false, ⟨#[]⟩⟩) n := by
  intro i hi
  have h1 : i * 3 < n * 3 := by omega
  have h2 : i * 3 + 1 < n * 3 := by omega
  have h3 : i * 3 + 2 < n * 3 := by omega
  refine ⟨?_, ?_, ?_⟩
  · simp [go_sem, madeCells, h1]
  · simp [go_sem, madeCells, h2, Nat.add_mod]
  · simp [go_sem, madeCells, h3, Nat.add_mod]

end Go.Proofs.YtgplnbdankfobaaGreatDoor
namespace Go.Proofs.YtgplnbdankfobaaGreatDoor.Lk
open Go.RowKit Go.Sort
theorem own_le {w : World} {B n size : Nat} {e : TypeId} {v : Value} {xs : List Value} (h : w.ownsRow B e size v n xs) : n ≤ 9223372036854775807 := by
  obtain ⟨_, ⟨_, e1⟩ | ⟨g, cap, cur, e1, _, _, h1, h2, _⟩⟩ := h
  · omega
  · simp only [maxLen] at h2; omega
theorem own_type {w : World} {B n size : Nat} {e : TypeId} {v : Value} {xs : List Value} (h : w.ownsRow B e size v n xs) {g : Nat} (hg : v.ownBlock = some g) : ∃ cur, w.heap[g]? = some (.cells cur e (0, 0)) := by
  obtain ⟨_, ⟨e1, _⟩ | ⟨g', cap, cur, e1, _, hh, _⟩⟩ := h
  · subst e1; simp [Value.ownBlock] at hg
  · subst e1; simp [Value.ownBlock] at hg; subst hg; exact ⟨cur, hh⟩
end Go.Proofs.YtgplnbdankfobaaGreatDoor.Lk
