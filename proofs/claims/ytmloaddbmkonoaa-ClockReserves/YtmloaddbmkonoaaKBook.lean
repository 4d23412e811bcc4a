import Derived.Test.YtmloaddbmkonoaaKLife
namespace Go.Proofs.Ytmloaddbmkonoaa
open Go.RowKit Go.Sort
set_option linter.unusedVariables false

/-- of what was there, only the blocks b and p may have changed -/
structure Only2 (b p : Nat) (w w' : World) : Prop where
  os : w'.os = w.os
  tape : w'.tape = w.tape
  output : w'.output = w.output
  size : w.heap.size ≤ w'.heap.size
  block : ∀ k, k < w.heap.size → k ≠ b → k ≠ p → w'.heap[k]? = w.heap[k]?
theorem Only2.refl (b p : Nat) (w : World) : Only2 b p w w := ⟨rfl, rfl, rfl, Nat.le_refl _, fun _ _ _ _ => rfl⟩
theorem Only2.trans {b p : Nat} {x y z : World} (h : Only2 b p x y) (k : Only2 b p y z) : Only2 b p x z :=
  ⟨k.os.trans h.os, k.tape.trans h.tape, k.output.trans h.output, Nat.le_trans h.size k.size, fun i hi hb hp => (k.block i (Nat.lt_of_lt_of_le hi h.size) hb hp).trans (h.block i hi hb hp)⟩
theorem Only2.left {b p : Nat} {w w' : World} (h : Only b w w') : Only2 b p w w' := ⟨h.os, h.tape, h.output, h.size, fun k hk hb _ => h.block k hk hb⟩
theorem Only2.right {b p : Nat} {w w' : World} (h : Only p w w') : Only2 b p w w' := ⟨h.os, h.tape, h.output, h.size, fun k hk _ hp => h.block k hk hp⟩
theorem Only2.on {b p : Nat} {x w w' : World} (h : Only2 b p x w) (k : Below w.heap.size w w') : Only2 b p x w' := h.trans (Only2.left (Only.of_below k))
theorem Only2.below {b p B : Nat} {w w' : World} (h : Only2 b p w w') (hb : B ≤ b) (hp : B ≤ p) (hB : B ≤ w.heap.size) : Below B w w' :=
  ⟨h.os, h.tape, h.output, h.size, fun k hk => h.block k (by omega) (by omega) (by omega)⟩
theorem Only2.cell {b p q o : Nat} {w w' : World} {v : Value} (h : Only2 b p w w') (hb : q ≠ b) (hp : q ≠ p) (k : w.cell? ⟨q, o, none⟩ = some v) : w'.cell? ⟨q, o, none⟩ = some v := by
  rw [← k]; exact World.cell?_of_block (a := ⟨q, o, none⟩) (h.block q (World.block_lt_of_cell? _ _ k) hb hp)
theorem BoxAt.only2 {w w' : World} {N b p : Nat} {vs : List Value} (h : BoxAt w N vs) (ho : Only2 b p w w') (hb : N ≠ b) (hp : N ≠ p) : BoxAt w' N vs := fun i v e => ho.cell hb hp (h i v e)

/-- a book lies in block b: what is kept, the greatest used, whether any was -/
structure BookAt (w : World) (b : Nat) (k : Int) (u : St) (y : Bool) : Prop where
  c0 : w.cell? ⟨b, 0, none⟩ = some (.int .u64 k)
  c1 : w.cell? ⟨b, 1, none⟩ = some (.int .u64 u.w)
  c2 : w.cell? ⟨b, 2, none⟩ = some (.int .u32 u.l)
  c3 : w.cell? ⟨b, 3, none⟩ = some (.int .u32 u.n)
  c4 : w.cell? ⟨b, 4, none⟩ = some (.bool y)
  loose : Loose w b
theorem BookAt.lt {w : World} {b : Nat} {k : Int} {u : St} {y : Bool} (h : BookAt w b k u y) : b < w.heap.size := World.block_lt_of_cell? _ _ h.c0
theorem BookAt.later {w w' : World} {b : Nat} {k : Int} {u : St} {y : Bool} (h : BookAt w b k u y) (hb : Below w.heap.size w w') : BookAt w' b k u y :=
  ⟨cell_later hb h.c0, cell_later hb h.c1, cell_later hb h.c2, cell_later hb h.c3, cell_later hb h.c4, h.loose.later hb h.lt⟩
theorem BookAt.only {w w' : World} {b p : Nat} {k : Int} {u : St} {y : Bool} (h : BookAt w b k u y) (hb : Only p w w') (hq : b ≠ p) : BookAt w' b k u y :=
  ⟨hb.cell hq h.c0, hb.cell hq h.c1, hb.cell hq h.c2, hb.cell hq h.c3, hb.cell hq h.c4, hb.loose hq h.lt h.loose⟩
abbrev setK (w : World) (b : Nat) (k : Int) : World := w.setCell ⟨b, 0, none⟩ (.int .u64 k)
abbrev setU (w : World) (b : Nat) (s : St) : World := ((w.setCell ⟨b, 1, none⟩ (.int .u64 s.w)).setCell ⟨b, 2, none⟩ (.int .u32 s.l)).setCell ⟨b, 3, none⟩ (.int .u32 s.n)
abbrev setY (w : World) (b : Nat) : World := w.setCell ⟨b, 4, none⟩ (.bool true)
theorem setK_only (w : World) (b : Nat) (k : Int) : Only b w (setK w b k) := (Only.refl _ _).set 0 _
theorem setU_only (w : World) (b : Nat) (s : St) : Only b w (setU w b s) := (((Only.refl _ _).set 1 _).set 2 _).set 3 _
theorem setY_only (w : World) (b : Nat) : Only b w (setY w b) := (Only.refl _ _).set 4 _
theorem BookAt.setK {w : World} {b : Nat} {k : Int} {u : St} {y : Bool} (h : BookAt w b k u y) (k' : Int) : BookAt (setK w b k') b k' u y :=
  ⟨World.cell?_setCell_same _ _ _ h.c0, cell_set (by simp) h.c1, cell_set (by simp) h.c2, cell_set (by simp) h.c3, cell_set (by simp) h.c4, h.loose.set _ _⟩
theorem BookAt.setY {w : World} {b : Nat} {k : Int} {u : St} {y : Bool} (h : BookAt w b k u y) : BookAt (setY w b) b k u true :=
  ⟨cell_set (by simp) h.c0, cell_set (by simp) h.c1, cell_set (by simp) h.c2, cell_set (by simp) h.c3, World.cell?_setCell_same _ _ _ h.c4, h.loose.set _ _⟩
theorem BookAt.setU {w : World} {b : Nat} {k : Int} {u : St} {y : Bool} (h : BookAt w b k u y) (s : St) : BookAt (setU w b s) b k s y :=
  ⟨cell_set (by simp) (cell_set (by simp) (cell_set (by simp) h.c0)), cell_set (by simp) (cell_set (by simp) (World.cell?_setCell_same _ _ _ h.c1)), cell_set (by simp) (World.cell?_setCell_same _ _ _ (cell_set (by simp) h.c2)), World.cell?_setCell_same _ _ _ (cell_set (by simp) (cell_set (by simp) h.c3)), cell_set (by simp) (cell_set (by simp) (cell_set (by simp) h.c4)), ((h.loose.set _ _).set _ _).set _ _⟩

/-- a box of a stamp, the book and the clock -/
structure UseAt (w W : World) (N b p : Nat) (s : St) (k : Int) (u : St) (y : Bool) (c : Ck) : Prop where
  only : Only2 b p w W
  st : StampAt W N s.w s.l s.n
  bk : BookAt W b k u y
  ck : ClockAt W p c
  nb : N ≠ b
  np : N ≠ p
  bp : b ≠ p
theorem UseAt.later {w W W' : World} {N b p : Nat} {s : St} {k : Int} {u : St} {y : Bool} {c : Ck} (R : UseAt w W N b p s k u y c) (hb : Below W.heap.size W W') : UseAt w W' N b p s k u y c :=
  ⟨R.only.on hb, R.st.later hb, R.bk.later hb, R.ck.later hb, R.nb, R.np, R.bp⟩
theorem UseAt.onC {w W W' : World} {N b p : Nat} {s : St} {k : Int} {u : St} {y : Bool} {c c' : Ck} (R : UseAt w W N b p s k u y c) (ho : Only p W W') (h : ClockAt W' p c') : UseAt w W' N b p s k u y c' :=
  ⟨R.only.trans (Only2.right ho), R.st.only ho R.np, R.bk.only ho R.bp, h, R.nb, R.np, R.bp⟩
theorem UseAt.onB {w W W' : World} {N b p : Nat} {s : St} {k k' : Int} {u u' : St} {y y' : Bool} {c : Ck} (R : UseAt w W N b p s k u y c) (ho : Only b W W') (h : BookAt W' b k' u' y') : UseAt w W' N b p s k' u' y' c :=
  ⟨R.only.trans (Only2.left ho), R.st.only ho R.nb, h, R.ck.only ho (fun e => R.bp e.symm), R.nb, R.np, R.bp⟩

end Go.Proofs.Ytmloaddbmkonoaa
