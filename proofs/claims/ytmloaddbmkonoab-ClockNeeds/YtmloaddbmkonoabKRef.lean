import Derived.Test.YtmloaddbmkonoabKBox
import Derived.Test.YtmloaddbmkonoabKTab
import Derived.Deep.AppendLies
import Derived.Deep.RegionLaw
namespace Go.Proofs.Ytmloaddbmkonoab
open Go.RowKit Go.Sort
set_option linter.unusedVariables false

/-- of what was there, only the blocks of F may have changed -/
structure Onl (F : Nat → Prop) (w w' : World) : Prop where
  os : w'.os = w.os
  tape : w'.tape = w.tape
  output : w'.output = w.output
  size : w.heap.size ≤ w'.heap.size
  block : ∀ k, k < w.heap.size → ¬ F k → w'.heap[k]? = w.heap[k]?
theorem Onl.refl (F : Nat → Prop) (w : World) : Onl F w w := ⟨rfl, rfl, rfl, Nat.le_refl _, fun _ _ _ => rfl⟩
theorem Onl.mono {F G : Nat → Prop} {w w' : World} (h : Onl F w w') (hg : ∀ k, F k → G k) : Onl G w w' := ⟨h.os, h.tape, h.output, h.size, fun k hk hn => h.block k hk (fun hf => hn (hg k hf))⟩
theorem Onl.trans {F : Nat → Prop} {a b c : World} (h : Onl F a b) (k : Onl F b c) : Onl F a c :=
  ⟨k.os.trans h.os, k.tape.trans h.tape, k.output.trans h.output, Nat.le_trans h.size k.size, fun i hi hn => (k.block i (Nat.lt_of_lt_of_le hi h.size) hn).trans (h.block i hi hn)⟩
theorem Onl.of_below {F : Nat → Prop} {w w' : World} (h : Below w.heap.size w w') : Onl F w w' := ⟨h.os, h.tape, h.output, h.size, fun k hk _ => h.block k hk⟩
theorem Onl.on {F : Nat → Prop} {a w w' : World} (h : Onl F a w) (k : Below w.heap.size w w') : Onl F a w' := h.trans (Onl.of_below k)
theorem Onl.of_only {F : Nat → Prop} {p : Nat} {w w' : World} (h : Only p w w') (hp : F p) : Onl F w w' :=
  ⟨h.os, h.tape, h.output, h.size, fun k hk hn => h.block k hk (fun e => hn (e ▸ hp))⟩
theorem Onl.below {F : Nat → Prop} {B : Nat} {w w' : World} (h : Onl F w w') (hF : ∀ k, F k → B ≤ k) (hB : B ≤ w.heap.size) : Below B w w' :=
  ⟨h.os, h.tape, h.output, h.size, fun k hk => h.block k (by omega) (fun hf => by have := hF k hf; omega)⟩
theorem Onl.cell {F : Nat → Prop} {b o : Nat} {w w' : World} {v : Value} (h : Onl F w w') (hb : ¬ F b) (k : w.cell? ⟨b, o, none⟩ = some v) : w'.cell? ⟨b, o, none⟩ = some v := by
  rw [← k]; exact World.cell?_of_block (a := ⟨b, o, none⟩) (h.block b (World.block_lt_of_cell? _ _ k) hb)
theorem Onl.loose {F : Nat → Prop} {b : Nat} {w w' : World} (h : Onl F w w') (hb : ¬ F b) (hs : b < w.heap.size) (k : Loose w b) : Loose w' b := fun o => by
  rw [← k o]; exact World.frozen?_of_block (a := ⟨b, o, none⟩) (h.block b hs hb)
/-- what is written is new, or was to be written already -/
theorem Onl.fresh {F G : Nat → Prop} {a b c : World} (h : Onl F a b) (k : Onl G b c) (hg : ∀ i, G i → F i ∨ a.heap.size ≤ i) : Onl F a c :=
  ⟨k.os.trans h.os, k.tape.trans h.tape, k.output.trans h.output, Nat.le_trans h.size k.size, fun i hi hn => (k.block i (Nat.lt_of_lt_of_le hi h.size) (fun hG => by
    rcases hg i hG with h1 | h1
    · exact hn h1
    · omega)).trans (h.block i hi hn)⟩

theorem owns_block {w w' : World} {B size n g cap : Nat} {e : TypeId} {xs : List Value} (h : w.ownsRow B e size (.slice (some ⟨g, 0, none⟩) n cap) n xs) (hb : w'.heap[g]? = w.heap[g]?) : w'.ownsRow B e size (.slice (some ⟨g, 0, none⟩) n cap) n xs := by
  obtain ⟨h1, ⟨h2, _⟩ | ⟨g', cap', cur, hv, hg, hh, r⟩⟩ := h
  · cases h2
  · refine ⟨h1, .inr ⟨g', cap', cur, hv, hg, ?_, r⟩⟩
    injection hv with e1
    injection e1 with e1
    injection e1 with e1
    subst e1
    rw [hb]; exact hh
theorem owns_lt {w : World} {B size n g cap : Nat} {e : TypeId} {xs : List Value} (h : w.ownsRow B e size (.slice (some ⟨g, 0, none⟩) n cap) n xs) : B ≤ g ∧ g < w.heap.size := h.lt g rfl

def ints (xs : List Int) : List Value := xs.map fun x => .int .u64 x
theorem ints_length (xs : List Int) : (ints xs).length = xs.length := by simp [ints]
theorem ints_snoc (xs : List Int) (x : Int) : ints (xs ++ [x]) = ints xs ++ [.int .u64 x] := by simp [ints]

/-- what the document's clock was told, and where it lies -/
structure Rd where
  d : Nat
  g2 : Nat
  g3 : Nat
  g4 : Nat
  k2 : Nat
  k3 : Nat
  k4 : Nat
  node : Int
  win : Int
  rs : List Int
  ss : List St
  ls : List Int
def Rd.has (x : Rd) (k : Nat) : Prop := k = x.d ∨ k = x.g2 ∨ k = x.g3 ∨ k = x.g4
structure RefAt (w : World) (B : Nat) (x : Rd) : Prop where
  c0 : w.cell? ⟨x.d, 0, none⟩ = some (.int .u32 x.node)
  c1 : w.cell? ⟨x.d, 1, none⟩ = some (.int .u64 x.win)
  c2 : w.cell? ⟨x.d, 2, none⟩ = some (.slice (some ⟨x.g2, 0, none⟩) x.rs.length x.k2)
  c3 : w.cell? ⟨x.d, 3, none⟩ = some (.slice (some ⟨x.g3, 0, none⟩) x.ss.length x.k3)
  c4 : w.cell? ⟨x.d, 4, none⟩ = some (.slice (some ⟨x.g4, 0, none⟩) x.ls.length x.k4)
  loose : Loose w x.d
  r2 : w.ownsRow B 31 1 (.slice (some ⟨x.g2, 0, none⟩) x.rs.length x.k2) x.rs.length (ints x.rs)
  r3 : w.ownsRow B 33 3 (.slice (some ⟨x.g3, 0, none⟩) x.ss.length x.k3) x.ss.length (flat x.ss)
  r4 : w.ownsRow B 31 1 (.slice (some ⟨x.g4, 0, none⟩) x.ls.length x.k4) x.ls.length (ints x.ls)
  bd : B ≤ x.d
  d2 : x.d ≠ x.g2
  d3 : x.d ≠ x.g3
  d4 : x.d ≠ x.g4
  n23 : x.g2 ≠ x.g3
  n24 : x.g2 ≠ x.g4
  n34 : x.g3 ≠ x.g4
theorem RefAt.lt {w : World} {B : Nat} {x : Rd} (h : RefAt w B x) : x.d < w.heap.size := World.block_lt_of_cell? _ _ h.c0
theorem RefAt.has_lt {w : World} {B : Nat} {x : Rd} (h : RefAt w B x) : ∀ k, x.has k → B ≤ k ∧ k < w.heap.size := by
  rintro k (rfl | rfl | rfl | rfl)
  · exact ⟨h.bd, h.lt⟩
  · exact owns_lt h.r2
  · exact owns_lt h.r3
  · exact owns_lt h.r4
theorem RefAt.keep {w w' : World} {B : Nat} {x : Rd} {F : Nat → Prop} (h : RefAt w B x) (ho : Onl F w w') (hF : ∀ k, x.has k → ¬ F k) : RefAt w' B x := by
  have fd := hF x.d (.inl rfl)
  have f2 := hF x.g2 (.inr (.inl rfl))
  have f3 := hF x.g3 (.inr (.inr (.inl rfl)))
  have f4 := hF x.g4 (.inr (.inr (.inr rfl)))
  exact ⟨ho.cell fd h.c0, ho.cell fd h.c1, ho.cell fd h.c2, ho.cell fd h.c3, ho.cell fd h.c4, ho.loose fd h.lt h.loose, owns_block h.r2 (ho.block _ (owns_lt h.r2).2 f2), owns_block h.r3 (ho.block _ (owns_lt h.r3).2 f3), owns_block h.r4 (ho.block _ (owns_lt h.r4).2 f4),
    h.bd, h.d2, h.d3, h.d4, h.n23, h.n24, h.n34⟩
theorem RefAt.later {w w' : World} {B : Nat} {x : Rd} (h : RefAt w B x) (hb : Below w.heap.size w w') : RefAt w' B x := h.keep (F := fun _ => False) (Onl.of_below hb) (fun _ _ => id)
theorem ClockAt.keep {w w' : World} {p : Nat} {c : Ck} {F : Nat → Prop} (h : ClockAt w p c) (ho : Onl F w w') (hF : ¬ F p) : ClockAt w' p c :=
  ⟨ho.cell hF h.c0, ho.cell hF h.c1, ho.cell hF h.c2, ho.cell hF h.c3, ho.cell hF h.c4, ho.cell hF h.c5, ho.cell hF h.c6, ho.loose hF h.lt h.loose⟩

theorem grown_onl {w w' : World} {g : Nat} (h : w.grownBy w' (some g)) : Onl (fun k => k = g) w w' :=
  ⟨h.os, h.tape, h.output, h.size, fun k hk hn => h.block k hk (fun e => hn (by injection e))⟩
theorem set_onl (w : World) (d o : Nat) (v : Value) : Onl (fun k => k = d) w (w.setCell ⟨d, o, none⟩ v) := Onl.of_only ((Only.refl _ _).set o v) rfl
theorem set_block (w : World) {d o g : Nat} (v : Value) (h : g ≠ d) : (w.setCell ⟨d, o, none⟩ v).heap[g]? = w.heap[g]? := Below.heap_setCell _ _ _ _ h

/-- the reading of a row that grew, or of a new one -/
theorem RefAt.app2 {w wa w1 : World} {B g cap : Nat} {x : Rd} {v : Int} (h : RefAt w B x) (hb : Below w.heap.size w wa) (hg : wa.grownBy w1 (some x.g2)) (ho : w1.ownsRow B 31 1 (.slice (some ⟨g, 0, none⟩) (x.rs.length + 1) cap) (x.rs.length + 1) (ints x.rs ++ [.int .u64 v]))
    (hat : some x.g2 = some g ∨ g = wa.heap.size) :
    RefAt (w1.setCell ⟨x.d, 2, none⟩ (.slice (some ⟨g, 0, none⟩) (x.rs.length + 1) cap)) B { x with g2 := g, k2 := cap, rs := x.rs ++ [v] } ∧ Onl x.has w (w1.setCell ⟨x.d, 2, none⟩ (.slice (some ⟨g, 0, none⟩) (x.rs.length + 1) cap)) ∧ (g = x.g2 ∨ w.heap.size ≤ g) := by
  have ha := h.later hb
  have o1 := grown_onl hg
  have hfd : ¬ x.d = x.g2 := h.d2
  have c0 := o1.cell hfd ha.c0
  have c1 := o1.cell hfd ha.c1
  have c2 := o1.cell hfd ha.c2
  have c3 := o1.cell hfd ha.c3
  have c4 := o1.cell hfd ha.c4
  have lo := o1.loose hfd ha.lt ha.loose
  have r3 := owns_block ha.r3 (o1.block _ (owns_lt ha.r3).2 (fun e => h.n23 e.symm))
  have r4 := owns_block ha.r4 (o1.block _ (owns_lt ha.r4).2 (fun e => h.n24 e.symm))
  have hat' : g = x.g2 ∨ g = wa.heap.size := hat.imp (fun e => (by injection e with e; exact e.symm)) id
  have l2 := owns_lt ha.r2
  have l3 := owns_lt ha.r3
  have l4 := owns_lt ha.r4
  have ld := ha.lt
  have n23 := h.n23
  have n24 := h.n24
  have d2 := h.d2
  have gd : g ≠ x.d := by omega
  have d3 := h.d3
  have d4 := h.d4
  have n34 := h.n34
  have hbs := hb.size
  refine ⟨⟨cell_set (by simp) c0, cell_set (by simp) c1, ?_, cell_set (by simp) c3, cell_set (by simp) c4, lo.set _ _, ?_, owns_block r3 (set_block _ _ (fun e => d3 e.symm)), owns_block r4 (set_block _ _ (fun e => d4 e.symm)), h.bd, fun e => gd e.symm, d3, d4, ?_, ?_, n34⟩, ?_, ?_⟩
  · dsimp only
    rw [List.length_append]; exact World.cell?_setCell_same _ _ _ c2
  · dsimp only
    rw [List.length_append, ints_snoc]; exact owns_block ho (set_block _ _ gd)
  · dsimp only; omega
  · dsimp only; omega
  · refine (Onl.on (Onl.refl _ _) hb).trans ((o1.mono (fun k e => .inr (.inl e))).trans ((set_onl _ _ _ _).mono (fun k e => .inl e)))
  · omega

theorem RefAt.app3 {w wa w1 : World} {B g cap : Nat} {x : Rd} {v : St} (h : RefAt w B x) (hb : Below w.heap.size w wa) (hg : wa.grownBy w1 (some x.g3)) (ho : w1.ownsRow B 33 3 (.slice (some ⟨g, 0, none⟩) (x.ss.length + 1) cap) (x.ss.length + 1) (flat x.ss ++ v.cs))
    (hat : some x.g3 = some g ∨ g = wa.heap.size) :
    RefAt (w1.setCell ⟨x.d, 3, none⟩ (.slice (some ⟨g, 0, none⟩) (x.ss.length + 1) cap)) B { x with g3 := g, k3 := cap, ss := x.ss ++ [v] } ∧ Onl x.has w (w1.setCell ⟨x.d, 3, none⟩ (.slice (some ⟨g, 0, none⟩) (x.ss.length + 1) cap)) ∧ (g = x.g3 ∨ w.heap.size ≤ g) := by
  have ha := h.later hb
  have o1 := grown_onl hg
  have hfd : ¬ x.d = x.g3 := h.d3
  have c0 := o1.cell hfd ha.c0
  have c1 := o1.cell hfd ha.c1
  have c2 := o1.cell hfd ha.c2
  have c3 := o1.cell hfd ha.c3
  have c4 := o1.cell hfd ha.c4
  have lo := o1.loose hfd ha.lt ha.loose
  have r2 := owns_block ha.r2 (o1.block _ (owns_lt ha.r2).2 (fun e => h.n23 e))
  have r4 := owns_block ha.r4 (o1.block _ (owns_lt ha.r4).2 (fun e => h.n34 e.symm))
  have hat' : g = x.g3 ∨ g = wa.heap.size := hat.imp (fun e => (by injection e with e; exact e.symm)) id
  have l2 := owns_lt ha.r2
  have l3 := owns_lt ha.r3
  have l4 := owns_lt ha.r4
  have ld := ha.lt
  have n23 := h.n23
  have n24 := h.n24
  have d2 := h.d2
  have d3 := h.d3
  have d4 := h.d4
  have n34 := h.n34
  have gd : g ≠ x.d := by omega
  have hbs := hb.size
  refine ⟨⟨cell_set (by simp) c0, cell_set (by simp) c1, cell_set (by simp) c2, ?_, cell_set (by simp) c4, lo.set _ _, owns_block r2 (set_block _ _ (fun e => d2 e.symm)), ?_, owns_block r4 (set_block _ _ (fun e => d4 e.symm)), h.bd, d2, fun e => gd e.symm, d4, ?_, n24, ?_⟩, ?_, ?_⟩
  · dsimp only
    rw [List.length_append]; exact World.cell?_setCell_same _ _ _ c3
  · dsimp only
    rw [List.length_append, flat_append, flat_one]; exact owns_block ho (set_block _ _ gd)
  · dsimp only; omega
  · dsimp only; omega
  · refine (Onl.on (Onl.refl _ _) hb).trans ((o1.mono (fun k e => .inr (.inr (.inl e)))).trans ((set_onl _ _ _ _).mono (fun k e => .inl e)))
  · omega

theorem RefAt.app4 {w wa w1 : World} {B g cap : Nat} {x : Rd} {v : Int} (h : RefAt w B x) (hb : Below w.heap.size w wa) (hg : wa.grownBy w1 (some x.g4)) (ho : w1.ownsRow B 31 1 (.slice (some ⟨g, 0, none⟩) (x.ls.length + 1) cap) (x.ls.length + 1) (ints x.ls ++ [.int .u64 v]))
    (hat : some x.g4 = some g ∨ g = wa.heap.size) :
    RefAt (w1.setCell ⟨x.d, 4, none⟩ (.slice (some ⟨g, 0, none⟩) (x.ls.length + 1) cap)) B { x with g4 := g, k4 := cap, ls := x.ls ++ [v] } ∧ Onl x.has w (w1.setCell ⟨x.d, 4, none⟩ (.slice (some ⟨g, 0, none⟩) (x.ls.length + 1) cap)) ∧ (g = x.g4 ∨ w.heap.size ≤ g) := by
  have ha := h.later hb
  have o1 := grown_onl hg
  have hfd : ¬ x.d = x.g4 := h.d4
  have c0 := o1.cell hfd ha.c0
  have c1 := o1.cell hfd ha.c1
  have c2 := o1.cell hfd ha.c2
  have c3 := o1.cell hfd ha.c3
  have c4 := o1.cell hfd ha.c4
  have lo := o1.loose hfd ha.lt ha.loose
  have r2 := owns_block ha.r2 (o1.block _ (owns_lt ha.r2).2 (fun e => h.n24 e))
  have r3 := owns_block ha.r3 (o1.block _ (owns_lt ha.r3).2 (fun e => h.n34 e))
  have hat' : g = x.g4 ∨ g = wa.heap.size := hat.imp (fun e => (by injection e with e; exact e.symm)) id
  have l2 := owns_lt ha.r2
  have l3 := owns_lt ha.r3
  have l4 := owns_lt ha.r4
  have ld := ha.lt
  have n23 := h.n23
  have n24 := h.n24
  have d2 := h.d2
  have d3 := h.d3
  have d4 := h.d4
  have n34 := h.n34
  have gd : g ≠ x.d := by omega
  have hbs := hb.size
  refine ⟨⟨cell_set (by simp) c0, cell_set (by simp) c1, cell_set (by simp) c2, cell_set (by simp) c3, ?_, lo.set _ _, owns_block r2 (set_block _ _ (fun e => d2 e.symm)), owns_block r3 (set_block _ _ (fun e => d3 e.symm)), ?_, h.bd, d2, d3, fun e => gd e.symm, n23, ?_, ?_⟩, ?_, ?_⟩
  · dsimp only
    rw [List.length_append]; exact World.cell?_setCell_same _ _ _ c4
  · dsimp only
    rw [List.length_append, ints_snoc]; exact owns_block ho (set_block _ _ gd)
  · dsimp only; omega
  · dsimp only; omega
  · refine (Onl.on (Onl.refl _ _) hb).trans ((o1.mono (fun k e => .inr (.inr (.inr e)))).trans ((set_onl _ _ _ _).mono (fun k e => .inl e)))
  · omega

theorem Try.infoU64 : (Try.prog.info? 31).map (fun i => (i.zero, i.size, i.bytes)) = some (some (.int .u64 0), 1, 8) := by kernel_rfl

end Go.Proofs.Ytmloaddbmkonoab
