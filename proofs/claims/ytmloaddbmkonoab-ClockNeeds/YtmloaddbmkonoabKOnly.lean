import Derived.Test.YtmloaddbmkonoabKMax
import Derived.Test.YtmloaddbmkonoabKNext
namespace Go.Proofs.Ytmloaddbmkonoab
open Go.RowKit Go.Sort

/-- of what was there, only block p may have changed -/
structure Only (p : Nat) (w w' : World) : Prop where
  os : w'.os = w.os
  tape : w'.tape = w.tape
  output : w'.output = w.output
  size : w.heap.size ≤ w'.heap.size
  block : ∀ k, k < w.heap.size → k ≠ p → w'.heap[k]? = w.heap[k]?

theorem Only.refl (p : Nat) (w : World) : Only p w w := ⟨rfl, rfl, rfl, Nat.le_refl _, fun _ _ _ => rfl⟩
theorem Only.trans {p : Nat} {a b c : World} (h : Only p a b) (k : Only p b c) : Only p a c :=
  ⟨k.os.trans h.os, k.tape.trans h.tape, k.output.trans h.output, Nat.le_trans h.size k.size, fun i hi hp => (k.block i (Nat.lt_of_lt_of_le hi h.size) hp).trans (h.block i hi hp)⟩
theorem Only.of_below {p : Nat} {w w' : World} (h : Below w.heap.size w w') : Only p w w' := ⟨h.os, h.tape, h.output, h.size, fun k hk _ => h.block k hk⟩
theorem Only.on {p : Nat} {a w w' : World} (h : Only p a w) (k : Below w.heap.size w w') : Only p a w' := h.trans (Only.of_below k)
theorem Only.al {p : Nat} {a w : World} (h : Only p a w) (o : Obj) : Only p a (w.alloc o) := h.on (Below.al (Below.refl _ _) o)
theorem Only.set {p : Nat} {a w : World} (h : Only p a w) (o : Nat) (v : Value) : Only p a (w.setCell ⟨p, o, none⟩ v) :=
  h.trans ⟨rfl, rfl, rfl, by simp [World.setCell], fun k _ hp => Below.heap_setCell _ _ _ _ hp⟩
/-- a store into a block that is new -/
theorem Only.setNew {p q : Nat} {a w : World} (h : Only p a w) (hq : a.heap.size ≤ q) (o : Nat) (v : Value) : Only p a (w.setCell ⟨q, o, none⟩ v) :=
  ⟨h.os, h.tape, h.output, by simpa [World.setCell] using h.size, fun k hk hp => (Below.heap_setCell _ _ _ _ (by show k ≠ q; omega)).trans (h.block k hk hp)⟩
theorem Only.drew {p : Nat} {a w : World} (h : Only p a w) : Only p a w.drew := ⟨h.os, h.tape, h.output, h.size, h.block⟩
theorem Only.below {p B : Nat} {w w' : World} (h : Only p w w') (hp : B ≤ p) (hB : B ≤ w.heap.size) : Below B w w' :=
  ⟨h.os, h.tape, h.output, h.size, fun k hk => h.block k (by omega) (by omega)⟩
theorem Only.cell {p b o : Nat} {w w' : World} {v : Value} (h : Only p w w') (hb : b ≠ p) (k : w.cell? ⟨b, o, none⟩ = some v) : w'.cell? ⟨b, o, none⟩ = some v := by
  rw [← k]; exact World.cell?_of_block (a := ⟨b, o, none⟩) (h.block b (World.block_lt_of_cell? _ _ k) hb)
theorem Only.loose {p b : Nat} {w w' : World} (h : Only p w w') (hb : b ≠ p) (hs : b < w.heap.size) (k : Loose w b) : Loose w' b := fun o => by
  rw [← k o]; exact World.frozen?_of_block (a := ⟨b, o, none⟩) (h.block b hs hb)
theorem StampAt.only {w w' : World} {p q : Nat} {a b c : Int} (h : StampAt w q a b c) (hb : Only p w w') (hq : q ≠ p) : StampAt w' q a b c :=
  ⟨hb.cell hq h.1, hb.cell hq h.2.1, hb.cell hq h.2.2⟩
theorem StampAt.lt {w : World} {q : Nat} {a b c : Int} (h : StampAt w q a b c) : q < w.heap.size := World.block_lt_of_cell? _ _ h.1

/-- a clock's numbers -/
structure Ck where
  win : Int
  ceil : Int
  node : Int
  rd : Int
  l : St
def U64 (a : Int) : Prop := 0 ≤ a ∧ a ≤ 18446744073709551615
def U32 (a : Int) : Prop := 0 ≤ a ∧ a ≤ 4294967295
structure Ck.ok (c : Ck) : Prop where
  win : U64 c.win
  ceil : U64 c.ceil
  node : U32 c.node
  rd : U64 c.rd
  l : c.l.ok

/-- a clock lies in block p -/
structure ClockAt (w : World) (p : Nat) (c : Ck) : Prop where
  c0 : w.cell? ⟨p, 0, none⟩ = some (.int .u64 c.win)
  c1 : w.cell? ⟨p, 1, none⟩ = some (.int .u64 c.ceil)
  c2 : w.cell? ⟨p, 2, none⟩ = some (.int .u32 c.node)
  c3 : w.cell? ⟨p, 3, none⟩ = some (.int .u64 c.rd)
  c4 : w.cell? ⟨p, 4, none⟩ = some (.int .u64 c.l.w)
  c5 : w.cell? ⟨p, 5, none⟩ = some (.int .u32 c.l.l)
  c6 : w.cell? ⟨p, 6, none⟩ = some (.int .u32 c.l.n)
  loose : Loose w p

theorem ClockAt.lt {w : World} {p : Nat} {c : Ck} (h : ClockAt w p c) : p < w.heap.size := World.block_lt_of_cell? _ _ h.c0
theorem ClockAt.later {w w' : World} {p : Nat} {c : Ck} (h : ClockAt w p c) (hb : Below w.heap.size w w') : ClockAt w' p c :=
  ⟨cell_later hb h.c0, cell_later hb h.c1, cell_later hb h.c2, cell_later hb h.c3, cell_later hb h.c4, cell_later hb h.c5, cell_later hb h.c6, h.loose.later hb h.lt⟩
theorem ClockAt.only {w w' : World} {p q : Nat} {c : Ck} (h : ClockAt w q c) (hb : Only p w w') (hq : q ≠ p) : ClockAt w' q c :=
  ⟨hb.cell hq h.c0, hb.cell hq h.c1, hb.cell hq h.c2, hb.cell hq h.c3, hb.cell hq h.c4, hb.cell hq h.c5, hb.cell hq h.c6, hb.loose hq h.lt h.loose⟩
theorem Loose.set {w : World} {p : Nat} (h : Loose w p) (a : Addr) (v : Value) : Loose (w.setCell a v) p := fun o => by
  rw [World.frozen?_setCell]; exact h o
theorem cell_set {w : World} {a b : Addr} {v u : Value} (hne : b ≠ a) (h : w.cell? b = some u) : (w.setCell a v).cell? b = some u := by
  rw [World.cell?_setCell_other _ _ _ _ (fun e => hne e.symm), h]
theorem ClockAt.setRd {w : World} {p : Nat} {c : Ck} (h : ClockAt w p c) (r : Int) : ClockAt (w.setCell ⟨p, 3, none⟩ (.int .u64 r)) p { c with rd := r } :=
  ⟨cell_set (by simp) h.c0, cell_set (by simp) h.c1, cell_set (by simp) h.c2, World.cell?_setCell_same _ _ _ h.c3, cell_set (by simp) h.c4, cell_set (by simp) h.c5, cell_set (by simp) h.c6, h.loose.set _ _⟩
theorem ClockAt.setCeil {w : World} {p : Nat} {c : Ck} (h : ClockAt w p c) (r : Int) : ClockAt (w.setCell ⟨p, 1, none⟩ (.int .u64 r)) p { c with ceil := r } :=
  ⟨cell_set (by simp) h.c0, World.cell?_setCell_same _ _ _ h.c1, cell_set (by simp) h.c2, cell_set (by simp) h.c3, cell_set (by simp) h.c4, cell_set (by simp) h.c5, cell_set (by simp) h.c6, h.loose.set _ _⟩
/-- a stamp put into a clock's last -/
abbrev putLast (w : World) (p : Nat) (s : St) : World :=
  ((w.setCell ⟨p, 4, none⟩ (.int .u64 s.w)).setCell ⟨p, 5, none⟩ (.int .u32 s.l)).setCell ⟨p, 6, none⟩ (.int .u32 s.n)
theorem ClockAt.setLast {w : World} {p : Nat} {c : Ck} (h : ClockAt w p c) (s : St) : ClockAt (putLast w p s) p { c with l := s } :=
  ⟨cell_set (by simp) (cell_set (by simp) (cell_set (by simp) h.c0)), cell_set (by simp) (cell_set (by simp) (cell_set (by simp) h.c1)), cell_set (by simp) (cell_set (by simp) (cell_set (by simp) h.c2)), cell_set (by simp) (cell_set (by simp) (cell_set (by simp) h.c3)),
    cell_set (by simp) (cell_set (by simp) (World.cell?_setCell_same _ _ _ h.c4)), cell_set (by simp) (World.cell?_setCell_same _ _ _ (cell_set (by simp) h.c5)), World.cell?_setCell_same _ _ _ (cell_set (by simp) (cell_set (by simp) h.c6)), ((h.loose.set _ _).set _ _).set _ _⟩
theorem Only.putLast {p : Nat} {a w : World} (h : Only p a w) (s : St) : Only p a (putLast w p s) := ((h.set 4 _).set 5 _).set 6 _

/-- the stamp that a Tick issues -/
def tickN (c : Ck) : Nxt := if c.rd ≤ c.l.w then nxt c.l.w c.l.l c.node else if c.rd = 18446744073709551615 then ⟨0, 0, 0, 11⟩ else ⟨c.rd, 0, c.node, 0⟩
def Nxt.st (x : Nxt) : St := ⟨x.W, x.L, x.N⟩
def tickC (c : Ck) : Ck := if (tickN c).E = 0 then { c with l := (tickN c).st } else c
def obsC (c : Ck) (s : St) : Ck := if s.w = 18446744073709551615 then c else { c with l := if c.l.less s then s else c.l }
def obsE (s : St) : Int := if s.w = 18446744073709551615 then 11 else 0
def mustB (c : Ck) (a : Int) : Bool := !(decide (a = 18446744073709551615) || decide (a < c.ceil))
def needN (c : Ck) (a : Int) : Int := if mustB c a then (if a + c.win + 1 ≤ 18446744073709551615 then a + c.win + 1 else 18446744073709551615) else 0
def maxI (a b : Int) : Int := if a < b then b else a

end Go.Proofs.Ytmloaddbmkonoab
