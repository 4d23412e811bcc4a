import Derived.Test.YtmloaddbmkonoabBase0
import Derived.Test.YtmloaddbmkonoabNextPlain
namespace Go.Proofs.Ytmloaddbmkonoab
open Go.RowKit Go.Sort

/-- a stamp put into block p, cell by cell -/
def putStamp (w : World) (p : Nat) (a b c : Int) : World :=
  ((w.setCell ⟨p, 0, none⟩ (.int .u64 a)).setCell ⟨p, 1, none⟩ (.int .u32 b)).setCell ⟨p, 2, none⟩ (.int .u32 c)

theorem StampAt.put {w : World} {p : Nat} {a b c : Int} (h : StampAt w p a b c) (x y z : Int) : StampAt (putStamp w p x y z) p x y z := by
  obtain ⟨h0, h1, h2⟩ := h
  refine ⟨?_, ?_, ?_⟩
  · unfold putStamp
    rw [World.cell?_setCell_other _ _ _ _ (by simp), World.cell?_setCell_other _ _ _ _ (by simp), World.cell?_setCell_same _ _ _ h0]
  · unfold putStamp
    rw [World.cell?_setCell_other _ _ _ _ (by simp), World.cell?_setCell_same _ _ _ (u := .int .u32 b) (by rw [World.cell?_setCell_other _ _ _ _ (by simp)]; exact h1)]
  · unfold putStamp
    rw [World.cell?_setCell_same _ _ _ (u := .int .u32 c) (by rw [World.cell?_setCell_other _ _ _ _ (by simp), World.cell?_setCell_other _ _ _ _ (by simp)]; exact h2)]

theorem cell_put {w : World} {p q o : Nat} {v : Value} (a b c : Int) (hne : p ≠ q) (h : w.cell? ⟨q, o, none⟩ = some v) : (putStamp w p a b c).cell? ⟨q, o, none⟩ = some v := by
  unfold putStamp
  rw [World.cell?_setCell_other _ _ _ _ (fun e => hne (congrArg Addr.block e)), World.cell?_setCell_other _ _ _ _ (fun e => hne (congrArg Addr.block e)), World.cell?_setCell_other _ _ _ _ (fun e => hne (congrArg Addr.block e)), h]

theorem Loose.put {w : World} {p q : Nat} (h : Loose w q) (a b c : Int) : Loose (putStamp w p a b c) q := fun o => by
  unfold putStamp
  rw [World.frozen?_setCell, World.frozen?_setCell, World.frozen?_setCell]; exact h o

theorem Below.put {B : Nat} {w0 w : World} (h : Below B w0 w) {p : Nat} (hp : B ≤ p) (a b c : Int) : Below B w0 (putStamp w p a b c) :=
  Below.setCell (p := ⟨p, 2, none⟩) (Below.setCell (p := ⟨p, 1, none⟩) (Below.setCell (p := ⟨p, 0, none⟩) h hp _) hp _) hp _

structure RoadAt (w wr : World) (N : Nat) (sl : Value) (s0 s1 s2 : Int) : Prop where
  below : Below w.heap.size w wr
  base : w.heap.size ≤ N
  size : N + 2 ≤ wr.heap.size
  nodes : wr.cell? ⟨N, 3, none⟩ = some sl
  at3 : StampAt wr (N + 1) s0 s1 s2
  loose : Loose wr (N + 1)
  good : StB s0 s1 s2

theorem RoadAt.later {w wr wc : World} {N : Nat} {sl : Value} {s0 s1 s2 : Int} (R : RoadAt w wr N sl s0 s1 s2) (hb : Below wr.heap.size wr wc) : RoadAt w wc N sl s0 s1 s2 :=
  ⟨Below.on R.below hb, R.base, Nat.le_trans R.size hb.size, cell_later hb R.nodes, R.at3.later hb, R.loose.later hb (by have := R.size; omega), R.good⟩

theorem RoadAt.put {w wr : World} {N : Nat} {sl : Value} {s0 s1 s2 : Int} (R : RoadAt w wr N sl s0 s1 s2) {x y z : Int} (h : StB x y z) : RoadAt w (putStamp wr (N + 1) x y z) N sl x y z :=
  ⟨Below.put R.below (by have := R.base; omega) _ _ _, R.base, by simpa [putStamp, World.setCell] using R.size, cell_put _ _ _ (by omega) R.nodes, R.at3.put _ _ _, R.loose.put _ _ _, h⟩

end Go.Proofs.Ytmloaddbmkonoab
