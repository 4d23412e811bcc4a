import Derived.Test.YtgplnbdankfobaaGreatDoorQOwn
/- Lists in unlike blocks. -/
namespace Go.Proofs.YtgplnbdankfobaaGreatDoor.Lk
open Go.RowKit Go.Sort
set_option linter.unusedVariables false

/-- the lists' values; two whose lists lie in unlike blocks -/
abbrev Hv.rV (v : Hv) : Value := .slice v.ra v.h.rs.length v.rc
abbrev Hv.wV (v : Hv) : Value := .slice v.wa v.h.ws.length v.wc
def Hv.far (x y : Hv) : Prop := (∀ b, x.rV.ownBlock = some b → y.rV.ownBlock ≠ some b) ∧ (∀ b, x.wV.ownBlock = some b → y.wV.ownBlock ≠ some b)
theorem Hv.far.symm {x y : Hv} (h : x.far y) : y.far x := ⟨fun b e e' => h.1 b e' e, fun b e e' => h.2 b e' e⟩
theorem Hv.far_of {B B' : Nat} {w w' : World} {x y : Hv} (hx : x.fresh B w) (hy : y.fresh B' w') (h : w.heap.size ≤ B') : x.far y :=
  ⟨fun b e e' => by have h1 := (hx.r.lt b e).2; have h2 := (hy.r.lt b e').1; omega, fun b e e' => by have h1 := (hx.w.lt b e).2; have h2 := (hy.w.lt b e').1; omega⟩
/-- whose lists lie from a block on -/
def Hv.low (B : Nat) (v : Hv) : Prop := (∀ b, v.rV.ownBlock = some b → B ≤ b) ∧ (∀ b, v.wV.ownBlock = some b → B ≤ b)
theorem Hv.fresh.lowB {B : Nat} {w : World} {v : Hv} (h : v.fresh B w) {C : Nat} (hC : C ≤ B) : v.low C := ⟨fun b e => Nat.le_trans hC (h.r.lt b e).1, fun b e => Nat.le_trans hC (h.w.lt b e).1⟩
theorem Hv.low.mono {B C : Nat} {v : Hv} (h : v.low B) (hC : C ≤ B) : v.low C := ⟨fun b e => Nat.le_trans hC (h.1 b e), fun b e => Nat.le_trans hC (h.2 b e)⟩
end Go.Proofs.YtgplnbdankfobaaGreatDoor.Lk
