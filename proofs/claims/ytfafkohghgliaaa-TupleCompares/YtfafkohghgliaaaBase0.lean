import Derived.Test.YtfafkohghgliaaaRows
import Derived.Test.YtfafkohghgliaaaPlain
import Derived.WalkKit
import Derived.WalkLawsBesides
import Derived.Below
import Derived.Outline
import Derived.BigRegion
import Derived.BigQuiet
import Derived.Lib.QuietBelow
import Derived.Deep.QuietTactic
import Derived.Deep.DeepCutAuto
import Derived.WalkSpells
import Derived.Deep.RegionHeld3
import Derived.Deep.LoopGhost
namespace Go.Proofs.Ytfafkohghgliaaa
open Go.RowKit Go.Sort

/-- a stamp as a value -/
abbrev stv (a b c : Int) : Value := .agg #[.int .u64 a, .int .u32 b, .int .u32 c]

/-- a stamp lies in block p -/
def StampAt (w : World) (p : Nat) (a b c : Int) : Prop :=
  w.cell? ⟨p, 0, none⟩ = some (.int .u64 a) ∧ w.cell? ⟨p, 1, none⟩ = some (.int .u32 b) ∧ w.cell? ⟨p, 2, none⟩ = some (.int .u32 c)


theorem StampAt.later {w w' : World} {p : Nat} {a b c : Int} (h : StampAt w p a b c) (hb : Below w.heap.size w w') : StampAt w' p a b c :=
  ⟨cell_later hb h.1, cell_later hb h.2.1, cell_later hb h.2.2⟩
theorem below_of_regrown {w w' : World} (h : ∃ p : Regrown, w' = grow (redrawn w p.d) p.os) : Below w.heap.size w w' := by
  obtain ⟨p, rfl⟩ := h; exact below_regrown _ _ _
theorem Below.on {w0 w w' : World} (h : Below w0.heap.size w0 w) (k : Below w.heap.size w w') : Below w0.heap.size w0 w' := h.trans (k.mono h.size)
theorem Below.al {w0 w : World} (h : Below w0.heap.size w0 w) (o : Obj) : Below w0.heap.size w0 (w.alloc o) := h.alloc h.size o
theorem bcell {W w1 : World} (hb : Below W.heap.size W w1) : (∀ b o, b < W.heap.size → w1.cell? ⟨b, o, none⟩ = W.cell? ⟨b, o, none⟩) ∧ (∀ b o, b < W.heap.size → w1.frozen? ⟨b, o, none⟩ = W.frozen? ⟨b, o, none⟩) :=
  ⟨fun b o h => hb.cell (p := ⟨b, o, none⟩) h, fun b o h => hb.frozen (p := ⟨b, o, none⟩) h⟩

theorem hid {p : Prop} (h : p) : Hid p := h
/-- nothing of block p is frozen -/
def Loose (w : World) (p : Nat) : Prop := ∀ o, w.frozen? ⟨p, o, none⟩ = false
theorem Loose.later {w w' : World} {p : Nat} (h : Loose w p) (hb : Below w.heap.size w w') (hp : p < w.heap.size) : Loose w' p := fun o =>
  (hb.frozen (p := ⟨p, o, none⟩) hp).trans (h o)

end Go.Proofs.Ytfafkohghgliaaa
