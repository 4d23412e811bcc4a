import Derived.Test.YthenfioddnkjbaaGreatDoorRows
import Derived.WalkKit
import Derived.WalkLawsBesides
import Derived.Below
import Derived.Outline
import Derived.BigRegion
import Derived.BigQuiet
import Derived.Lib.QuietBelow
import Derived.Deep.QuietTactic
import Derived.Deep.DeepCutAuto
import Derived.WalkSpells
import Derived.Deep.RegionHeld3
import Derived.Deep.LoopGhost
import Derived.OwnWalk
import Derived.Laws.OwnMore
import Derived.Deep.AppendLies
import Derived.Deep.RegionLaw
/- Plain mathematics of stamps: no Go. -/
namespace Go.Proofs.YthenfioddnkjbaaGreatDoor

/-- the order, a Bool function of the six numbers -/
def lessB (a b c x y z : Int) : Bool := if a = x then (if b = y then decide (c < z) else decide (b < y)) else decide (a < x)
/-- the three numbers alike -/
def sameB (a b c x y z : Int) : Bool := (a == x) && ((b == y) && (c == z))
def cmpI (a b c x y z : Int) : Int := if sameB a b c x y z then 0 else if lessB a b c x y z then -1 else 1

theorem sameB_iff {a b c x y z : Int} : sameB a b c x y z = true ↔ a = x ∧ b = y ∧ c = z := by simp [sameB]
theorem sameB_no {a b c x y z : Int} (h : ¬ (a = x ∧ b = y ∧ c = z)) : sameB a b c x y z = false := by
  cases hs : sameB a b c x y z with
  | false => rfl
  | true => exact absurd (sameB_iff.1 hs) h
theorem sameB_self (a b c : Int) : sameB a b c a b c = true := by simp [sameB]
theorem lessB_iff {a b c x y z : Int} : lessB a b c x y z = true ↔ a < x ∨ (a = x ∧ (b < y ∨ (b = y ∧ c < z))) := by
  unfold lessB
  by_cases h1 : a = x
  · by_cases h2 : b = y
    · simp [h1, h2]
    · simp [h1, h2]
  · simp [h1]
theorem lessB_iff_false {a b c x y z : Int} : lessB a b c x y z = false ↔ ¬ (a < x ∨ (a = x ∧ (b < y ∨ (b = y ∧ c < z)))) := by
  rw [← lessB_iff]; simp
theorem less_anti {a b c x y z : Int} (h : ¬ (a = x ∧ b = y ∧ c = z)) : lessB x y z a b c = !lessB a b c x y z := by
  cases h1 : lessB a b c x y z
  · rw [lessB_iff_false] at h1
    show _ = true
    rw [lessB_iff]; omega
  · rw [lessB_iff] at h1
    show _ = false
    rw [lessB_iff_false]; omega
theorem less_irr (a b c : Int) : lessB a b c a b c = false := by simp [lessB]
theorem less_trans {a b c x y z r s t : Int} (h : lessB a b c x y z = true) (k : lessB x y z r s t = true) : lessB a b c r s t = true := by
  rw [lessB_iff] at *; omega
theorem cmpI_self (a b c : Int) : cmpI a b c a b c = 0 := by simp [cmpI, sameB]
theorem cmpI_lt {a b c x y z : Int} (h : sameB a b c x y z = false) (k : lessB a b c x y z = true) : cmpI a b c x y z = -1 := by
  unfold cmpI; rw [h, k]; rfl
theorem cmpI_gt {a b c x y z : Int} (h : sameB a b c x y z = false) (k : lessB a b c x y z = false) : cmpI a b c x y z = 1 := by
  unfold cmpI; rw [h, k]; rfl

end Go.Proofs.YthenfioddnkjbaaGreatDoor
namespace Go.Proofs.YthenfioddnkjbaaGreatDoor
open Go.RowKit Go.Sort

/-- a stamp as a value -/
abbrev stv (a b c : Int) : Value := .agg #[.int .u64 a, .int .u32 b, .int .u32 c]

/-- a stamp lies in block p -/
def StampAt (w : World) (p : Nat) (a b c : Int) : Prop :=
  w.cell? ⟨p, 0, none⟩ = some (.int .u64 a) ∧ w.cell? ⟨p, 1, none⟩ = some (.int .u32 b) ∧ w.cell? ⟨p, 2, none⟩ = some (.int .u32 c)


theorem StampAt.later {w w' : World} {p : Nat} {a b c : Int} (h : StampAt w p a b c) (hb : Below w.heap.size w w') : StampAt w' p a b c :=
  ⟨cell_later hb h.1, cell_later hb h.2.1, cell_later hb h.2.2⟩
theorem below_of_regrown {w w' : World} (h : ∃ p : Regrown, w' = grow (redrawn w p.d) p.os) : Below w.heap.size w w' := by
  obtain ⟨p, rfl⟩ := h; exact below_regrown _ _ _
theorem Below.on {w0 w w' : World} (h : Below w0.heap.size w0 w) (k : Below w.heap.size w w') : Below w0.heap.size w0 w' := h.trans (k.mono h.size)
theorem Below.al {w0 w : World} (h : Below w0.heap.size w0 w) (o : Obj) : Below w0.heap.size w0 (w.alloc o) := h.alloc h.size o
theorem bcell {W w1 : World} (hb : Below W.heap.size W w1) : (∀ b o, b < W.heap.size → w1.cell? ⟨b, o, none⟩ = W.cell? ⟨b, o, none⟩) ∧ (∀ b o, b < W.heap.size → w1.frozen? ⟨b, o, none⟩ = W.frozen? ⟨b, o, none⟩) :=
  ⟨fun b o h => hb.cell (p := ⟨b, o, none⟩) h, fun b o h => hb.frozen (p := ⟨b, o, none⟩) h⟩

theorem hid {p : Prop} (h : p) : Hid p := h
/-- nothing of block p is frozen -/
def Loose (w : World) (p : Nat) : Prop := ∀ o, w.frozen? ⟨p, o, none⟩ = false
theorem Loose.later {w w' : World} {p : Nat} (h : Loose w p) (hb : Below w.heap.size w w') (hp : p < w.heap.size) : Loose w' p := fun o =>
  (hb.frozen (p := ⟨p, o, none⟩) hp).trans (h o)

end Go.Proofs.YthenfioddnkjbaaGreatDoor
/- What may have changed: a set of blocks; rows of one's own. No program of ours. -/
namespace Go.Proofs.YthenfioddnkjbaaGreatDoor
open Go.RowKit Go.Sort
set_option linter.unusedVariables false

/-- of what was there, only the blocks of F may have changed -/
structure Onl (F : Nat → Prop) (w w' : World) : Prop where
  os : w'.os = w.os
  tape : w'.tape = w.tape
  output : w'.output = w.output
  size : w.heap.size ≤ w'.heap.size
  block : ∀ k, k < w.heap.size → ¬ F k → w'.heap[k]? = w.heap[k]?
theorem Onl.refl (F : Nat → Prop) (w : World) : Onl F w w := ⟨rfl, rfl, rfl, Nat.le_refl _, fun _ _ _ => rfl⟩
theorem Onl.mono {F G : Nat → Prop} {w w' : World} (h : Onl F w w') (hg : ∀ k, F k → G k) : Onl G w w' := ⟨h.os, h.tape, h.output, h.size, fun k hk hn => h.block k hk (fun hf => hn (hg k hf))⟩
theorem Onl.trans {F : Nat → Prop} {a b c : World} (h : Onl F a b) (k : Onl F b c) : Onl F a c :=
  ⟨k.os.trans h.os, k.tape.trans h.tape, k.output.trans h.output, Nat.le_trans h.size k.size, fun i hi hn => (k.block i (Nat.lt_of_lt_of_le hi h.size) hn).trans (h.block i hi hn)⟩
theorem Onl.of_below {F : Nat → Prop} {w w' : World} (h : Below w.heap.size w w') : Onl F w w' := ⟨h.os, h.tape, h.output, h.size, fun k hk _ => h.block k hk⟩
theorem Onl.on {F : Nat → Prop} {a w w' : World} (h : Onl F a w) (k : Below w.heap.size w w') : Onl F a w' := h.trans (Onl.of_below k)
theorem Onl.al {F : Nat → Prop} {a w : World} (h : Onl F a w) (o : Obj) : Onl F a (w.alloc o) := h.on (Below.al (Below.refl _ _) o)
theorem Onl.drew {F : Nat → Prop} {a w : World} (h : Onl F a w) : Onl F a w.drew := ⟨h.os, h.tape, h.output, h.size, h.block⟩
theorem Onl.set {F : Nat → Prop} {a w : World} (h : Onl F a w) {p : Nat} (hp : F p) (o : Nat) (v : Value) : Onl F a (w.setCell ⟨p, o, none⟩ v) :=
  h.trans ⟨rfl, rfl, rfl, by simp [World.setCell], fun k _ hn => Below.heap_setCell _ _ _ _ (by show k ≠ p; exact fun e => hn (e ▸ hp))⟩
/-- a store into a block that is new -/
theorem Onl.setNew {F : Nat → Prop} {a w : World} (h : Onl F a w) {q : Nat} (hq : a.heap.size ≤ q) (o : Nat) (v : Value) : Onl F a (w.setCell ⟨q, o, none⟩ v) :=
  ⟨h.os, h.tape, h.output, by simpa [World.setCell] using h.size, fun k hk hn => (Below.heap_setCell _ _ _ _ (by show k ≠ q; omega)).trans (h.block k hk hn)⟩
theorem Onl.below {F : Nat → Prop} {B : Nat} {w w' : World} (h : Onl F w w') (hF : ∀ k, F k → B ≤ k) (hB : B ≤ w.heap.size) : Below B w w' :=
  ⟨h.os, h.tape, h.output, h.size, fun k hk => h.block k (by omega) (fun hf => by have := hF k hf; omega)⟩
theorem Onl.cell {F : Nat → Prop} {b o : Nat} {w w' : World} {v : Value} (h : Onl F w w') (hb : ¬ F b) (k : w.cell? ⟨b, o, none⟩ = some v) : w'.cell? ⟨b, o, none⟩ = some v := by
  rw [← k]; exact World.cell?_of_block (a := ⟨b, o, none⟩) (h.block b (World.block_lt_of_cell? _ _ k) hb)
theorem Onl.loose {F : Nat → Prop} {b : Nat} {w w' : World} (h : Onl F w w') (hb : ¬ F b) (hs : b < w.heap.size) (k : Loose w b) : Loose w' b := fun o => by
  rw [← k o]; exact World.frozen?_of_block (a := ⟨b, o, none⟩) (h.block b hs hb)
/-- what is written is new, or was to be written already -/
theorem Onl.fresh {F G : Nat → Prop} {a b c : World} (h : Onl F a b) (k : Onl G b c) (hg : ∀ i, G i → F i ∨ a.heap.size ≤ i) : Onl F a c :=
  ⟨k.os.trans h.os, k.tape.trans h.tape, k.output.trans h.output, Nat.le_trans h.size k.size, fun i hi hn => (k.block i (Nat.lt_of_lt_of_le hi h.size) (fun hG => by
    rcases hg i hG with h1 | h1
    · exact hn h1
    · omega)).trans (h.block i hi hn)⟩
theorem grown_onl {w w' : World} {r : Option Nat} (h : w.grownBy w' r) : Onl (fun k => r = some k) w w' :=
  ⟨h.os, h.tape, h.output, h.size, fun k hk hn => h.block k hk (fun e => hn e.symm)⟩

/-- a row of one's own stays where its block stays -/
theorem owns_keep {w w' : World} {B size n : Nat} {e : TypeId} {v : Value} {xs : List Value} (h : w.ownsRow B e size v n xs) (hb : ∀ g, v.ownBlock = some g → w'.heap[g]? = w.heap[g]?) : w'.ownsRow B e size v n xs := by
  obtain ⟨h1, h2 | ⟨g, cap, cur, rfl, hg, hh, r⟩⟩ := h
  · exact ⟨h1, .inl h2⟩
  · exact ⟨h1, .inr ⟨g, cap, cur, rfl, hg, by rw [hb g rfl]; exact hh, r⟩⟩
theorem owns_onl {w w' : World} {F : Nat → Prop} {B size n : Nat} {e : TypeId} {v : Value} {xs : List Value} (h : w.ownsRow B e size v n xs) (ho : Onl F w w') (hF : ∀ g, v.ownBlock = some g → ¬ F g) : w'.ownsRow B e size v n xs :=
  owns_keep h fun g hg => ho.block g (h.lt g hg).2 (hF g hg)
theorem owns_zero {w : World} {B size n : Nat} {e : TypeId} {v : Value} {xs : List Value} (h : w.ownsRow B e size v n xs) : w.ownsRow 0 e size v n xs := by
  obtain ⟨h1, h2 | ⟨g, cap, cur, hv, hg, r⟩⟩ := h
  · exact ⟨h1, .inl h2⟩
  · exact ⟨h1, .inr ⟨g, cap, cur, hv, Nat.zero_le _, r⟩⟩
theorem owns_slice {w : World} {B size n : Nat} {e : TypeId} {v : Value} {xs : List Value} (h : w.ownsRow B e size v n xs) : ∃ a c, v = .slice a n c := by
  obtain ⟨h1, ⟨rfl, rfl⟩ | ⟨g, cap, cur, rfl, r⟩⟩ := h
  · exact ⟨none, 0, rfl⟩
  · exact ⟨_, cap, rfl⟩

theorem Loose.setc {w : World} {p : Nat} (h : Loose w p) (a : Addr) (v : Value) : Loose (w.setCell a v) p := fun o => by
  rw [World.frozen?_setCell]; exact h o
theorem cell_setc {w : World} {a b : Addr} {v u : Value} (hne : b ≠ a) (h : w.cell? b = some u) : (w.setCell a v).cell? b = some u := by
  rw [World.cell?_setCell_other _ _ _ _ (fun e => hne e.symm), h]

end Go.Proofs.YthenfioddnkjbaaGreatDoor
