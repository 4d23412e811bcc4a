import Derived.Test.YtfafkohghgliaaaBase0
import Derived.OwnWalk
import Derived.Laws.OwnMore
import Derived.Deep.AppendLies
import Derived.Deep.RegionLaw
/- What may have changed: a set of blocks; rows of one's own. No program of ours. -/
namespace Go.Proofs.Ytfafkohghgliaaa
open Go.RowKit Go.Sort
set_option linter.unusedVariables false

/-- of what was there, only the blocks of F may have changed -/
structure Onl (F : Nat → Prop) (w w' : World) : Prop where
  os : w'.os = w.os
  tape : w'.tape = w.tape
  output : w'.output = w.output
  size : w.heap.size ≤ w'.heap.size
  block : ∀ k, k < w.heap.size → ¬ F k → w'.heap[k]? = w.heap[k]?
theorem Onl.refl (F : Nat → Prop) (w : World) : Onl F w w := ⟨rfl, rfl, rfl, Nat.le_refl _, fun _ _ _ => rfl⟩
theorem Onl.mono {F G : Nat → Prop} {w w' : World} (h : Onl F w w') (hg : ∀ k, F k → G k) : Onl G w w' := ⟨h.os, h.tape, h.output, h.size, fun k hk hn => h.block k hk (fun hf => hn (hg k hf))⟩
theorem Onl.trans {F : Nat → Prop} {a b c : World} (h : Onl F a b) (k : Onl F b c) : Onl F a c :=
  ⟨k.os.trans h.os, k.tape.trans h.tape, k.output.trans h.output, Nat.le_trans h.size k.size, fun i hi hn => (k.block i (Nat.lt_of_lt_of_le hi h.size) hn).trans (h.block i hi hn)⟩
theorem Onl.of_below {F : Nat → Prop} {w w' : World} (h : Below w.heap.size w w') : Onl F w w' := ⟨h.os, h.tape, h.output, h.size, fun k hk _ => h.block k hk⟩
theorem Onl.on {F : Nat → Prop} {a w w' : World} (h : Onl F a w) (k : Below w.heap.size w w') : Onl F a w' := h.trans (Onl.of_below k)
theorem Onl.al {F : Nat → Prop} {a w : World} (h : Onl F a w) (o : Obj) : Onl F a (w.alloc o) := h.on (Below.al (Below.refl _ _) o)
theorem Onl.drew {F : Nat → Prop} {a w : World} (h : Onl F a w) : Onl F a w.drew := ⟨h.os, h.tape, h.output, h.size, h.block⟩
theorem Onl.set {F : Nat → Prop} {a w : World} (h : Onl F a w) {p : Nat} (hp : F p) (o : Nat) (v : Value) : Onl F a (w.setCell ⟨p, o, none⟩ v) :=
  h.trans ⟨rfl, rfl, rfl, by simp [World.setCell], fun k _ hn => Below.heap_setCell _ _ _ _ (by show k ≠ p; exact fun e => hn (e ▸ hp))⟩
/-- a store into a block that is new -/
theorem Onl.setNew {F : Nat → Prop} {a w : World} (h : Onl F a w) {q : Nat} (hq : a.heap.size ≤ q) (o : Nat) (v : Value) : Onl F a (w.setCell ⟨q, o, none⟩ v) :=
  ⟨h.os, h.tape, h.output, by simpa [World.setCell] using h.size, fun k hk hn => (Below.heap_setCell _ _ _ _ (by show k ≠ q; omega)).trans (h.block k hk hn)⟩
theorem Onl.below {F : Nat → Prop} {B : Nat} {w w' : World} (h : Onl F w w') (hF : ∀ k, F k → B ≤ k) (hB : B ≤ w.heap.size) : Below B w w' :=
  ⟨h.os, h.tape, h.output, h.size, fun k hk => h.block k (by omega) (fun hf => by have := hF k hf; omega)⟩
theorem Onl.cell {F : Nat → Prop} {b o : Nat} {w w' : World} {v : Value} (h : Onl F w w') (hb : ¬ F b) (k : w.cell? ⟨b, o, none⟩ = some v) : w'.cell? ⟨b, o, none⟩ = some v := by
  rw [← k]; exact World.cell?_of_block (a := ⟨b, o, none⟩) (h.block b (World.block_lt_of_cell? _ _ k) hb)
theorem Onl.loose {F : Nat → Prop} {b : Nat} {w w' : World} (h : Onl F w w') (hb : ¬ F b) (hs : b < w.heap.size) (k : Loose w b) : Loose w' b := fun o => by
  rw [← k o]; exact World.frozen?_of_block (a := ⟨b, o, none⟩) (h.block b hs hb)
/-- what is written is new, or was to be written already -/
theorem Onl.fresh {F G : Nat → Prop} {a b c : World} (h : Onl F a b) (k : Onl G b c) (hg : ∀ i, G i → F i ∨ a.heap.size ≤ i) : Onl F a c :=
  ⟨k.os.trans h.os, k.tape.trans h.tape, k.output.trans h.output, Nat.le_trans h.size k.size, fun i hi hn => (k.block i (Nat.lt_of_lt_of_le hi h.size) (fun hG => by
    rcases hg i hG with h1 | h1
    · exact hn h1
    · omega)).trans (h.block i hi hn)⟩
theorem grown_onl {w w' : World} {r : Option Nat} (h : w.grownBy w' r) : Onl (fun k => r = some k) w w' :=
  ⟨h.os, h.tape, h.output, h.size, fun k hk hn => h.block k hk (fun e => hn e.symm)⟩

/-- a row of one's own stays where its block stays -/
theorem owns_keep {w w' : World} {B size n : Nat} {e : TypeId} {v : Value} {xs : List Value} (h : w.ownsRow B e size v n xs) (hb : ∀ g, v.ownBlock = some g → w'.heap[g]? = w.heap[g]?) : w'.ownsRow B e size v n xs := by
  obtain ⟨h1, h2 | ⟨g, cap, cur, rfl, hg, hh, r⟩⟩ := h
  · exact ⟨h1, .inl h2⟩
  · exact ⟨h1, .inr ⟨g, cap, cur, rfl, hg, by rw [hb g rfl]; exact hh, r⟩⟩
theorem owns_onl {w w' : World} {F : Nat → Prop} {B size n : Nat} {e : TypeId} {v : Value} {xs : List Value} (h : w.ownsRow B e size v n xs) (ho : Onl F w w') (hF : ∀ g, v.ownBlock = some g → ¬ F g) : w'.ownsRow B e size v n xs :=
  owns_keep h fun g hg => ho.block g (h.lt g hg).2 (hF g hg)
theorem owns_zero {w : World} {B size n : Nat} {e : TypeId} {v : Value} {xs : List Value} (h : w.ownsRow B e size v n xs) : w.ownsRow 0 e size v n xs := by
  obtain ⟨h1, h2 | ⟨g, cap, cur, hv, hg, r⟩⟩ := h
  · exact ⟨h1, .inl h2⟩
  · exact ⟨h1, .inr ⟨g, cap, cur, hv, Nat.zero_le _, r⟩⟩
theorem owns_slice {w : World} {B size n : Nat} {e : TypeId} {v : Value} {xs : List Value} (h : w.ownsRow B e size v n xs) : ∃ a c, v = .slice a n c := by
  obtain ⟨h1, ⟨rfl, rfl⟩ | ⟨g, cap, cur, rfl, r⟩⟩ := h
  · exact ⟨none, 0, rfl⟩
  · exact ⟨_, cap, rfl⟩

theorem Loose.setc {w : World} {p : Nat} (h : Loose w p) (a : Addr) (v : Value) : Loose (w.setCell a v) p := fun o => by
  rw [World.frozen?_setCell]; exact h o
theorem cell_setc {w : World} {a b : Addr} {v u : Value} (hne : b ≠ a) (h : w.cell? b = some u) : (w.setCell a v).cell? b = some u := by
  rw [World.cell?_setCell_other _ _ _ _ (fun e => hne e.symm), h]

end Go.Proofs.Ytfafkohghgliaaa
