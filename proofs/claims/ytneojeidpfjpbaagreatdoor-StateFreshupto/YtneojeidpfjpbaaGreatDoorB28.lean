import Derived.Test.YtneojeidpfjpbaaGreatDoorB01
import Derived.Laws.BytesArg
import Derived.Laws.Bits64b
import Derived.Defers
import Derived.Recover
set_option linter.unusedVariables false
namespace Go.Proofs.YtneojeidpfjpbaaGreatDoor
def vb (v : Nat) : List Nat := if v < 128 then [v] else (v % 128 + 128) :: vb (v / 128)
termination_by v
decreasing_by omega
theorem vb_small {v : Nat} (h : v < 128) : vb v = [v] := by rw [vb, if_pos h]
theorem vb_great {v : Nat} (h : ¬ v < 128) : vb v = (v % 128 + 128) :: vb (v / 128) := by rw [vb, if_neg h]
inductive Vr where
 | ok (v : Nat) (r : List Nat)
 | short
 | form
def lim (k : Nat) : Nat := 2 ^ (64 - 7 * k)
theorem lim_next {k v : Nat} (hk : k < 9) (h : v < lim k) : v / 128 < lim (k + 1) := by
 unfold lim at *; rw [Nat.div_lt_iff_lt_mul (by decide), show (128 : Nat) = 2 ^ 7 by rfl, ← Nat.pow_add]; rwa [show 64 - 7 * (k + 1) + 7 = 64 - 7 * k by omega]
theorem lim_nine {v : Nat} : v < lim 9 ↔ v < 2 := by simp [lim]
theorem vb_byte : ∀ (v : Nat), ∀ b ∈ vb v, b < 256 := by
 intro v; induction v using Nat.strongRecOn with
 | ind v ih =>
  intro b hb; by_cases hs : v < 128
  ·rw [vb_small hs] at hb; simp at hb; omega
  ·rw [vb_great hs] at hb; rcases List.mem_cons.1 hb with h | h
   ·omega
   ·exact ih _ (by omega) b h
theorem vb_len : ∀ (v k : Nat), k ≤ 9 → v < lim k → 1 ≤ (vb v).length ∧ (vb v).length ≤ 10 - k := by
 intro v; induction v using Nat.strongRecOn with
 | ind v ih =>
  intro k hk hv; by_cases hs : v < 128
  ·rw [vb_small hs]; simp; omega
  ·have h9 : k ≠ 9 := by
    intro e; subst e
    have := lim_nine.1 hv; omega
   rw [vb_great hs]; have := ih (v / 128) (by omega) (k + 1) (by omega) (lim_next (by omega) hv); simp; omega
inductive Ds where
 | at (s : List Nat)
 | stop (e : Int)
def eText (s : List Nat) : List Nat := vb s.length ++ s
end Go.Proofs.YtneojeidpfjpbaaGreatDoor
namespace Go.Proofs.YtneojeidpfjpbaaGreatDoor.Ig
open Go.Proofs.YtneojeidpfjpbaaGreatDoor
def eL {α : Type} (e : α → List Nat) (l : List α) : List Nat := vb l.length ++ l.flatMap e
section
variable {α β : Type} {t : Ds → α × Ds} {e : α → List Nat} {ok : α → Prop}
theorem vb_ne (v : Nat) : vb v ≠ [] := by
 intro h; rw [vb] at h; split at h <;> cases h
end
end Go.Proofs.YtneojeidpfjpbaaGreatDoor.Ig
namespace Go.Proofs.YtneojeidpfjpbaaGreatDoor
open Go.RowKit Go.Sort
def nums (s : ByteArray) : List Nat := s.data.toList.map UInt8.toNat
def ofNats (l : List Nat) : ByteArray := ⟨(l.map UInt8.ofNat).toArray⟩
def B8 (l : List Nat) : Prop := ∀ b ∈ l, b < 256
theorem nums_length (s : ByteArray) : (nums s).length = s.size := by unfold nums; rw [List.length_map]; rfl
theorem nums_b8 (s : ByteArray) : B8 (nums s) := by
 intro b hb; simp only [nums, List.mem_map] at hb; obtain ⟨x, _, rfl⟩ := hb; exact x.toNat_lt
theorem ofNats_nums (s : ByteArray) : ofNats (nums s) = s := by
 have h : (UInt8.ofNat ∘ UInt8.toNat) = id := by funext x; simp
 cases s with
 | mk a => simp [ofNats, nums, h]
theorem nums_ofNats {l : List Nat} (h : B8 l) : nums (ofNats l) = l := by
 simp only [nums, ofNats, List.map_map]; conv => rhs; rw [← List.map_id l]
 refine List.map_congr_left fun x hx => ?_
 have := h x hx; simp only [Function.comp, id]; exact Nat.mod_eq_of_lt this
theorem ofNats_size (l : List Nat) : (ofNats l).size = l.length := by simp [ofNats, ByteArray.size]
theorem nums_extract (s : ByteArray) (i j : Nat) : nums (s.extract i j) = ((nums s).take j).drop i := by
 simp [nums, List.map_take, List.map_drop, List.drop_take]
theorem B8.append {a b : List Nat} (ha : B8 a) (hb : B8 b) : B8 (a ++ b) := by
 intro x hx; rcases List.mem_append.1 hx with h | h
 ·exact ha x h
 ·exact hb x h
theorem ofNats_extract {l : List Nat} (h : B8 l) (i j : Nat) : (ofNats l).extract i j = ofNats ((l.take j).drop i) := by
 have := nums_extract (ofNats l) i j; rw [nums_ofNats h] at this; rw [← this, ofNats_nums]
theorem strOfNums_nats (l : List Nat) : strOfNums (l.map Int.ofNat) = ofNats l := by
 simp [strOfNums, ofNats]
theorem B8.nil : B8 [] := fun x hx => by simp at hx
theorem B8.one {v : Nat} (h : v < 256) : B8 [v] := fun x hx => by simp at hx; omega
structure Cel (b o n : Nat) (w w' : World) : Prop where
 os : w'.os = w.os
 tape : w'.tape = w.tape
 output : w'.output = w.output
 size : w.heap.size ≤ w'.heap.size
 block : ∀ k, k < w.heap.size → k ≠ b → w'.heap[k]? = w.heap[k]?
 cells : ∀ i, b < w.heap.size → (i < o ∨ o + n ≤ i) → w'.cell? ⟨b, i, none⟩ = w.cell? ⟨b, i, none⟩
 frz : ∀ i, b < w.heap.size → w'.frozen? ⟨b, i, none⟩ = w.frozen? ⟨b, i, none⟩
theorem Cel.refl (b o n : Nat) (w : World) : Cel b o n w w := ⟨rfl, rfl, rfl, Nat.le_refl _, fun _ _ _ => rfl, fun _ _ _ => rfl, fun _ _ => rfl⟩
theorem Cel.trans {b o n : Nat} {w1 w2 w3 : World} (h : Cel b o n w1 w2) (k : Cel b o n w2 w3) : Cel b o n w1 w3 :=
 ⟨k.os.trans h.os, k.tape.trans h.tape, k.output.trans h.output, Nat.le_trans h.size k.size, fun i hi hp => (k.block i (Nat.lt_of_lt_of_le hi h.size) hp).trans (h.block i hi hp),
  fun i hb hi => (k.cells i (Nat.lt_of_lt_of_le hb h.size) hi).trans (h.cells i hb hi), fun i hb => (k.frz i (Nat.lt_of_lt_of_le hb h.size)).trans (h.frz i hb)⟩
theorem Cel.of_below {b o n : Nat} {w w' : World} (h : Below w.heap.size w w') : Cel b o n w w' :=
 ⟨h.os, h.tape, h.output, h.size, fun k hk _ => h.block k hk, fun i hb _ => h.cell (p := ⟨b, i, none⟩) hb, fun i hb => h.frozen (p := ⟨b, i, none⟩) hb⟩
theorem Cel.on {b o n : Nat} {a w w' : World} (h : Cel b o n a w) (k : Below w.heap.size w w') : Cel b o n a w' := h.trans (Cel.of_below k)
theorem Cel.al {b o n : Nat} {a w : World} (h : Cel b o n a w) (x : Obj) : Cel b o n a (w.alloc x) := h.on (Below.al (Below.refl _ _) x)
theorem Cel.set {b o n : Nat} {a w : World} (h : Cel b o n a w) (i : Nat) (hi : o ≤ i ∧ i < o + n) (v : Value) : Cel b o n a (w.setCell ⟨b, i, none⟩ v) :=
 h.trans ⟨rfl, rfl, rfl, by simp [World.setCell], fun k _ hp => Below.heap_setCell _ _ _ _ hp, fun j _ hj => World.cell?_setCell_other _ _ _ _ (fun e => by have := congrArg Addr.off e; dsimp only at this; omega), fun j _ => World.frozen?_setCell _ _ _ _⟩
theorem Cel.cell {b o n c i : Nat} {w w' : World} {v : Value} (h : Cel b o n w w') (hc : c ≠ b ∨ i < o ∨ o + n ≤ i) (k : w.cell? ⟨c, i, none⟩ = some v) : w'.cell? ⟨c, i, none⟩ = some v := by
 have hl := World.block_lt_of_cell? _ _ k; by_cases hb : c = b
 ·subst hb; rw [← k]; exact h.cells i hl (by omega)
 ·rw [← k]; exact World.cell?_of_block (a := ⟨c, i, none⟩) (h.block c hl hb)
theorem Cel.loose {b o n c : Nat} {w w' : World} (h : Cel b o n w w') (hs : c < w.heap.size) (k : Loose w c) : Loose w' c := fun i => by
 by_cases hb : c = b
 ·subst hb; rw [← k i]; exact h.frz i hs
 ·rw [← k i]; exact World.frozen?_of_block (a := ⟨c, i, none⟩) (h.block c hs hb)
theorem Cel.below {b o n B : Nat} {w w' : World} (h : Cel b o n w w') (hb : B ≤ b) (hB : B ≤ w.heap.size) : Below B w w' :=
 ⟨h.os, h.tape, h.output, h.size, fun k hk => h.block k (by omega) (by omega)⟩
def ptrOf : List (Nat × List Nat) → Value
 | [] => .pointer none
 | (g, _) :: _ => .pointer (some ⟨g, 0, none⟩)
def Chain (w : World) : List (Nat × List Nat) → Prop
 | [] => True
 | (g, t) :: r => w.cell? ⟨g, 0, none⟩ = some (ptrOf r) ∧ w.cell? ⟨g, 1, none⟩ = some (.string (ofNats t)) ∧ B8 t ∧ Chain w r
def total : List (Nat × List Nat) → List Nat
 | [] => []
 | (_, t) :: r => total r ++ t
structure EncAt (w : World) (A : Nat → Prop) (b o : Nat) (bs : List Nat) : Prop where
 self : A b
 ex : ∃ cs, total cs = bs ∧ Chain w cs ∧ (∀ x ∈ cs, ¬ A x.1) ∧ w.cell? ⟨b, o, none⟩ = some (ptrOf cs)
 size : w.cell? ⟨b, o + 1, none⟩ = some (.int .i64 bs.length)
 loose : Loose w b
theorem Chain.keep {w w' : World} {A : Nat → Prop} : ∀ {cs : List (Nat × List Nat)}, Chain w cs → (∀ x ∈ cs, ¬ A x.1) → (∀ k i v, ¬ A k → w.cell? ⟨k, i, none⟩ = some v → w'.cell? ⟨k, i, none⟩ = some v) → Chain w' cs
 | [], _, _, _ => trivial
 | (g, t) :: r, ⟨h1, h2, h3, h4⟩, hA, hk => by
  have hg : ¬ A g := hA (g, t) (by simp); exact ⟨hk _ _ _ hg h1, hk _ _ _ hg h2, h3, Chain.keep h4 (fun x hx => hA x (by simp [hx])) hk⟩
theorem Chain.b8 {w : World} : ∀ {cs : List (Nat × List Nat)}, Chain w cs → B8 (total cs)
 | [], _ => B8.nil
 | (_, _) :: _, ⟨_, _, h3, h4⟩ => (Chain.b8 h4).append h3
theorem EncAt.lt {w : World} {A : Nat → Prop} {b o : Nat} {bs : List Nat} (h : EncAt w A b o bs) : b < w.heap.size := World.block_lt_of_cell? _ _ h.size
theorem EncAt.b8 {w : World} {A : Nat → Prop} {b o : Nat} {bs : List Nat} (h : EncAt w A b o bs) : B8 bs := by
 obtain ⟨cs, rfl, hc, _⟩ := h.ex; exact hc.b8
theorem EncAt.later {w w' : World} {A : Nat → Prop} {b o : Nat} {bs : List Nat} (h : EncAt w A b o bs) (k : Below w.heap.size w w') : EncAt w' A b o bs := by
 obtain ⟨cs, ht, hch, hA, hp⟩ := h.ex; exact ⟨h.self, ⟨cs, ht, hch.keep hA (fun q i v hq hv => cell_later k hv), hA, cell_later k hp⟩, cell_later k h.size, h.loose.later k h.lt⟩
theorem or128_fin : ∀ x : Fin 256, bits .or .u8 ((x.val : Nat) : Int) 128 = ((x.val % 128 + 128 : Nat) : Int) := by decide +kernel
theorem or128 (x : Nat) (h : x < 256) : bits .or .u8 (x : Int) 128 = ((x % 128 + 128 : Nat) : Int) := or128_fin ⟨x, h⟩
end Go.Proofs.YtneojeidpfjpbaaGreatDoor
