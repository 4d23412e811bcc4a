import Derived.Test.YtneojeidpfjpbaaGreatDoorRows
import Derived.WalkKit
import Derived.WalkLawsBesides
import Derived.Below
import Derived.Outline
import Derived.BigRegion
import Derived.BigQuiet
import Derived.Lib.QuietBelow
import Derived.Deep.QuietTactic
import Derived.Deep.DeepCutAuto
import Derived.WalkSpells
import Derived.Deep.RegionHeld3
import Derived.Deep.LoopGhost
import Derived.OwnWalk
import Derived.Laws.OwnMore
import Derived.Deep.AppendLies
import Derived.Deep.RegionLaw
import Derived.Laws.Strings
import Derived.Laws.StructEq
import Derived.Handy
set_option linter.unusedVariables false
namespace Go.Proofs.YtneojeidpfjpbaaGreatDoor
def lessB (a b c x y z : Int) : Bool := if a = x then (if b = y then decide (c < z) else decide (b < y)) else decide (a < x)
def sameB (a b c x y z : Int) : Bool := (a == x) && ((b == y) && (c == z))
theorem sameB_self (a b c : Int) : sameB a b c a b c = true := by simp [sameB]
theorem lessB_iff {a b c x y z : Int} : lessB a b c x y z = true ↔ a < x ∨ (a = x ∧ (b < y ∨ (b = y ∧ c < z))) := by
 unfold lessB; by_cases h1 : a = x
 ·by_cases h2 : b = y
  ·simp [h1, h2]
  ·simp [h1, h2]
 ·simp [h1]
theorem lessB_iff_false {a b c x y z : Int} : lessB a b c x y z = false ↔ ¬ (a < x ∨ (a = x ∧ (b < y ∨ (b = y ∧ c < z)))) := by
 rw [← lessB_iff]; simp
theorem less_irr (a b c : Int) : lessB a b c a b c = false := by simp [lessB]
theorem less_trans {a b c x y z r s t : Int} (h : lessB a b c x y z = true) (k : lessB x y z r s t = true) : lessB a b c r s t = true := by
 rw [lessB_iff] at *; omega
open Go.RowKit Go.Sort
abbrev stv (a b c : Int) : Value := .agg #[.int .u64 a, .int .u32 b, .int .u32 c]
def StampAt (w : World) (p : Nat) (a b c : Int) : Prop :=
 w.cell? ⟨p, 0, none⟩ = some (.int .u64 a) ∧ w.cell? ⟨p, 1, none⟩ = some (.int .u32 b) ∧ w.cell? ⟨p, 2, none⟩ = some (.int .u32 c)
theorem StampAt.later {w w' : World} {p : Nat} {a b c : Int} (h : StampAt w p a b c) (hb : Below w.heap.size w w') : StampAt w' p a b c :=
 ⟨cell_later hb h.1, cell_later hb h.2.1, cell_later hb h.2.2⟩
theorem below_of_regrown {w w' : World} (h : ∃ p : Regrown, w' = grow (redrawn w p.d) p.os) : Below w.heap.size w w' := by
 obtain ⟨p, rfl⟩ := h; exact below_regrown _ _ _
theorem Below.on {w0 w w' : World} (h : Below w0.heap.size w0 w) (k : Below w.heap.size w w') : Below w0.heap.size w0 w' := h.trans (k.mono h.size)
theorem Below.al {w0 w : World} (h : Below w0.heap.size w0 w) (o : Obj) : Below w0.heap.size w0 (w.alloc o) := h.alloc h.size o
theorem bcell {W w1 : World} (hb : Below W.heap.size W w1) : (∀ b o, b < W.heap.size → w1.cell? ⟨b, o, none⟩ = W.cell? ⟨b, o, none⟩) ∧ (∀ b o, b < W.heap.size → w1.frozen? ⟨b, o, none⟩ = W.frozen? ⟨b, o, none⟩) :=
 ⟨fun b o h => hb.cell (p := ⟨b, o, none⟩) h, fun b o h => hb.frozen (p := ⟨b, o, none⟩) h⟩
theorem hid {p : Prop} (h : p) : Hid p := h
def Loose (w : World) (p : Nat) : Prop := ∀ o, w.frozen? ⟨p, o, none⟩ = false
theorem Loose.later {w w' : World} {p : Nat} (h : Loose w p) (hb : Below w.heap.size w w') (hp : p < w.heap.size) : Loose w' p := fun o =>
 (hb.frozen (p := ⟨p, o, none⟩) hp).trans (h o)
open Go.RowKit Go.Sort
structure Onl (F : Nat → Prop) (w w' : World) : Prop where
 os : w'.os = w.os
 tape : w'.tape = w.tape
 output : w'.output = w.output
 size : w.heap.size ≤ w'.heap.size
 block : ∀ k, k < w.heap.size → ¬ F k → w'.heap[k]? = w.heap[k]?
theorem Onl.refl (F : Nat → Prop) (w : World) : Onl F w w := ⟨rfl, rfl, rfl, Nat.le_refl _, fun _ _ _ => rfl⟩
theorem Onl.mono {F G : Nat → Prop} {w w' : World} (h : Onl F w w') (hg : ∀ k, F k → G k) : Onl G w w' := ⟨h.os, h.tape, h.output, h.size, fun k hk hn => h.block k hk (fun hf => hn (hg k hf))⟩
theorem Onl.trans {F : Nat → Prop} {a b c : World} (h : Onl F a b) (k : Onl F b c) : Onl F a c :=
 ⟨k.os.trans h.os, k.tape.trans h.tape, k.output.trans h.output, Nat.le_trans h.size k.size, fun i hi hn => (k.block i (Nat.lt_of_lt_of_le hi h.size) hn).trans (h.block i hi hn)⟩
theorem Onl.of_below {F : Nat → Prop} {w w' : World} (h : Below w.heap.size w w') : Onl F w w' := ⟨h.os, h.tape, h.output, h.size, fun k hk _ => h.block k hk⟩
theorem Onl.on {F : Nat → Prop} {a w w' : World} (h : Onl F a w) (k : Below w.heap.size w w') : Onl F a w' := h.trans (Onl.of_below k)
theorem Onl.al {F : Nat → Prop} {a w : World} (h : Onl F a w) (o : Obj) : Onl F a (w.alloc o) := h.on (Below.al (Below.refl _ _) o)
theorem Onl.drew {F : Nat → Prop} {a w : World} (h : Onl F a w) : Onl F a w.drew := ⟨h.os, h.tape, h.output, h.size, h.block⟩
theorem Onl.set {F : Nat → Prop} {a w : World} (h : Onl F a w) {p : Nat} (hp : F p) (o : Nat) (v : Value) : Onl F a (w.setCell ⟨p, o, none⟩ v) :=
 h.trans ⟨rfl, rfl, rfl, by simp [World.setCell], fun k _ hn => Below.heap_setCell _ _ _ _ (by show k ≠ p; exact fun e => hn (e ▸ hp))⟩
theorem Onl.below {F : Nat → Prop} {B : Nat} {w w' : World} (h : Onl F w w') (hF : ∀ k, F k → B ≤ k) (hB : B ≤ w.heap.size) : Below B w w' :=
 ⟨h.os, h.tape, h.output, h.size, fun k hk => h.block k (by omega) (fun hf => by have := hF k hf; omega)⟩
theorem Onl.cell {F : Nat → Prop} {b o : Nat} {w w' : World} {v : Value} (h : Onl F w w') (hb : ¬ F b) (k : w.cell? ⟨b, o, none⟩ = some v) : w'.cell? ⟨b, o, none⟩ = some v := by
 rw [← k]; exact World.cell?_of_block (a := ⟨b, o, none⟩) (h.block b (World.block_lt_of_cell? _ _ k) hb)
theorem Onl.loose {F : Nat → Prop} {b : Nat} {w w' : World} (h : Onl F w w') (hb : ¬ F b) (hs : b < w.heap.size) (k : Loose w b) : Loose w' b := fun o => by
 rw [← k o]; exact World.frozen?_of_block (a := ⟨b, o, none⟩) (h.block b hs hb)
theorem Onl.fresh {F G : Nat → Prop} {a b c : World} (h : Onl F a b) (k : Onl G b c) (hg : ∀ i, G i → F i ∨ a.heap.size ≤ i) : Onl F a c :=
 ⟨k.os.trans h.os, k.tape.trans h.tape, k.output.trans h.output, Nat.le_trans h.size k.size, fun i hi hn => (k.block i (Nat.lt_of_lt_of_le hi h.size) (fun hG => by
  rcases hg i hG with h1 | h1
  ·exact hn h1
  ·omega)).trans (h.block i hi hn)⟩
theorem grown_onl {w w' : World} {r : Option Nat} (h : w.grownBy w' r) : Onl (fun k => r = some k) w w' :=
 ⟨h.os, h.tape, h.output, h.size, fun k hk hn => h.block k hk (fun e => hn e.symm)⟩
theorem owns_keep {w w' : World} {B size n : Nat} {e : TypeId} {v : Value} {xs : List Value} (h : w.ownsRow B e size v n xs) (hb : ∀ g, v.ownBlock = some g → w'.heap[g]? = w.heap[g]?) : w'.ownsRow B e size v n xs := by
 obtain ⟨h1, h2 | ⟨g, cap, cur, rfl, hg, hh, r⟩⟩ := h
 ·exact ⟨h1, .inl h2⟩
 ·exact ⟨h1, .inr ⟨g, cap, cur, rfl, hg, by rw [hb g rfl]; exact hh, r⟩⟩
theorem owns_slice {w : World} {B size n : Nat} {e : TypeId} {v : Value} {xs : List Value} (h : w.ownsRow B e size v n xs) : ∃ a c, v = .slice a n c := by
 obtain ⟨h1, ⟨rfl, rfl⟩ | ⟨g, cap, cur, rfl, r⟩⟩ := h
 ·exact ⟨none, 0, rfl⟩
 ·exact ⟨_, cap, rfl⟩
theorem Loose.setc {w : World} {p : Nat} (h : Loose w p) (a : Addr) (v : Value) : Loose (w.setCell a v) p := fun o => by
 rw [World.frozen?_setCell]; exact h o
theorem cell_setc {w : World} {a b : Addr} {v u : Value} (hne : b ≠ a) (h : w.cell? b = some u) : (w.setCell a v).cell? b = some u := by
 rw [World.cell?_setCell_other _ _ _ _ (fun e => hne e.symm), h]
open Go.RowKit Go.Sort
theorem ret_bool {x u : Bool} (h : x = u) : Ending.returned (.bool x) = Ending.returned (.bool u) := h ▸ rfl
abbrev T2 := ByteArray × ByteArray
structure Wr where
 key : ByteArray
 del : Bool
 val : ByteArray
def ltS (a b : ByteArray) : Bool := Op.bytesLess a.toList b.toList
def emS (a : ByteArray) : Bool := a.toList.isEmpty
theorem em_size (a : ByteArray) : emS a = decide (a.size = 0) := by
 rw [emS, ByteArray.toList_eq, Bool.eq_iff_iff]; simp only [List.isEmpty_iff, decide_eq_true_eq, ByteArray.size]; cases h : a.data with
 | mk l => cases l <;> simp_all
theorem toList_empty : (ByteArray.mk #[]).toList = ([] : List UInt8) := by rw [ByteArray.toList_eq]
theorem leq_less : ∀ a b : List UInt8, (Op.bytesLess a b || a == b) = !Op.bytesLess b a
 | [], [] => rfl
 | [], _ :: _ => rfl
 | _ :: _, [] => rfl
 | a :: x, b :: y => by
  have ih := leq_less x y; rw [Op.bytesLess, Op.bytesLess]; rcases Nat.lt_trichotomy a.toNat b.toNat with h | h | h
  ·have h1 : a < b := h; have h2 : ¬ b < a := by show ¬ b.toNat < a.toNat; omega
   have h3 : (b == a) = false := beq_eq_false_iff_ne.2 (fun e => by subst e; omega); simp [h1, h2, h3]
  ·obtain rfl : a = b := UInt8.toNat.inj h; have h2 : ¬ a < a := by show ¬ a.toNat < a.toNat; omega
   simp [h2]; simpa using ih
  ·have h1 : b < a := h; have h2 : ¬ a < b := by show ¬ a.toNat < b.toNat; omega
   have h3 : (a == b) = false := beq_eq_false_iff_ne.2 (fun e => by subst e; omega); simp [h1, h2, h3]
def nth2 (xs : List T2) (i : Nat) : T2 := (xs[i]?).getD (⟨#[]⟩, ⟨#[]⟩)
def nthW (xs : List Wr) (i : Nat) : Wr := (xs[i]?).getD ⟨⟨#[]⟩, false, ⟨#[]⟩⟩
def Row2 (w : World) (a : Option Addr) (xs : List T2) : Prop :=
 ∀ i, i < xs.length → ∃ b off, a = some ⟨b, off, none⟩ ∧ w.cell? ⟨b, off + i * 2, none⟩ = some (.string (nth2 xs i).1) ∧ w.cell? ⟨b, off + i * 2 + 1, none⟩ = some (.string (nth2 xs i).2)
def RowW (w : World) (a : Option Addr) (xs : List Wr) : Prop :=
 ∀ i, i < xs.length → ∃ b off, a = some ⟨b, off, none⟩ ∧ w.cell? ⟨b, off + i * 3, none⟩ = some (.string (nthW xs i).key) ∧ w.cell? ⟨b, off + i * 3 + 1, none⟩ = some (.bool (nthW xs i).del) ∧ w.cell? ⟨b, off + i * 3 + 2, none⟩ = some (.string (nthW xs i).val)
theorem Row2.later {w w' : World} {a : Option Addr} {xs : List T2} (h : Row2 w a xs) (hb : Below w.heap.size w w') : Row2 w' a xs := fun i hi => by
 obtain ⟨b, off, e, h0, h1⟩ := h i hi; exact ⟨b, off, e, cell_later hb h0, cell_later hb h1⟩
theorem RowW.later {w w' : World} {a : Option Addr} {xs : List Wr} (h : RowW w a xs) (hb : Below w.heap.size w w') : RowW w' a xs := fun i hi => by
 obtain ⟨b, off, e, h0, h1, h2⟩ := h i hi; exact ⟨b, off, e, cell_later hb h0, cell_later hb h1, cell_later hb h2⟩
theorem nthW_take {xs : List Wr} {k : Nat} (h : k < xs.length) : xs.take (k + 1) = xs.take k ++ [nthW xs k] := by
 rw [List.take_succ_eq_append_getElem h]; simp [nthW, h]
def allB (p : Nat → Bool) : Nat → Bool
 | 0 => true
 | n + 1 => allB p n && p n
theorem allB_no {p : Nat → Bool} {k : Nat} (h : p k = false) : ∀ n, k < n → allB p n = false
 | 0, hn => by omega
 | n + 1, hn => by
  by_cases e : k = n
  ·subst e; rw [allB, h, Bool.and_false]
  ·rw [allB, allB_no h n (by omega), Bool.false_and]
theorem allB_yes {p : Nat → Bool} {k : Nat} (h : allB p k = true) (h' : p k = true) : allB p (k + 1) = true := by rw [allB, h, h']; rfl
def keyOk (last key : ByteArray) : Bool := ltS last key && decide (key.size ≤ 32)
def prevW (xs : List Wr) (i : Nat) : ByteArray := if i = 0 then ⟨#[]⟩ else (nthW xs (i - 1)).key
theorem prevW_succ (xs : List Wr) (i : Nat) : prevW xs (i + 1) = (nthW xs i).key := by simp [prevW]
def writeAt (xs : List Wr) (i : Nat) : Bool := keyOk (prevW xs i) (nthW xs i).key && decide ((nthW xs i).val.size ≤ 64) && !((nthW xs i).del && !emS (nthW xs i).val)
def writesOk (xs : List Wr) : Bool := decide (xs.length ≤ 16) && allB (writeAt xs) xs.length
end Go.Proofs.YtneojeidpfjpbaaGreatDoor
namespace Go.Proofs.YtneojeidpfjpbaaGreatDoor.Lk
open Go.RowKit Go.Sort
abbrev Ix := Int × Int
structure Hd where
 id : Ix
 home : Int
 w : Int
 l : Int
 n : Int
 rs : List T2
 ws : List Wr
theorem nodup_inj {α β : Type} {f : α → β} : ∀ {l : List α}, (l.map f).Nodup → ∀ {a b : α}, a ∈ l → b ∈ l → f a = f b → a = b
 | [], _, a, b, ha, _, _ => by simp at ha
 | x :: l, h, a, b, ha, hb, e => by
  rw [List.map_cons, List.nodup_cons] at h; rcases List.mem_cons.1 ha with h1 | h1
  ·rcases List.mem_cons.1 hb with h2 | h2
   ·rw [h1, h2]
   ·exact absurd (List.mem_map.2 ⟨b, h2, by rw [← e, h1]⟩) h.1
  ·rcases List.mem_cons.1 hb with h2 | h2
   ·exact absurd (List.mem_map.2 ⟨a, h1, by rw [e, h2]⟩) h.1
   ·exact nodup_inj h.2 h1 h2 e
def insB (k : ByteArray) (s : T2) : Bool := !ltS k s.1 && (emS s.2 || ltS k s.2)
def withinB (k : ByteArray) (rs : List T2) : Bool := rs.any (insB k)
def anyB (ws : List Wr) (rs : List T2) : Bool := ws.any (fun x => withinB x.key rs)
def sameK (a b : ByteArray) : Bool := decide (a = b)
def commonB (a b : List Wr) : Bool := a.any (fun x => b.any (fun y => sameK x.key y.key))
def meetB (rs : List T2) (ws : List Wr) (h : Hd) : Bool := commonB ws h.ws || anyB ws h.rs || anyB h.ws rs
def confl (M : List Hd) (i : Ix) (rs : List T2) (ws : List Wr) : Bool := M.any (fun h => !decide (h.id = i) && meetB rs ws h)
abbrev It := List (ByteArray × Ix)
structure Ok (M : List Hd) (I : It) : Prop where
 ids : (M.map Hd.id).Nodup
 keys : (I.map (·.1)).Nodup
 tie : ∀ k i, (k, i) ∈ I ↔ ∃ h ∈ M, h.id = i ∧ ∃ x ∈ h.ws, x.key = k
 apart : M.Pairwise (fun a b => meetB a.rs a.ws b = false)
def readsMeet (I : It) (i : Ix) (rs : List T2) : Bool := I.any (fun p => !decide (p.2 = i) && withinB p.1 rs)
def writesMeet (M : List Hd) (I : It) (i : Ix) (ws : List Wr) : Bool :=
 ws.any (fun x => I.any (fun p => sameK p.1 x.key && !decide (p.2 = i))) || M.any (fun h => !decide (h.id = i) && anyB ws h.rs)
theorem sameK_eq {a b : ByteArray} : sameK a b = true ↔ a = b := by simp [sameK]
theorem meet_iff {rs : List T2} {ws : List Wr} {h : Hd} : meetB rs ws h = true ↔
  (∃ x ∈ ws, ∃ y ∈ h.ws, x.key = y.key) ∨ (∃ x ∈ ws, ∃ s ∈ h.rs, insB x.key s = true) ∨ (∃ y ∈ h.ws, ∃ s ∈ rs, insB y.key s = true) := by
 simp only [meetB, commonB, anyB, withinB, Bool.or_eq_true, List.any_eq_true, sameK_eq, or_assoc]
theorem meet_symm {a b : Hd} : meetB a.rs a.ws b = meetB b.rs b.ws a := by
 rw [Bool.eq_iff_iff, meet_iff, meet_iff]; constructor
 ·rintro (⟨x, hx, y, hy, e⟩ | ⟨x, hx, s, hs, e⟩ | ⟨y, hy, s, hs, e⟩)
  ·exact .inl ⟨y, hy, x, hx, e.symm⟩
  ·exact .inr (.inr ⟨x, hx, s, hs, e⟩)
  ·exact .inr (.inl ⟨y, hy, s, hs, e⟩)
 ·rintro (⟨x, hx, y, hy, e⟩ | ⟨x, hx, s, hs, e⟩ | ⟨y, hy, s, hs, e⟩)
  ·exact .inl ⟨y, hy, x, hx, e.symm⟩
  ·exact .inr (.inr ⟨x, hx, s, hs, e⟩)
  ·exact .inr (.inl ⟨y, hy, s, hs, e⟩)
theorem confl_eq {M : List Hd} {I : It} (ok : Ok M I) (i : Ix) (rs : List T2) (ws : List Wr) : (readsMeet I i rs || writesMeet M I i ws) = confl M i rs ws := by
 rw [Bool.eq_iff_iff]; simp only [readsMeet, writesMeet, confl, Bool.or_eq_true, List.any_eq_true, Bool.and_eq_true, Bool.not_eq_true', decide_eq_false_iff_not, sameK_eq, meet_iff]; constructor
 ·rintro (⟨⟨k, j⟩, hp, hne, hw⟩ | ⟨x, hx, ⟨k, j⟩, hp, hk, hne⟩ | ⟨h, hh, hne, ha⟩)
  ·obtain ⟨h, hh, rfl, y, hy, rfl⟩ := (ok.tie k j).1 hp; simp only [withinB, List.any_eq_true] at hw; exact ⟨h, hh, hne, .inr (.inr ⟨y, hy, hw⟩)⟩
  ·obtain ⟨h, hh, rfl, y, hy, rfl⟩ := (ok.tie k j).1 hp; exact ⟨h, hh, hne, .inl ⟨x, hx, y, hy, hk.symm⟩⟩
  ·simp only [anyB, withinB, List.any_eq_true] at ha; exact ⟨h, hh, hne, .inr (.inl ha)⟩
 ·rintro ⟨h, hh, hne, ⟨x, hx, y, hy, e⟩ | ⟨x, hx, s, hs, e⟩ | ⟨y, hy, s, hs, e⟩⟩
  ·exact .inr (.inl ⟨x, hx, (y.key, h.id), (ok.tie _ _).2 ⟨h, hh, rfl, y, hy, rfl⟩, e.symm, hne⟩)
  ·refine .inr (.inr ⟨h, hh, hne, ?_⟩); simp only [anyB, withinB, List.any_eq_true]; exact ⟨x, hx, s, hs, e⟩
  ·refine .inl ⟨(y.key, h.id), (ok.tie _ _).2 ⟨h, hh, rfl, y, hy, rfl⟩, hne, ?_⟩; simp only [withinB, List.any_eq_true]; exact ⟨s, hs, e⟩
def putA {α β : Type} [DecidableEq α] (I : List (α × β)) (k : α) (v : β) : List (α × β) :=
 if k ∈ I.map (·.1) then I.map (fun p => if p.1 = k then (k, v) else p) else I ++ [(k, v)]
def dropA {α β : Type} [DecidableEq α] (I : List (α × β)) (k : α) : List (α × β) := I.filter (fun p => !decide (p.1 = k))
theorem putA_keys {α β : Type} [DecidableEq α] {I : List (α × β)} (h : (I.map (·.1)).Nodup) (k : α) (v : β) : ((putA I k v).map (·.1)).Nodup := by
 unfold putA; split
 ·rw [List.map_map]; have : ((·.1) ∘ fun p : α × β => if p.1 = k then (k, v) else p) = (·.1) := by
   funext p
   by_cases e : p.1 = k <;> simp [e]
  rw [this]; exact h
 ·rename_i hn; rw [List.map_append, List.nodup_append]; refine ⟨h, by simp, ?_⟩; intro a ha b hb; simp at hb; subst hb; intro e; subst e; exact hn ha
theorem putA_mem {α β : Type} [DecidableEq α] {I : List (α × β)} (k : α) (v : β) (k' : α) (v' : β) : (k', v') ∈ putA I k v ↔ (k' = k ∧ v' = v) ∨ (k' ≠ k ∧ (k', v') ∈ I) := by
 unfold putA; split
 ·rename_i hm; rw [List.mem_map]; constructor
  ·rintro ⟨⟨a, b⟩, hp, e⟩; by_cases ha : a = k
   ·simp [ha] at e; exact .inl ⟨e.1.symm, e.2.symm⟩
   ·simp [ha] at e; obtain ⟨rfl, rfl⟩ := e; exact .inr ⟨ha, hp⟩
  ·rintro (⟨rfl, rfl⟩ | ⟨hne, hp⟩)
   ·obtain ⟨⟨a, b⟩, hp, e⟩ := List.mem_map.1 hm; exact ⟨(a, b), hp, by simp at e; simp [e]⟩
   ·exact ⟨(k', v'), hp, by simp [hne]⟩
 ·rename_i hm; rw [List.mem_append]; constructor
  ·rintro (hp | hp)
   ·refine .inr ⟨fun e => hm ?_, hp⟩; subst e; exact List.mem_map.2 ⟨_, hp, rfl⟩
   ·simp at hp; exact .inl hp
  ·rintro (⟨rfl, rfl⟩ | ⟨_, hp⟩)
   ·exact .inr (by simp)
   ·exact .inl hp
theorem dropA_keys {α β : Type} [DecidableEq α] {I : List (α × β)} (h : (I.map (·.1)).Nodup) (k : α) : ((dropA I k).map (·.1)).Nodup :=
 h.sublist (List.filter_sublist.map _)
theorem dropA_mem {α β : Type} [DecidableEq α] {I : List (α × β)} (k : α) (k' : α) (v' : β) : (k', v') ∈ dropA I k ↔ k' ≠ k ∧ (k', v') ∈ I := by
 simp [dropA, List.mem_filter, and_comm]
def putAll (I : It) (i : Ix) (ws : List Wr) : It := ws.foldl (fun J x => putA J x.key i) I
def dropAll (I : It) (ws : List Wr) : It := ws.foldl (fun J x => dropA J x.key) I
theorem putAll_keys {I : It} (h : (I.map (·.1)).Nodup) (i : Ix) : ∀ ws : List Wr, ((putAll I i ws).map (·.1)).Nodup := by
 intro ws; induction ws generalizing I with
 | nil => exact h
 | cons x ws ih => exact ih (putA_keys h _ _)
theorem putAll_mem (i : Ix) : ∀ (ws : List Wr) (I : It) (k : ByteArray) (j : Ix), (k, j) ∈ putAll I i ws ↔ ((∃ x ∈ ws, x.key = k) ∧ j = i) ∨ ((¬ ∃ x ∈ ws, x.key = k) ∧ (k, j) ∈ I)
 | [], I, k, j => by simp [putAll]
 | x :: ws, I, k, j => by
  rw [show putAll I i (x :: ws) = putAll (putA I x.key i) i ws from rfl, putAll_mem i ws, putA_mem]; have hE : (∃ y ∈ x :: ws, y.key = k) ↔ (k = x.key ∨ ∃ y ∈ ws, y.key = k) := by
   constructor
   ·rintro ⟨y, hy, e⟩; rcases List.mem_cons.1 hy with rfl | hy
    ·exact .inl e.symm
    ·exact .inr ⟨y, hy, e⟩
   ·rintro (e | ⟨y, hy, e⟩)
    ·exact ⟨x, by simp, e.symm⟩
    ·exact ⟨y, by simp [hy], e⟩
  rw [hE]; generalize (∃ y ∈ ws, y.key = k) = E
  generalize ((k, j) ∈ I) = D
  generalize (j = i) = C
  by_cases h3 : k = x.key <;> by_cases h1 : E <;> simp [h3, h1]
theorem dropAll_keys {I : It} (h : (I.map (·.1)).Nodup) : ∀ ws : List Wr, ((dropAll I ws).map (·.1)).Nodup := by
 intro ws; induction ws generalizing I with
 | nil => exact h
 | cons x ws ih => exact ih (dropA_keys h _)
theorem dropAll_mem : ∀ (ws : List Wr) (I : It) (k : ByteArray) (j : Ix), (k, j) ∈ dropAll I ws ↔ (¬ ∃ x ∈ ws, x.key = k) ∧ (k, j) ∈ I
 | [], I, k, j => by simp [dropAll]
 | x :: ws, I, k, j => by
  rw [show dropAll I (x :: ws) = dropAll (dropA I x.key) ws from rfl, dropAll_mem ws, dropA_mem]; constructor
  ·rintro ⟨h1, h2, h3⟩; refine ⟨?_, h3⟩; rintro ⟨y, hy, e⟩; rcases List.mem_cons.1 hy with rfl | hy
   ·exact h2 e.symm
   ·exact h1 ⟨y, hy, e⟩
  ·rintro ⟨h1, h3⟩; exact ⟨fun ⟨y, hy, e⟩ => h1 ⟨y, by simp [hy], e⟩, fun e => h1 ⟨x, by simp, e.symm⟩, h3⟩
theorem no_confl {M : List Hd} {i : Ix} {rs : List T2} {ws : List Wr} (hi : i ∉ M.map Hd.id) (hc : confl M i rs ws = false) {h : Hd} (hh : h ∈ M) : meetB rs ws h = false := by
 rw [confl, List.any_eq_false] at hc; have := hc h hh; have hne : ¬ h.id = i := fun e => hi (List.mem_map.2 ⟨h, hh, e⟩)
 simpa [hne] using this
theorem Ok.hold {M : List Hd} {I : It} (ok : Ok M I) {h : Hd} (hi : h.id ∉ M.map Hd.id) (hc : confl M h.id h.rs h.ws = false) : Ok (M ++ [h]) (putAll I h.id h.ws) where
 ids := by
  rw [List.map_append, List.nodup_append]; refine ⟨ok.ids, by simp, fun a ha b hb => ?_⟩; simp at hb; subst hb
  intro e; subst e; exact hi ha
 keys := putAll_keys ok.keys _ _
 tie := fun k i => by
  rw [putAll_mem]; constructor
  ·rintro (⟨⟨x, hx, e⟩, rfl⟩ | ⟨_, hp⟩)
   ·exact ⟨h, by simp, rfl, x, hx, e⟩
   ·obtain ⟨g, hg, e1, e2⟩ := (ok.tie k i).1 hp; exact ⟨g, by simp [hg], e1, e2⟩
  ·rintro ⟨g, hg, rfl, x, hx, rfl⟩; rcases List.mem_append.1 hg with hg | hg
   ·refine .inr ⟨?_, (ok.tie _ _).2 ⟨g, hg, rfl, x, hx, rfl⟩⟩; rintro ⟨y, hy, e⟩; have := no_confl hi hc hg; have h2 : meetB h.rs h.ws g = true := meet_iff.2 (.inl ⟨y, hy, x, hx, e⟩); rw [this] at h2; cases h2
   ·simp at hg; subst hg
    exact .inl ⟨⟨x, hx, rfl⟩, rfl⟩
 apart := by
  rw [List.pairwise_append]; refine ⟨ok.apart, by simp, fun a ha b hb => ?_⟩; simp at hb; subst hb
  rw [meet_symm]; exact no_confl hi hc ha
def dropM (M : List Hd) (i : Ix) : List Hd := M.filter (fun h => !decide (h.id = i))
theorem Ok.drop {M : List Hd} {I : It} (ok : Ok M I) {h : Hd} (hh : h ∈ M) : Ok (dropM M h.id) (dropAll I h.ws) where
 ids := ok.ids.sublist (List.filter_sublist.map _)
 keys := dropAll_keys ok.keys _
 tie := fun k i => by
  rw [dropAll_mem]; constructor
  ·rintro ⟨hn, hp⟩; obtain ⟨g, hg, e1, x, hx, e2⟩ := (ok.tie k i).1 hp; refine ⟨g, List.mem_filter.2 ⟨hg, ?_⟩, e1, x, hx, e2⟩; have : g.id ≠ h.id := by
    intro e; have : g = h := by
     have hp := ok.ids; exact nodup_inj hp hg hh e
    subst this; exact hn ⟨x, hx, e2⟩
   simp [this]
  ·rintro ⟨g, hg, rfl, x, hx, rfl⟩; obtain ⟨hg, hne⟩ := List.mem_filter.1 hg; have hne : g.id ≠ h.id := by simpa using hne
   refine ⟨?_, (ok.tie _ _).2 ⟨g, hg, rfl, x, hx, rfl⟩⟩; rintro ⟨y, hy, e⟩; have h1 : (x.key, h.id) ∈ I := (ok.tie _ _).2 ⟨h, hh, rfl, y, hy, e⟩; have h2 : (x.key, g.id) ∈ I := (ok.tie _ _).2 ⟨g, hg, rfl, x, hx, rfl⟩; have := nodup_inj ok.keys h1 h2 rfl; injection this with _ e
   exact hne e.symm
 apart := ok.apart.sublist List.filter_sublist
theorem ok_nil : Ok [] [] := ⟨by simp, by simp, fun k i => by simp, by simp⟩
end Go.Proofs.YtneojeidpfjpbaaGreatDoor.Lk
