import Derived.Test.YtofpaldolcnmiaaGreatB01
import Derived.Laws.Strings
import Derived.Laws.StructEq
import Derived.Handy
import Derived.Maps.RangeWalk
import Derived.DeepKeys4
set_option linter.unusedVariables false
namespace Go.Proofs.YtofpaldolcnmiaaGreat
section
open Go.RowKit Go.Sort
theorem rtb {x u : Bool} (h : x = u) : Ending.returned (.bool x) = Ending.returned (.bool u) := h ▸ rfl
abbrev T2 := ByteArray × ByteArray
structure Wr where
 key : ByteArray
 del : Bool
 val : ByteArray
def ltS (a b : ByteArray) : Bool := Op.bytesLess a.toList b.toList
def emS (a : ByteArray) : Bool := a.toList.isEmpty
theorem em_size (a : ByteArray) : emS a = decide (a.size = 0) := by
 rw [emS, ByteArray.toList_eq, Bool.eq_iff_iff]; simp only [List.isEmpty_iff, decide_eq_true_eq, ByteArray.size]; cases h : a.data with
 | mk l => cases l <;> simp_all
theorem toList_empty : (ByteArray.mk #[]).toList = ([] : List UInt8) := by rw [ByteArray.toList_eq]
theorem leq_less : ∀ a b : List UInt8, (Op.bytesLess a b || a == b) = !Op.bytesLess b a
 | [], [] => rfl
 | [], _ :: _ => rfl
 | _ :: _, [] => rfl
 | a :: x, b :: y => by
  have ih := leq_less x y; rw [Op.bytesLess, Op.bytesLess]; rcases Nat.lt_trichotomy a.toNat b.toNat with h | h | h
  ·have h1 : a < b := h; have h2 : ¬ b < a := by show ¬ b.toNat < a.toNat; omega
   have h3 : (b == a) = false := beq_eq_false_iff_ne.2 (fun e => by subst e; omega); simp [h1, h2, h3]
  ·obtain rfl : a = b := UInt8.toNat.inj h; have h2 : ¬ a < a := by show ¬ a.toNat < a.toNat; omega
   simp [h2]; simpa using ih
  ·have h1 : b < a := h; have h2 : ¬ a < b := by show ¬ a.toNat < b.toNat; omega
   have h3 : (a == b) = false := beq_eq_false_iff_ne.2 (fun e => by subst e; omega); simp [h1, h2, h3]
def nth2 (xs : List T2) (i : Nat) : T2 := (xs[i]?).getD (⟨#[]⟩, ⟨#[]⟩)
def nthW (xs : List Wr) (i : Nat) : Wr := (xs[i]?).getD ⟨⟨#[]⟩, false, ⟨#[]⟩⟩
def Row2 (w : World) (a : Option Addr) (xs : List T2) : Prop :=
 ∀ i, i < xs.length → ∃ b off, a = some ⟨b, off, none⟩ ∧ w.cell? ⟨b, off + i * 2, none⟩ = some (.string (nth2 xs i).1) ∧ w.cell? ⟨b, off + i * 2 + 1, none⟩ = some (.string (nth2 xs i).2)
def RowW (w : World) (a : Option Addr) (xs : List Wr) : Prop :=
 ∀ i, i < xs.length → ∃ b off, a = some ⟨b, off, none⟩ ∧ w.cell? ⟨b, off + i * 3, none⟩ = some (.string (nthW xs i).key) ∧ w.cell? ⟨b, off + i * 3 + 1, none⟩ = some (.bool (nthW xs i).del) ∧ w.cell? ⟨b, off + i * 3 + 2, none⟩ = some (.string (nthW xs i).val)
theorem Row2.later {w w' : World} {a : Option Addr} {xs : List T2} (h : Row2 w a xs) (hb : Below w.heap.size w w') : Row2 w' a xs := fun i hi => by
 obtain ⟨b, off, e, h0, h1⟩ := h i hi; exact ⟨b, off, e, cell_later hb h0, cell_later hb h1⟩
theorem RowW.later {w w' : World} {a : Option Addr} {xs : List Wr} (h : RowW w a xs) (hb : Below w.heap.size w w') : RowW w' a xs := fun i hi => by
 obtain ⟨b, off, e, h0, h1, h2⟩ := h i hi; exact ⟨b, off, e, cell_later hb h0, cell_later hb h1, cell_later hb h2⟩
theorem nth2_take {xs : List T2} {k : Nat} (h : k < xs.length) : xs.take (k + 1) = xs.take k ++ [nth2 xs k] := by
 rw [List.take_succ_eq_append_getElem h]; simp [nth2, h]
theorem nthW_take {xs : List Wr} {k : Nat} (h : k < xs.length) : xs.take (k + 1) = xs.take k ++ [nthW xs k] := by
 rw [List.take_succ_eq_append_getElem h]; simp [nthW, h]
def allB (p : Nat → Bool) : Nat → Bool
 | 0 => true
 | n + 1 => allB p n && p n
theorem allB_no {p : Nat → Bool} {k : Nat} (h : p k = false) : ∀ n, k < n → allB p n = false
 | 0, hn => by omega
 | n + 1, hn => by
  by_cases e : k = n
  ·subst e; rw [allB, h, Bool.and_false]
  ·rw [allB, allB_no h n (by omega), Bool.false_and]
theorem allB_yes {p : Nat → Bool} {k : Nat} (h : allB p k = true) (h' : p k = true) : allB p (k + 1) = true := by rw [allB, h, h']; rfl
def keyOk (last key : ByteArray) : Bool := ltS last key && decide (key.size ≤ 32)
def prevW (xs : List Wr) (i : Nat) : ByteArray := if i = 0 then ⟨#[]⟩ else (nthW xs (i - 1)).key
theorem prevW_succ (xs : List Wr) (i : Nat) : prevW xs (i + 1) = (nthW xs i).key := by simp [prevW]
def writeAt (xs : List Wr) (i : Nat) : Bool := keyOk (prevW xs i) (nthW xs i).key && decide ((nthW xs i).val.size ≤ 64) && !((nthW xs i).del && !emS (nthW xs i).val)
def writesOk (xs : List Wr) : Bool := decide (xs.length ≤ 16) && allB (writeAt xs) xs.length
end
namespace Lk
open Go.RowKit Go.Sort
abbrev Ix := Int × Int
structure Hd where
 id : Ix
 home : Int
 w : Int
 l : Int
 n : Int
 rs : List T2
 ws : List Wr
theorem nodup_inj {α β : Type} {f : α → β} : ∀ {l : List α}, (l.map f).Nodup → ∀ {a b : α}, a ∈ l → b ∈ l → f a = f b → a = b
 | [], _, a, b, ha, _, _ => by simp at ha
 | x :: l, h, a, b, ha, hb, e => by
  rw [List.map_cons, List.nodup_cons] at h; rcases List.mem_cons.1 ha with h1 | h1
  ·rcases List.mem_cons.1 hb with h2 | h2
   ·rw [h1, h2]
   ·exact absurd (List.mem_map.2 ⟨b, h2, by rw [← e, h1]⟩) h.1
  ·rcases List.mem_cons.1 hb with h2 | h2
   ·exact absurd (List.mem_map.2 ⟨a, h1, by rw [e, h2]⟩) h.1
   ·exact nodup_inj h.2 h1 h2 e
def insB (k : ByteArray) (s : T2) : Bool := !ltS k s.1 && (emS s.2 || ltS k s.2)
def withinB (k : ByteArray) (rs : List T2) : Bool := rs.any (insB k)
def anyB (ws : List Wr) (rs : List T2) : Bool := ws.any (fun x => withinB x.key rs)
def sameK (a b : ByteArray) : Bool := decide (a = b)
def commonB (a b : List Wr) : Bool := a.any (fun x => b.any (fun y => sameK x.key y.key))
def meetB (rs : List T2) (ws : List Wr) (h : Hd) : Bool := commonB ws h.ws || anyB ws h.rs || anyB h.ws rs
def confl (M : List Hd) (i : Ix) (rs : List T2) (ws : List Wr) : Bool := M.any (fun h => !decide (h.id = i) && meetB rs ws h)
abbrev It := List (ByteArray × Ix)
structure Ok (M : List Hd) (I : It) : Prop where
 ids : (M.map Hd.id).Nodup
 keys : (I.map (·.1)).Nodup
 tie : ∀ k i, (k, i) ∈ I ↔ ∃ h ∈ M, h.id = i ∧ ∃ x ∈ h.ws, x.key = k
 apart : M.Pairwise (fun a b => meetB a.rs a.ws b = false)
def readsMeet (I : It) (i : Ix) (rs : List T2) : Bool := I.any (fun p => !decide (p.2 = i) && withinB p.1 rs)
def writesMeet (M : List Hd) (I : It) (i : Ix) (ws : List Wr) : Bool :=
 ws.any (fun x => I.any (fun p => sameK p.1 x.key && !decide (p.2 = i))) || M.any (fun h => !decide (h.id = i) && anyB ws h.rs)
theorem sameK_eq {a b : ByteArray} : sameK a b = true ↔ a = b := by simp [sameK]
theorem meet_iff {rs : List T2} {ws : List Wr} {h : Hd} : meetB rs ws h = true ↔
  (∃ x ∈ ws, ∃ y ∈ h.ws, x.key = y.key) ∨ (∃ x ∈ ws, ∃ s ∈ h.rs, insB x.key s = true) ∨ (∃ y ∈ h.ws, ∃ s ∈ rs, insB y.key s = true) := by
 simp only [meetB, commonB, anyB, withinB, Bool.or_eq_true, List.any_eq_true, sameK_eq, or_assoc]
theorem meet_symm {a b : Hd} : meetB a.rs a.ws b = meetB b.rs b.ws a := by
 rw [Bool.eq_iff_iff, meet_iff, meet_iff]; constructor
 ·rintro (⟨x, hx, y, hy, e⟩ | ⟨x, hx, s, hs, e⟩ | ⟨y, hy, s, hs, e⟩)
  ·exact .inl ⟨y, hy, x, hx, e.symm⟩
  ·exact .inr (.inr ⟨x, hx, s, hs, e⟩)
  ·exact .inr (.inl ⟨y, hy, s, hs, e⟩)
 ·rintro (⟨x, hx, y, hy, e⟩ | ⟨x, hx, s, hs, e⟩ | ⟨y, hy, s, hs, e⟩)
  ·exact .inl ⟨y, hy, x, hx, e.symm⟩
  ·exact .inr (.inr ⟨x, hx, s, hs, e⟩)
  ·exact .inr (.inl ⟨y, hy, s, hs, e⟩)
theorem confl_eq {M : List Hd} {I : It} (ok : Ok M I) (i : Ix) (rs : List T2) (ws : List Wr) : (readsMeet I i rs || writesMeet M I i ws) = confl M i rs ws := by
 rw [Bool.eq_iff_iff]; simp only [readsMeet, writesMeet, confl, Bool.or_eq_true, List.any_eq_true, Bool.and_eq_true, Bool.not_eq_true', decide_eq_false_iff_not, sameK_eq, meet_iff]; constructor
 ·rintro (⟨⟨k, j⟩, hp, hne, hw⟩ | ⟨x, hx, ⟨k, j⟩, hp, hk, hne⟩ | ⟨h, hh, hne, ha⟩)
  ·obtain ⟨h, hh, rfl, y, hy, rfl⟩ := (ok.tie k j).1 hp; simp only [withinB, List.any_eq_true] at hw; exact ⟨h, hh, hne, .inr (.inr ⟨y, hy, hw⟩)⟩
  ·obtain ⟨h, hh, rfl, y, hy, rfl⟩ := (ok.tie k j).1 hp; exact ⟨h, hh, hne, .inl ⟨x, hx, y, hy, hk.symm⟩⟩
  ·simp only [anyB, withinB, List.any_eq_true] at ha; exact ⟨h, hh, hne, .inr (.inl ha)⟩
 ·rintro ⟨h, hh, hne, ⟨x, hx, y, hy, e⟩ | ⟨x, hx, s, hs, e⟩ | ⟨y, hy, s, hs, e⟩⟩
  ·exact .inr (.inl ⟨x, hx, (y.key, h.id), (ok.tie _ _).2 ⟨h, hh, rfl, y, hy, rfl⟩, e.symm, hne⟩)
  ·refine .inr (.inr ⟨h, hh, hne, ?_⟩); simp only [anyB, withinB, List.any_eq_true]; exact ⟨x, hx, s, hs, e⟩
  ·refine .inl ⟨(y.key, h.id), (ok.tie _ _).2 ⟨h, hh, rfl, y, hy, rfl⟩, hne, ?_⟩; simp only [withinB, List.any_eq_true]; exact ⟨s, hs, e⟩
def putA {α β : Type} [DecidableEq α] (I : List (α × β)) (k : α) (v : β) : List (α × β) :=
 if k ∈ I.map (·.1) then I.map (fun p => if p.1 = k then (k, v) else p) else I ++ [(k, v)]
theorem putA_keys {α β : Type} [DecidableEq α] {I : List (α × β)} (h : (I.map (·.1)).Nodup) (k : α) (v : β) : ((putA I k v).map (·.1)).Nodup := by
 unfold putA; split
 ·rw [List.map_map]; have : ((·.1) ∘ fun p : α × β => if p.1 = k then (k, v) else p) = (·.1) := by
   funext p
   by_cases e : p.1 = k <;> simp [e]
  rw [this]; exact h
 ·rename_i hn; rw [List.map_append, List.nodup_append]; refine ⟨h, by simp, ?_⟩; intro a ha b hb; simp at hb; subst hb; intro e; subst e; exact hn ha
theorem putA_mem {α β : Type} [DecidableEq α] {I : List (α × β)} (k : α) (v : β) (k' : α) (v' : β) : (k', v') ∈ putA I k v ↔ (k' = k ∧ v' = v) ∨ (k' ≠ k ∧ (k', v') ∈ I) := by
 unfold putA; split
 ·rename_i hm; rw [List.mem_map]; constructor
  ·rintro ⟨⟨a, b⟩, hp, e⟩; by_cases ha : a = k
   ·simp [ha] at e; exact .inl ⟨e.1.symm, e.2.symm⟩
   ·simp [ha] at e; obtain ⟨rfl, rfl⟩ := e; exact .inr ⟨ha, hp⟩
  ·rintro (⟨rfl, rfl⟩ | ⟨hne, hp⟩)
   ·obtain ⟨⟨a, b⟩, hp, e⟩ := List.mem_map.1 hm; exact ⟨(a, b), hp, by simp at e; simp [e]⟩
   ·exact ⟨(k', v'), hp, by simp [hne]⟩
 ·rename_i hm; rw [List.mem_append]; constructor
  ·rintro (hp | hp)
   ·refine .inr ⟨fun e => hm ?_, hp⟩; subst e; exact List.mem_map.2 ⟨_, hp, rfl⟩
   ·simp at hp; exact .inl hp
  ·rintro (⟨rfl, rfl⟩ | ⟨_, hp⟩)
   ·exact .inr (by simp)
   ·exact .inl hp
def putAll (I : It) (i : Ix) (ws : List Wr) : It := ws.foldl (fun J x => putA J x.key i) I
theorem putAll_keys {I : It} (h : (I.map (·.1)).Nodup) (i : Ix) : ∀ ws : List Wr, ((putAll I i ws).map (·.1)).Nodup := by
 intro ws; induction ws generalizing I with
 | nil => exact h
 | cons x ws ih => exact ih (putA_keys h _ _)
theorem putAll_mem (i : Ix) : ∀ (ws : List Wr) (I : It) (k : ByteArray) (j : Ix), (k, j) ∈ putAll I i ws ↔ ((∃ x ∈ ws, x.key = k) ∧ j = i) ∨ ((¬ ∃ x ∈ ws, x.key = k) ∧ (k, j) ∈ I)
 | [], I, k, j => by simp [putAll]
 | x :: ws, I, k, j => by
  rw [show putAll I i (x :: ws) = putAll (putA I x.key i) i ws from rfl, putAll_mem i ws, putA_mem]; have hE : (∃ y ∈ x :: ws, y.key = k) ↔ (k = x.key ∨ ∃ y ∈ ws, y.key = k) := by
   constructor
   ·rintro ⟨y, hy, e⟩; rcases List.mem_cons.1 hy with rfl | hy
    ·exact .inl e.symm
    ·exact .inr ⟨y, hy, e⟩
   ·rintro (e | ⟨y, hy, e⟩)
    ·exact ⟨x, by simp, e.symm⟩
    ·exact ⟨y, by simp [hy], e⟩
  rw [hE]; generalize (∃ y ∈ ws, y.key = k) = E
  generalize ((k, j) ∈ I) = D
  generalize (j = i) = C
  by_cases h3 : k = x.key <;> by_cases h1 : E <;> simp [h3, h1]
theorem no_confl {M : List Hd} {i : Ix} {rs : List T2} {ws : List Wr} (hi : i ∉ M.map Hd.id) (hc : confl M i rs ws = false) {h : Hd} (hh : h ∈ M) : meetB rs ws h = false := by
 rw [confl, List.any_eq_false] at hc; have := hc h hh; have hne : ¬ h.id = i := fun e => hi (List.mem_map.2 ⟨h, hh, e⟩)
 simpa [hne] using this
theorem Ok.hold {M : List Hd} {I : It} (ok : Ok M I) {h : Hd} (hi : h.id ∉ M.map Hd.id) (hc : confl M h.id h.rs h.ws = false) : Ok (M ++ [h]) (putAll I h.id h.ws) where
 ids := by
  rw [List.map_append, List.nodup_append]; refine ⟨ok.ids, by simp, fun a ha b hb => ?_⟩; simp at hb; subst hb
  intro e; subst e; exact hi ha
 keys := putAll_keys ok.keys _ _
 tie := fun k i => by
  rw [putAll_mem]; constructor
  ·rintro (⟨⟨x, hx, e⟩, rfl⟩ | ⟨_, hp⟩)
   ·exact ⟨h, by simp, rfl, x, hx, e⟩
   ·obtain ⟨g, hg, e1, e2⟩ := (ok.tie k i).1 hp; exact ⟨g, by simp [hg], e1, e2⟩
  ·rintro ⟨g, hg, rfl, x, hx, rfl⟩; rcases List.mem_append.1 hg with hg | hg
   ·refine .inr ⟨?_, (ok.tie _ _).2 ⟨g, hg, rfl, x, hx, rfl⟩⟩; rintro ⟨y, hy, e⟩; have := no_confl hi hc hg; have h2 : meetB h.rs h.ws g = true := meet_iff.2 (.inl ⟨y, hy, x, hx, e⟩); rw [this] at h2; cases h2
   ·simp at hg; subst hg
    exact .inl ⟨⟨x, hx, rfl⟩, rfl⟩
 apart := by
  rw [List.pairwise_append]; refine ⟨ok.apart, by simp, fun a ha b hb => ?_⟩; simp at hb; subst hb
  rw [meet_symm]; exact no_confl hi hc ha
theorem ok_nil : Ok [] [] := ⟨by simp, by simp, fun k i => by simp, by simp⟩
open Go.ChangeMaps (setBlock heap_setBlock_same heap_setBlock_other)
open Go.MapKept (Stamped stamped_empty stamped_push stamped_modify stamped_erase stamped_iff)
structure KeyKind {α : Type} (P : Program) (k : TypeId) (ev : α → Value) (good : α → Prop) : Prop where
 inj : ∀ a b, ev a = ev b → a = b
 check : ∀ (w : World) (em : Bool) (a : α), good a → (Instr.checkKey em 10000 k (ev a)).run P w = .ok () w
 find : ∀ (w : World) (a : α), good a → ∀ es : List MapEntry, (∀ x ∈ es, ∃ b, good b ∧ x.key = ev b) →
  ((Instr.findKey k (ev a) es).run P w = .ok none w ∧ ∀ x ∈ es, x.key ≠ ev a) ∨ ∃ j x, (Instr.findKey k (ev a) es).run P w = .ok (some (j, x.val)) w ∧ es[j]? = some x ∧ x.key = ev a
 stays : ∀ (w : World) (a : α), good a → (Instr.keyThatStays (ev a) (ev a)).run P w = .ok (ev a) w
theorem KeyKind.strings {P : Program} {k : TypeId} (hk : P.underlying k = some .string) : KeyKind P k Value.string (fun _ => True) where
 inj := fun a b e => by injection e
 check := fun w em a _ => MapKept.run_checkKey hk (d := .string) (k := .string a) trivial em 9999
 find := fun w a _ es hes => by
  have hks : ∀ y ∈ es, MapKept.IsKey .string y.key := fun y hy => by
   obtain ⟨b, _, e⟩ := hes y hy; rw [e]; trivial
  rcases MapKept.findNow_spec (d := .string) (k := .string a) trivial es 0 hks with ⟨h1, h2⟩ | ⟨j, e0, h1, h2, h3⟩
  ·exact Or.inl ⟨MapKept.run_findKey hk h1, h2⟩
  ·exact Or.inr ⟨j, e0, by simpa using MapKept.run_findKey hk h1, h2, h3⟩
 stays := fun w a _ => MapKept.run_keyThatStays (d := .string) (k := .string a) trivial
section
variable {α β : Type} {P : Program} {k e t : TypeId} {ev : α → Value} {good : α → Prop} {fv : β → Value} {w w' : World} {b r : Nat} {ps todo : List (α × β)}
abbrev kv (x : MapEntry) : Value × Value := (x.key, x.val)
abbrev ekv (ev : α → Value) (fv : β → Value) (p : α × β) : Value × Value := (ev p.1, fv p.2)
def MapAt (ev : α → Value) (good : α → Prop) (fv : β → Value) (w : World) (b : Nat) (ps : List (α × β)) : Prop :=
 ∃ es clock, w.heap[b]? = some (.map es clock) ∧ Stamped es clock ∧ es.toList.map kv = ps.map (ekv ev fv) ∧ ∀ p ∈ ps, good p.1
theorem MapAt.lt (h : MapAt ev good fv w b ps) : b < w.heap.size := by
 obtain ⟨es, clock, hb, _⟩ := h; exact (Array.getElem?_eq_some_iff.1 hb).1
theorem MapAt.same (h : MapAt ev good fv w b ps) (e : w'.heap[b]? = w.heap[b]?) : MapAt ev good fv w' b ps := by
 obtain ⟨es, clock, hb, hr⟩ := h; exact ⟨es, clock, e.trans hb, hr⟩
theorem MapAt.nodup (K : KeyKind P k ev good) (h : MapAt ev good fv w b ps) : (ps.map (·.1)).Nodup := by
 obtain ⟨es, clock, hb, hs, hm, _⟩ := h; have h1 : (es.toList.map (·.key)).Nodup := hs.2.2; have h2 : es.toList.map (·.key) = (ps.map (·.1)).map ev := by
  have := congrArg (List.map (·.1)) hm; simpa [List.map_map, Function.comp_def] using this
 rw [h2] at h1; rw [List.Nodup, List.pairwise_map] at h1; exact h1.imp (fun hne e => hne (by rw [e]))
theorem map_made (w : World) (T : Nat) : MapAt ev good fv (w.alloc (.map #[] 0)) w.heap.size ([] : List (α × β)) :=
 ⟨#[], 0, (MapKept.heap_alloc w _).1, stamped_empty 0, by simp, by simp⟩
theorem entry_pair {es : Array MapEntry} (hm : es.toList.map kv = ps.map (ekv ev fv)) {j : Nat} {x : MapEntry} (hx : es.toList[j]? = some x) : ∃ p, ps[j]? = some p ∧ x.key = ev p.1 ∧ x.val = fv p.2 := by
 have : (es.toList.map kv)[j]? = some (kv x) := by rw [List.getElem?_map, hx]; rfl
 rw [hm, List.getElem?_map] at this; cases hp : ps[j]? with
 | none => rw [hp] at this; cases this
 | some p =>
  rw [hp] at this; simp only [Option.map_some, Option.some.injEq, ekv, kv, Prod.mk.injEq] at this; exact ⟨p, rfl, this.1.symm, this.2.symm⟩
theorem entry_keys {es : Array MapEntry} (hm : es.toList.map kv = ps.map (ekv ev fv)) (hg : ∀ p ∈ ps, good p.1) : ∀ x ∈ es.toList, ∃ c, good c ∧ x.key = ev c := by
 intro x hx; obtain ⟨j, hj⟩ := List.getElem?_of_mem hx; obtain ⟨p, hp, e1, _⟩ := entry_pair hm hj; exact ⟨p.1, hg p (List.mem_of_getElem? hp), e1⟩
theorem MapAt.look (h : MapAt ev good fv w b ps) (K : KeyKind P k ev good) (ht : P.underlying t = some (.map k e)) {z : Value} (hz : (zeroValue e).run P w = .ok z w) {a : α} (ha : good a) :
  (a ∉ ps.map (·.1) ∧ ∀ c, (Instr.lookup t (.map (some b)) (ev a) c).run P w = .ok (if c then .tuple #[z, .bool false] else z) w) ∨
  ∃ v, (a, v) ∈ ps ∧ ∀ c, (Instr.lookup t (.map (some b)) (ev a) c).run P w = .ok (if c then .tuple #[fv v, .bool true] else fv v) w := by
 obtain ⟨es, clock, hb, hs, hm, hg⟩ := h; rcases K.find w a ha es.toList (entry_keys hm hg) with ⟨h1, h2⟩ | ⟨j, x, h1, h2, h3⟩
 ·refine .inl ⟨fun hin => ?_, fun c => by simp [Instr.lookup, run_underlying ht, MapKept.run_getObj_map hb, K.check w _ a ha, h1, hz, Result.andThen]⟩; obtain ⟨p, hp, rfl⟩ := List.mem_map.1 hin; obtain ⟨j, hj⟩ := List.getElem?_of_mem hp; have : (es.toList.map kv)[j]? = some (ekv ev fv p) := by rw [hm, List.getElem?_map, hj]; rfl
  rw [List.getElem?_map] at this; cases hx : es.toList[j]? with
  | none => rw [hx] at this; cases this
  | some x =>
   rw [hx] at this; simp only [Option.map_some, Option.some.injEq, ekv, kv, Prod.mk.injEq] at this; exact h2 x (List.mem_of_getElem? hx) this.1
 ·obtain ⟨p, hp, e1, e2⟩ := entry_pair hm h2; have : p.1 = a := K.inj _ _ (e1.symm.trans h3); subst this; exact .inr ⟨p.2, List.mem_of_getElem? hp, fun c => by rw [← e2]; simp [Instr.lookup, run_underlying ht, MapKept.run_getObj_map hb, K.check w _ p.1 ha, h1, Result.andThen]⟩
theorem set_putA [DecidableEq α] {a : α} {v : β} : ∀ {ps : List (α × β)} {j : Nat} {p : α × β}, (ps.map (·.1)).Nodup → ps[j]? = some p → p.1 = a → ps.set j (a, v) = ps.map (fun q => if q.1 = a then (a, v) else q)
 | [], j, p, _, h, _ => by simp at h
 | q :: ps, 0, p, hn, h, e => by
  simp at h; subst h
  rw [List.map_cons, List.nodup_cons] at hn; simp only [sqc, List.map_cons, e, if_true]; congr 1
  have : ps.map (fun q => if q.1 = a then (a, v) else q) = ps.map id := List.map_congr_left fun x hx => by
   have : x.1 ≠ a := fun e' => hn.1 (List.mem_map.2 ⟨x, hx, by rw [e', e]⟩)
   simp [this]
  rw [this, List.map_id]
 | q :: ps, j + 1, p, hn, h, e => by
  rw [List.map_cons, List.nodup_cons] at hn; have hq : q.1 ≠ a := fun e' => hn.1 (List.mem_map.2 ⟨p, List.mem_of_getElem? (by simpa using h), by rw [e', e]⟩)
  simp only [sqb, List.map_cons, hq, if_false]; rw [set_putA hn.2 (by simpa using h) e]
theorem MapAt.put [DecidableEq α] (h : MapAt ev good fv w b ps) (K : KeyKind P k ev good) (ht : P.underlying t = some (.map k e)) {a : α} (ha : good a) (v : β) :
  ∃ o, (Instr.mapUpdate t (.map (some b)) (ev a) (fv v)).run P w = .ok () (setBlock w b o) ∧ MapAt ev good fv (setBlock w b o) b (putA ps a v) := by
 have hnd := h.nodup K; obtain ⟨es, clock, hb, hs, hm, hg⟩ := h; rcases K.find w a ha es.toList (entry_keys hm hg) with ⟨h1, h2⟩ | ⟨j, x, h1, h2, h3⟩
 ·have hnot : a ∉ ps.map (·.1) := fun hin => by
   obtain ⟨p, hp, rfl⟩ := List.mem_map.1 hin; have : ev p.1 ∈ es.toList.map (·.key) := by
    have e1 : es.toList.map (·.key) = (es.toList.map kv).map (·.1) := by simp [List.map_map, Function.comp_def]
    rw [e1, hm]; exact List.mem_map.2 ⟨ekv ev fv p, List.mem_map.2 ⟨p, hp, rfl⟩, rfl⟩
   obtain ⟨x, hx, e1⟩ := List.mem_map.1 this; exact h2 x hx e1
  refine ⟨.map (es.push ⟨ev a, fv v, clock⟩) (clock + 1), ?_, _, _, heap_setBlock_same hb _, stamped_push hs h2, ?_, ?_⟩
  ·simp [Instr.mapUpdate, run_underlying ht, MapKept.run_getObj_map hb, K.check w false a ha, h1, MapKept.run_setObj_map _ hb, Result.andThen, setBlock]
  ·simp [putA, hnot, hm]
  ·intro p hp; simp only [putA, if_neg hnot, List.mem_append, List.mem_singleton] at hp; rcases hp with hp | rfl
   ·exact hg p hp
   ·exact ha
 ·obtain ⟨p, hp, e1, e2⟩ := entry_pair hm h2; have hpa : p.1 = a := K.inj _ _ (e1.symm.trans h3); have hj : es[j]? = some x := by simpa using h2
  have hkeyf : ∀ e', es[j]? = some e' → ({ e' with key := ev a, val := fv v } : MapEntry).key = e'.key := fun e' he' => by rw [hj] at he'; cases he'; exact h3.symm
  have hlist : (es.modify j (fun e' => { e' with key := ev a, val := fv v })).toList = es.toList.set j { x with key := ev a, val := fv v } := by rw [Array.toList_modify, ChangeMaps.modify_eq_set _ _ _ _ h2]
  have hin : a ∈ ps.map (·.1) := List.mem_map.2 ⟨p, List.mem_of_getElem? hp, hpa⟩; refine ⟨.map (es.modify j (fun e' => { e' with key := ev a, val := fv v })) clock, ?_, _, _, heap_setBlock_same hb _, stamped_modify hs _ _ (fun _ _ => rfl) (fun e' _ he' => hkeyf e' he'), ?_, ?_⟩
  ·simp [Instr.mapUpdate, run_underlying ht, MapKept.run_getObj_map hb, K.check w false a ha, h1, hj, h3, K.stays w a ha, MapKept.run_setObj_map _ hb, Result.andThen, setBlock]
  ·rw [hlist, List.map_set, hm, putA, if_pos hin, ← set_putA hnd hp hpa, List.map_set]
  ·intro q hq; rcases (putA_mem a v q.1 q.2).1 hq with ⟨e1, _⟩ | ⟨_, hq⟩
   ·rw [e1]; exact ha
   ·exact hg _ hq
def Rng (ev : α → Value) (good : α → Prop) (fv : β → Value) (w : World) (b r : Nat) (ps todo : List (α × β)) : Prop :=
 ∃ es clock since seen c0, w.heap[b]? = some (.map es clock) ∧ Stamped es clock ∧ es.toList.map kv = ps.map (ekv ev fv) ∧ (∀ p ∈ ps, good p.1) ∧
  w.heap[r]? = some (.mapIter (some b) since seen c0) ∧ (∀ x ∈ es.toList, x.born < since) ∧ since ≤ c0 ∧ since ≤ clock ∧ (leftOf es seen).toList.map kv = todo.map (ekv ev fv) ∧ todo.Sublist ps
theorem Rng.map (h : Rng ev good fv w b r ps todo) : MapAt ev good fv w b ps := by
 obtain ⟨es, clock, _, _, _, hb, hs, hm, hg, _⟩ := h; exact ⟨es, clock, hb, hs, hm, hg⟩
theorem Rng.lt (h : Rng ev good fv w b r ps todo) : r < w.heap.size := by
 obtain ⟨es, clock, _, _, _, _, _, _, _, hr, _⟩ := h; exact (Array.getElem?_eq_some_iff.1 hr).1
theorem Rng.same (h : Rng ev good fv w b r ps todo) (e1 : w'.heap[b]? = w.heap[b]?) (e2 : w'.heap[r]? = w.heap[r]?) : Rng ev good fv w' b r ps todo := by
 obtain ⟨es, clock, since, seen, c0, hb, h1, h2, h3, hr, h4⟩ := h; exact ⟨es, clock, since, seen, c0, e1.trans hb, h1, h2, h3, e2.trans hr, h4⟩
theorem MapAt.range (h : MapAt ev good fv w b ps) (ht : P.underlying t = some (.map k e)) :
  ∃ o, (Instr.range t (.map (some b))).run P w = .ok (.pointer (some ⟨w.heap.size, 0, none⟩)) (w.alloc o) ∧ Rng ev good fv (w.alloc o) b w.heap.size ps ps := by
 have hlt := h.lt; obtain ⟨es, clock, hb, hs, hm, hg⟩ := h; exact ⟨_, run_range_map w t k e b es clock ht hb, es, clock, clock, #[], clock, ((MapKept.heap_alloc w _).2 b hlt).trans hb, hs, hm, hg, (MapKept.heap_alloc w _).1, hs.1, Nat.le_refl _, Nat.le_refl _, by rw [show leftOf es #[] = es from Array.filter_eq_self.2 (fun x _ => by simp)]; exact hm, List.Sublist.refl _⟩
theorem Rng.next (h : Rng ev good fv w b r ps todo) (ty : TypeId) :
  (todo = [] ∧ (Instr.next (.pointer (some ⟨r, 0, none⟩)) false ty).run P w = .ok (.tuple #[.bool false]) w) ∨
  ∃ p todo' w1 o, todo.Perm (p :: todo') ∧ p ∈ ps ∧ good p.1 ∧ (w1 = w ∨ w1 = w.drew) ∧ (Instr.next (.pointer (some ⟨r, 0, none⟩)) false ty).run P w = .ok (.tuple #[.bool true, ev p.1, fv p.2]) (setBlock w1 r o) ∧
   Rng ev good fv (setBlock w1 r o) b r ps todo' ∧ (Instr.entry (.pointer (some ⟨r, 0, none⟩))).run P (setBlock w1 r o) = .ok (.tuple #[ev p.1, fv p.2]) (setBlock w1 r o) ∧ r ≠ b := by
 obtain ⟨es, clock, since, seen, c0, hb, hs, hm, hg, hr, hold, hsc, hsk, hl, hsub⟩ := h; have hrb : r ≠ b := by intro e; rw [e, hb] at hr; cases hr
 rcases run_next_at (P := P) w ty r b since c0 seen es clock hr hb hold hsc with ⟨h0, hrun⟩ | ⟨x, hx, w1, hal, hrun⟩
 ·left
  refine ⟨?_, hrun⟩; have : (leftOf es seen).toList = [] := by rw [Array.eq_empty_of_size_eq_zero h0]
  rw [this] at hl; simpa using hl.symm
 ·right
  obtain ⟨hxm, hxs⟩ := mem_left hx; obtain ⟨L1, L2, hL⟩ := List.append_of_mem hx; have hl' := hl; rw [hL, List.map_append, List.map_cons] at hl'; obtain ⟨t1, t2, rfl, e1, e2⟩ := List.map_eq_append_iff.1 hl'.symm; obtain ⟨p, t3, rfl, e3, e4⟩ := List.map_eq_cons_iff.1 e2; simp only [ekv, kv, Prod.mk.injEq] at e3; have hr1 : w1.heap[r]? = some (.mapIter (some b) since seen c0) := by rcases hal with rfl | rfl <;> exact hr
  have hb1 : w1.heap[b]? = some (.map es clock) := by rcases hal with rfl | rfl <;> exact hb
  have hset := MapKept.heap_set (o' := .mapIter (some b) since (seen.push x.born) clock) hr1; have hnb := (stamped_iff es clock).1 hs; have hleft : (leftOf es (seen.push x.born)).toList = L1 ++ L2 := by
   have e5 : (leftOf es (seen.push x.born)).toList = (leftOf es seen).toList.filter (fun y => !(y.born == x.born)) := by
    simp only [leftOf, Array.toList_filter, List.filter_filter]; refine List.filter_congr fun y _ => ?_
    simp [Bool.and_comm]; rfl
   rw [e5, hL, List.filter_append, List.filter_cons]; have hnd : ((leftOf es seen).toList.map (·.born)).Nodup := by
    refine hnb.2.1.sublist (List.Sublist.map _ ?_); simp only [leftOf, Array.toList_filter]; exact List.filter_sublist
   rw [hL, List.map_append, List.map_cons, List.nodup_append, List.nodup_cons] at hnd; have hf1 : L1.filter (fun y => !(y.born == x.born)) = L1 := List.filter_eq_self.2 fun y hy => by
    have := hnd.2.2 y.born (List.mem_map.2 ⟨y, hy, rfl⟩) x.born (by simp); simpa using this
   have hf2 : L2.filter (fun y => !(y.born == x.born)) = L2 := List.filter_eq_self.2 fun y hy => by
    have : y.born ≠ x.born := fun e => hnd.2.1.1 (e ▸ List.mem_map.2 ⟨y, hy, rfl⟩)
    simpa using this
   rw [hf1, hf2]; simp
  refine ⟨p, t1 ++ t3, w1, .mapIter (some b) since (seen.push x.born) clock, List.perm_middle, hsub.subset (by simp), hg p (hsub.subset (by simp)), hal, ?_, ?_, ?_, hrb⟩
  ·rw [hrun, e3.1, e3.2]
  ·refine ⟨es, clock, since, seen.push x.born, clock, ?_, hs, hm, hg, hset.1, hold, hsk, hsk, ?_, ?_⟩
   ·exact (hset.2 b (Ne.symm hrb)).trans hb1
   ·rw [hleft, List.map_append, List.map_append, e1, e4]
   ·exact List.Sublist.trans (List.Sublist.append (List.Sublist.refl _) (List.sublist_cons_self _ _)) hsub
  ·rw [e3.1, e3.2]; exact run_entry_at _ r b since seen es clock x hset.1 ((hset.2 b (Ne.symm hrb)).trans hb1) hxm hnb.2.1
end
end Lk
end Go.Proofs.YtofpaldolcnmiaaGreat
