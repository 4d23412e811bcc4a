import Derived.Test.YtofpaldolcnmiaaGreatB05
import Derived.RangeFuncBox
import Derived.RangeFuncNested
import Derived.RangeFuncBound
import Derived.RangeFuncCalls
import Derived.RangeFuncLeaves
import Derived.Shelf.Abstract
import Derived.Shelf.RegionOpen
import Derived.OwnWalkIn
import Derived.TacticsInMore
import Derived.LoopNIn
import Derived.LoopIn
import Derived.Stop.RegionWithIn
set_option linter.unusedVariables false
namespace Go.Proofs.YtofpaldolcnmiaaGreat.Vs
structure Sp where
 a : Int
 b : Int
 c : Int
structure Ver where
 s : Sp
 del : Bool
 val : ByteArray
structure Hd where
 g : Nat
 n : Nat
 cap : Nat
 vs : List Ver
abbrev En := ByteArray × Hd
variable {β : Type}
def Rising (l : List (ByteArray × β)) : Prop := l.Pairwise fun x y => lt x.1 y.1 = true
theorem rising_key {l : List (ByteArray × β)} (h : Rising l) {k : ByteArray} {v u : β} (h1 : (k, v) ∈ l) (h2 : (k, u) ∈ l) : v = u := by
 induction l with
 | nil => simp at h1
 | cons x l ih =>
  have h' := List.pairwise_cons.1 h; rcases List.mem_cons.1 h1 with e1 | e1
  ·rcases List.mem_cons.1 h2 with e2 | e2
   ·rw [← e1] at e2; injection e2 with _ e; exact e.symm
   ·have := h'.1 _ e2; rw [← e1] at this; exact absurd this (by rw [lt_irrefl]; decide)
  ·rcases List.mem_cons.1 h2 with e2 | e2
   ·have := h'.1 _ e1; rw [← e2] at this; exact absurd this (by rw [lt_irrefl]; decide)
   ·exact ih h'.2 e1 e2
def getX (l : List (ByteArray × β)) (k : ByteArray) : Option β := (l.find? fun e => decide (e.1 = k)).map (·.2)
def setX : List (ByteArray × β) → ByteArray → β → List (ByteArray × β)
 | [], k, v => [(k, v)]
 | e :: l, k, v => if lt e.1 k then e :: setX l k v else if e.1 = k then (k, v) :: l else (k, v) :: e :: l
def rangeX (l : List (ByteArray × β)) (lo hi : ByteArray) : List (ByteArray × β) := l.filter fun e => inS lo hi e.1
theorem getX_some {l : List (ByteArray × β)} (h : Rising l) {k : ByteArray} {v : β} : getX l k = some v ↔ (k, v) ∈ l := by
 unfold getX; constructor
 ·intro hg; obtain ⟨e, he, rfl⟩ := Option.map_eq_some_iff.1 hg; have h1 := List.find?_some he; have h2 := List.mem_of_find?_eq_some he; simp only [decide_eq_true_eq] at h1; rw [← h1]; exact h2
 ·intro hm; cases hf : l.find? fun e => decide (e.1 = k) with
  | none =>
   have := List.find?_eq_none.1 hf (k, v) hm; simp at this
  | some e =>
   have h1 := List.find?_some hf; have h2 := List.mem_of_find?_eq_some hf; simp only [decide_eq_true_eq] at h1; obtain ⟨ek, ev⟩ := e; subst h1; simp only [Option.map_some]; rw [rising_key h h2 hm]
theorem getX_none {l : List (ByteArray × β)} {k : ByteArray} : getX l k = none ↔ ∀ v, (k, v) ∉ l := by
 unfold getX; rw [Option.map_eq_none_iff, List.find?_eq_none]; constructor
 ·intro h v hm; have := h (k, v) hm; simp at this
 ·intro h e he hk; simp only [decide_eq_true_eq] at hk; obtain ⟨ek, ev⟩ := e; subst hk; exact h ev he
theorem setX_mem {l : List (ByteArray × β)} (h : Rising l) (k : ByteArray) (v : β) (e : (ByteArray × β)) : e ∈ setX l k v ↔ e = (k, v) ∨ (e ∈ l ∧ e.1 ≠ k) := by
 induction l with
 | nil => simp [setX]
 | cons x l ih =>
  have h' := List.pairwise_cons.1 h; unfold setX; split
  ·rename_i hlt; rw [List.mem_cons, ih h'.2, List.mem_cons]; constructor
   ·rintro (rfl | rfl | ⟨h1, h2⟩)
    ·exact .inr ⟨.inl rfl, lt_ne hlt⟩
    ·exact .inl rfl
    ·exact .inr ⟨.inr h1, h2⟩
   ·rintro (rfl | ⟨rfl | h1, h2⟩)
    ·exact .inr (.inl rfl)
    ·exact .inl rfl
    ·exact .inr (.inr ⟨h1, h2⟩)
  ·split
   ·rename_i hnl heq; rw [List.mem_cons, List.mem_cons]; constructor
    ·rintro (rfl | h1)
     ·exact .inl rfl
     ·refine .inr ⟨.inr h1, fun e' => ?_⟩; have := h'.1 e h1; rw [heq, e'] at this; rw [lt_irrefl] at this; cases this
    ·rintro (rfl | ⟨rfl | h1, h2⟩)
     ·exact .inl rfl
     ·exact absurd heq h2
     ·exact .inr h1
   ·rename_i hnl hne; rw [List.mem_cons]; constructor
    ·rintro (rfl | h1)
     ·exact .inl rfl
     ·refine .inr ⟨h1, fun e' => ?_⟩; rcases List.mem_cons.1 h1 with rfl | h2
      ·exact hne e'
      ·have h3 := h'.1 e h2; rcases lt_tri x.1 k with h4 | h4 | h4
       ·exact hne h4
       ·exact hnl h4
       ·rw [e'] at h3; exact hnl h3
    ·rintro (rfl | ⟨h1, h2⟩)
     ·exact .inl rfl
     ·exact .inr h1
theorem setX_rising {l : List (ByteArray × β)} (h : Rising l) (k : ByteArray) (v : β) : Rising (setX l k v) := by
 induction l with
 | nil => exact List.pairwise_singleton _ _
 | cons x l ih =>
  have h' := List.pairwise_cons.1 h; unfold setX; split
  ·rename_i hlt; refine List.pairwise_cons.2 ⟨fun e he => ?_, ih h'.2⟩; rcases (setX_mem h'.2 k v e).1 he with rfl | ⟨h1, -⟩
   ·exact hlt
   ·exact h'.1 e h1
  ·rename_i hnl; split
   ·rename_i heq; refine List.pairwise_cons.2 ⟨fun e he => ?_, h'.2⟩; have := h'.1 e he; rw [heq] at this; exact this
   ·rename_i hne; have hk : lt k x.1 = true := by
     rcases lt_tri x.1 k with h4 | h4 | h4
     ·exact absurd h4 hne
     ·exact absurd h4 hnl
     ·exact h4
    refine List.pairwise_cons.2 ⟨fun e he => ?_, h⟩; rcases List.mem_cons.1 he with rfl | h1
    ·exact hk
    ·exact lt_trans hk (h'.1 e h1)
theorem rangeX_all (l : List (ByteArray × β)) : rangeX l ⟨#[]⟩ ⟨#[]⟩ = l := by
 unfold rangeX; refine List.filter_eq_self.2 fun e _ => ?_
 have h1 : (ByteArray.mk #[]).toList = ([] : List UInt8) := by rw [ByteArray.toList_eq]
 have h2 : ∀ a : List UInt8, Op.bytesLess a [] = false := fun a => by cases a <;> rfl
 simp [inS, lt, h1, h2]
open Go.RowKit Go.Sort
inductive Tr where
 | nil
 | node (b : Nat) (k : ByteArray) (v : Hd) (l r : Tr)
def Tr.pt : Tr → Option Addr
 | .nil => none
 | .node b _ _ _ _ => some ⟨b, 0, none⟩
def Tr.list : Tr → List En
 | .nil => []
 | .node _ k v l r => l.list ++ (k, v) :: r.list
def Tr.n : Tr → Nat
 | .nil => 0
 | .node _ _ _ l r => l.n + 1 + r.n
theorem Tr.len : ∀ T : Tr, T.list.length = T.n
 | .nil => rfl
 | .node _ _ _ l r => by simp [Tr.list, Tr.n, Tr.len l, Tr.len r]; omega
def TrIn (S : Nat → Prop) (w : World) : Tr → Prop
 | .nil => True
 | .node b k v l r => (S b ∧ w.heap[b]? = some (.cells #[.string k, .slice (some ⟨v.g, 0, none⟩) v.n v.cap, .pointer l.pt, .pointer r.pt, .int .i64 ((l.n + 1 + r.n : Nat) : Int)] 272 (0, 0))) ∧ w.cell? ⟨b, 0, none⟩ = some (.string k) ∧ w.cell? ⟨b, 1, none⟩ = some (.slice (some ⟨v.g, 0, none⟩) v.n v.cap) ∧ w.cell? ⟨b, 2, none⟩ = some (.pointer l.pt) ∧
   w.cell? ⟨b, 3, none⟩ = some (.pointer r.pt) ∧ w.cell? ⟨b, 4, none⟩ = some (.int .i64 ((l.n + 1 + r.n : Nat) : Int)) ∧ TrIn S w l ∧ TrIn S w r
def Keeps (S : Nat → Prop) (w w' : World) : Prop := ∀ b, S b → b < w.heap.size → w'.heap[b]? = w.heap[b]?
theorem Keeps.of_below {S : Nat → Prop} {w w' : World} (h : Below w.heap.size w w') : Keeps S w w' := fun b _ hb => h.block b hb
theorem Keeps.cell {S : Nat → Prop} {w w' : World} (h : Keeps S w w') {b o : Nat} {v : Value} (hb : S b) (k : w.cell? ⟨b, o, none⟩ = some v) : w'.cell? ⟨b, o, none⟩ = some v := by
 rw [← k]; exact World.cell?_of_block (a := ⟨b, o, none⟩) (h b hb (World.block_lt_of_cell? _ _ k))
theorem TrIn.keeps {S : Nat → Prop} {w w' : World} (h : Keeps S w w') : ∀ {T : Tr}, TrIn S w T → TrIn S w' T
 | .nil, _ => trivial
 | .node b k v l r, ⟨⟨hb, ho⟩, h0, h1, h2, h3, h4, hl, hr⟩ => ⟨⟨hb, (h b hb (World.block_lt_of_cell? _ _ h0)).trans ho⟩, h.cell hb h0, h.cell hb h1, h.cell hb h2, h.cell hb h3, h.cell hb h4, TrIn.keeps h hl, TrIn.keeps h hr⟩
theorem TrIn.later {S : Nat → Prop} {w w' : World} {T : Tr} (h : TrIn S w T) (hb : Below w.heap.size w w') : TrIn S w' T := h.keeps (Keeps.of_below hb)
def IxT (t : TypeId) : Prop := t = 272 ∨ t = 126 ∨ t = 87
def Kp (w w' : World) : Prop := w.heap.size ≤ w'.heap.size ∧ ∀ (b : Nat) (cs : Array Value) (t : TypeId) (z : Nat × Nat), IxT t → w.heap[b]? = some (.cells cs t z) → w'.heap[b]? = some (.cells cs t z)
theorem Kp.trans {a b c : World} (h : Kp a b) (k : Kp b c) : Kp a c := ⟨Nat.le_trans h.1 k.1, fun i cs t z ht hi => k.2 i cs t z ht (h.2 i cs t z ht hi)⟩
theorem Kp.of_below {w w' : World} (h : Below w.heap.size w w') : Kp w w' := ⟨h.size, fun b cs t z _ hb => (h.block b (Array.getElem?_eq_some_iff.1 hb).1).trans hb⟩
theorem Kp.of_onl {F : Nat → Prop} {w w' : World} (h : Onl F w w') (hF : ∀ (b : Nat) (cs : Array Value) (t : TypeId) (z : Nat × Nat), F b → w.heap[b]? = some (.cells cs t z) → ¬ IxT t) : Kp w w' :=
 ⟨h.size, fun b cs t z ht hb => (h.block b (Array.getElem?_eq_some_iff.1 hb).1 (fun hf => hF b cs t z hf hb ht)).trans hb⟩
theorem cob {w : World} {b o : Nat} {cs : Array Value} {t : TypeId} {z : Nat × Nat} {v : Value} (h : w.heap[b]? = some (.cells cs t z)) (hv : cs[o]? = some v) : w.cell? ⟨b, o, none⟩ = some v := by
 simp only [World.cell?, h]; exact hv
theorem TrIn.kp {S : Nat → Prop} {w w' : World} (h : Kp w w') : ∀ {T : Tr}, TrIn S w T → TrIn S w' T
 | .nil, _ => trivial
 | .node b k v l r, ⟨⟨hb, ho⟩, h0, h1, h2, h3, h4, hl, hr⟩ => by
  have ho' := h.2 b _ _ _ (.inl rfl) ho; exact ⟨⟨hb, ho'⟩, cob ho' rfl, cob ho' rfl, cob ho' rfl, cob ho' rfl, cob ho' rfl, TrIn.kp h hl, TrIn.kp h hr⟩
theorem rising_parts {l r : List En} {k : ByteArray} {v : Hd} (h : Rising (l ++ (k, v) :: r)) : Rising l ∧ Rising r ∧ (∀ e ∈ l, lt e.1 k = true) ∧ (∀ e ∈ r, lt k e.1 = true) := by
 have h1 := List.pairwise_append.1 h; have h2 := List.pairwise_cons.1 h1.2.1; exact ⟨h1.1, h2.2, fun e he => h1.2.2 e he (k, v) (by simp), fun e he => h2.1 e he⟩
theorem getX_left {l r : List En} {k key : ByteArray} {v : Hd} (h : Rising (l ++ (k, v) :: r)) (hk : lt key k = true) : getX (l ++ (k, v) :: r) key = getX l key := by
 obtain ⟨hl, hr, h1, h2⟩ := rising_parts h; cases hg : getX l key with
 | some u => exact (getX_some h).2 (List.mem_append_left _ ((getX_some hl).1 hg))
 | none =>
  refine getX_none.2 fun u hu => ?_
  rcases List.mem_append.1 hu with h3 | h3
  ·exact getX_none.1 hg u h3
  ·rcases List.mem_cons.1 h3 with h4 | h4
   ·injection h4 with h5 _; exact lt_ne hk h5
   ·exact absurd (lt_trans hk (h2 _ h4)) (by rw [lt_irrefl]; decide)
theorem getX_right {l r : List En} {k key : ByteArray} {v : Hd} (h : Rising (l ++ (k, v) :: r)) (hk : lt k key = true) : getX (l ++ (k, v) :: r) key = getX r key := by
 obtain ⟨hl, hr, h1, h2⟩ := rising_parts h; cases hg : getX r key with
 | some u => exact (getX_some h).2 (List.mem_append_right _ (List.mem_cons_of_mem _ ((getX_some hr).1 hg)))
 | none =>
  refine getX_none.2 fun u hu => ?_
  rcases List.mem_append.1 hu with h3 | h3
  ·exact absurd (lt_trans hk (h1 _ h3)) (by rw [lt_irrefl]; decide)
  ·rcases List.mem_cons.1 h3 with h4 | h4
   ·injection h4 with h5 _; exact lt_ne hk h5.symm
   ·exact getX_none.1 hg u h4
theorem getX_mid {l r : List En} {k : ByteArray} {v : Hd} (h : Rising (l ++ (k, v) :: r)) : getX (l ++ (k, v) :: r) k = some v := (getX_some h).2 (by simp)
theorem setX_left {l r : List En} {k key : ByteArray} {v u : Hd} (hk : lt key k = true) : setX (l ++ (k, v) :: r) key u = setX l key u ++ (k, v) :: r := by
 induction l with
 | nil =>
  simp only [List.nil_append, setX]; rw [if_neg (by rw [lt_asymm hk]; decide), if_neg (fun e => lt_ne hk e.symm)]; rfl
 | cons x l ih =>
  simp only [List.cons_append, setX]; split
  ·rw [ih]; rfl
  ·split <;> rfl
theorem setX_right {l r : List En} {k key : ByteArray} {v u : Hd} (h1 : ∀ e ∈ l, lt e.1 k = true) (hk : lt k key = true) : setX (l ++ (k, v) :: r) key u = l ++ (k, v) :: setX r key u := by
 induction l with
 | nil => simp only [List.nil_append, setX]; rw [if_pos hk]
 | cons x l ih =>
  simp only [List.cons_append, setX]; rw [if_pos (lt_trans (h1 x (by simp)) hk), ih (fun e he => h1 e (by simp [he]))]
theorem setX_mid {l r : List En} {k : ByteArray} {v u : Hd} (h1 : ∀ e ∈ l, lt e.1 k = true) : setX (l ++ (k, v) :: r) k u = l ++ (k, u) :: r := by
 induction l with
 | nil => simp [setX, lt_irrefl]
 | cons x l ih =>
  simp only [List.cons_append, setX]; rw [if_pos (h1 x (by simp)), ih (fun e he => h1 e (by simp [he]))]
def Tr.find : Tr → ByteArray → Tr
 | .nil, _ => .nil
 | .node b k v l r, key => if k = key then .node b k v l r else if lt key k then l.find key else r.find key
def Tr.val : Tr → Option Hd
 | .nil => none
 | .node _ _ v _ _ => some v
theorem Tr.find_is : ∀ (T : Tr) (key : ByteArray), Rising T.list → (T.find key).val = getX T.list key
 | .nil, key, _ => rfl
 | .node b k v l r, key, h => by
  obtain ⟨hl, hr, h1, h2⟩ := rising_parts h; unfold Tr.find; split
  ·rename_i e; subst e; rw [show Tr.list _ = _ from rfl, Tr.list, getX_mid h]; rfl
  ·rename_i hne; split
   ·rename_i hlt; rw [Tr.find_is l key hl, Tr.list, getX_left h hlt]
   ·rename_i hnl; have hlt : lt k key = true := by
     rcases lt_tri k key with e | e | e
     ·exact absurd e hne
     ·exact e
     ·exact absurd e hnl
    rw [Tr.find_is r key hr, Tr.list, getX_right h hlt]
theorem TrIn.find {S : Nat → Prop} {w : World} : ∀ {T : Tr} (key : ByteArray), TrIn S w T → TrIn S w (T.find key)
 | .nil, _, h => h
 | .node b k v l r, key, h => by
  unfold Tr.find; split
  ·exact h
  ·split
   ·exact TrIn.find key h.2.2.2.2.2.2.1
   ·exact TrIn.find key h.2.2.2.2.2.2.2
def fromB (lo k : ByteArray) : Bool := !lt k lo
def underB (hi k : ByteArray) : Bool := hi.toList.isEmpty || lt k hi
theorem inS_is (lo hi k : ByteArray) : inS lo hi k = (fromB lo k && underB hi k) := rfl
theorem range_left {l : List En} {k lo hi : ByteArray} (h1 : ∀ e ∈ l, lt e.1 k = true) (hf : fromB lo k = false) : rangeX l lo hi = [] := by
 rw [rangeX, List.filter_eq_nil_iff]; intro e he; have : lt k lo = true := by simpa [fromB] using hf
 simp [inS, lt_trans (h1 e he) this]
theorem range_right {r : List En} {k lo hi : ByteArray} (h2 : ∀ e ∈ r, lt k e.1 = true) (hu : underB hi k = false) : rangeX r lo hi = [] := by
 rw [rangeX, List.filter_eq_nil_iff]; intro e he; simp only [underB, Bool.or_eq_false_iff] at hu; have h3 : lt e.1 hi = false := by
  cases h : lt e.1 hi with
  | false => rfl
  | true => exact absurd (lt_trans (h2 e he) h) (by rw [hu.2]; decide)
 simp [inS, hu.1, h3]
theorem range_node {l r : List En} {k lo hi : ByteArray} {v : Hd} : rangeX (l ++ (k, v) :: r) lo hi = rangeX l lo hi ++ (if inS lo hi k then [(k, v)] else []) ++ rangeX r lo hi := by
 simp only [rangeX, List.filter_append, List.filter_cons, List.append_assoc]; split <;> simp
open Go.RowKit Go.Sort
theorem node_new {S : Nat → Prop} {w w' : World} {k : ByteArray} {v : Hd} {l r : Tr} {n : Int} (hn : n = ((l.n + 1 + r.n : Nat) : Int)) (hl : TrIn S w l) (hr : TrIn S w r) (hS : S w.heap.size)
  (h : w' = w.alloc (.cells #[.string k, .slice (some ⟨v.g, 0, none⟩) v.n v.cap, .pointer l.pt, .pointer r.pt, .int .i64 n] 272)) : TrIn S w' (.node w.heap.size k v l r) ∧ Below w.heap.size w w' := by
 subst h hn; have hb : Below w.heap.size w (w.alloc (.cells #[.string k, .slice (some ⟨v.g, 0, none⟩) v.n v.cap, .pointer l.pt, .pointer r.pt, .int .i64 ((l.n + 1 + r.n : Nat) : Int)] 272)) := Below.al (Below.refl _ _) _; have hc := World.alloc_heap_new w (.cells #[.string k, .slice (some ⟨v.g, 0, none⟩) v.n v.cap, .pointer l.pt, .pointer r.pt, .int .i64 ((l.n + 1 + r.n : Nat) : Int)] 272); refine ⟨⟨⟨hS, hc⟩, ?_, ?_, ?_, ?_, ?_, hl.later hb, hr.later hb⟩, hb⟩ <;> (simp only [World.cell?, hc]; rfl)
theorem count_is {S : Nat → Prop} {T : Tr} {w : World} (h : TrIn S w T) :
  Calls Tryz.prog 267 #[.pointer T.pt] w fun e w' => e = .returned (.int .i64 (T.n : Int)) ∧ w' = w := by
 cases T with
 | nil =>
  show Calls Tryz.prog 267 #[.pointer none] w _
  go_enter Tryz.func267, Tryz.ntmps267
  go_wp2_with fail
  go_ret
  exact ⟨rfl, rfl⟩
 | node b k v l r =>
  obtain ⟨hb, h0, h1, h2, h3, h4, hl, hr⟩ := h; show Calls Tryz.prog 267 #[.pointer (some ⟨b, 0, none⟩)] w _
  clear h0 h1 h2 h3 hl hr; obtain ⟨m, hm⟩ : ∃ m : Int, m = ((Tr.node b k v l r).n : Int) := ⟨_, rfl⟩; rw [show ((l.n + 1 + r.n : Nat) : Int) = m from hm.symm] at h4; rw [← hm]; clear hm; go_enter Tryz.func267, Tryz.ntmps267
  go_wp2_with fail
  go_ret
  exact ⟨rfl, rfl⟩
theorem weight_is {S : Nat → Prop} {T : Tr} {w : World} (h : TrIn S w T) (hn : T.n ≤ 1152921504606846976) :
  Calls Tryz.prog 276 #[.pointer T.pt] w fun e w' => e = .returned (.int .i64 ((T.n : Int) + 1)) ∧ w' = w := by
 have hc := count_is h; obtain ⟨m, hm⟩ : ∃ m : Nat, m = T.n := ⟨_, rfl⟩; obtain ⟨p, hp⟩ : ∃ p, p = T.pt := ⟨_, rfl⟩; rw [← hm] at hc hn ⊢; rw [← hp] at hc ⊢; clear h hm hp; go_enter Tryz.func276, Tryz.ntmps276
 go_wp2_with (go_at_call 267; refine hc.mono ?_; clear hc; rintro e w' ⟨rfl, rfl⟩)
 go_ret
 exact ⟨by go_num, rfl⟩
theorem over_is {S : Nat → Prop} {b : Nat} {k : ByteArray} {v : Hd} {l r : Tr} {w : World} (hS : ∀ i, w.heap.size ≤ i → S i) (h0 : w.cell? ⟨b, 0, none⟩ = some (.string k)) (h1 : w.cell? ⟨b, 1, none⟩ = some (.slice (some ⟨v.g, 0, none⟩) v.n v.cap))
  (hl : TrIn S w l) (hr : TrIn S w r) (hn : l.n + r.n ≤ 1152921504606846976) :
  Calls Tryz.prog 279 #[.pointer (some ⟨b, 0, none⟩), .pointer l.pt, .pointer r.pt] w fun e w' => ∃ b', e = .returned (.pointer (some ⟨b', 0, none⟩)) ∧ TrIn S w' (.node b' k v l r) ∧ Below w.heap.size w w' := by
 have cl : ∀ W, Below w.heap.size w W → _ := fun W hb => count_is (hl.later hb)
 have cr : ∀ W, Below w.heap.size w W → _ := fun W hb => count_is (hr.later hb)
 have HL := hid hl; have HR := hid hr; obtain ⟨pl, hpl⟩ : ∃ p, p = l.pt := ⟨_, rfl⟩; obtain ⟨pr, hpr⟩ : ∃ p, p = r.pt := ⟨_, rfl⟩; obtain ⟨nl, hnl⟩ : ∃ p, p = l.n := ⟨_, rfl⟩; obtain ⟨nr, hnr⟩ : ∃ p, p = r.n := ⟨_, rfl⟩; rw [← hpl, ← hnl] at cl; rw [← hpr, ← hnr] at cr; rw [← hpl, ← hpr]; rw [← hnl, ← hnr] at hn; have HQ := hid (And.intro hpl (And.intro hpr (And.intro hnl hnr))); have HS := hid hS; have CL := hid cl; have CR := hid cr; clear hl hr hpl hpr hnl hnr cl cr hS; go_enter Tryz.func279, Tryz.ntmps279
 go_wp2_with fail
 go_region_held3 (fun w' => w'.cell? ⟨b, 0, none⟩ = some (.string k) ∧ w'.cell? ⟨b, 1, none⟩ = some (.slice (some ⟨v.g, 0, none⟩) v.n v.cap) ∧ Below w.heap.size w w')
  ((refine (fun (hB : Below w.heap.size w _) => ⟨cell_later hB h0, cell_later hB h1, hB⟩) ?_; (repeat (first | exact Below.refl _ _ | assumption | refine Below.drew ?_ | refine Below.al ?_ _ | refine Below.setCell ?_ (by first | exact Nat.le_refl _ | simp <;> omega) _ | refine Below.on ?_ (by assumption)))))
  (first | (go_at_call_of 267 pl; refine (CL.out _ ?_).mono ?_; ((repeat (first | exact Below.refl _ _ | assumption | refine Below.drew ?_ | refine Below.al ?_ _ | refine Below.setCell ?_ (by first | exact Nat.le_refl _ | simp <;> omega) _ | refine Below.on ?_ (by assumption)))); rintro e w1 ⟨rfl, rfl⟩) | (go_at_call_of 267 pr; refine (CR.out _ ?_).mono ?_; ((repeat (first | exact Below.refl _ _ | assumption | refine Below.drew ?_ | refine Below.al ?_ _ | refine Below.setCell ?_ (by first | exact Nat.le_refl _ | simp <;> omega) _ | refine Below.on ?_ (by assumption)))); rintro e w1 ⟨rfl, rfl⟩))
 go_wp2_with fail
 obtain ⟨rfl, rfl, rfl, rfl⟩ := HQ.out; obtain ⟨t1, t2⟩ := node_new (S := S) (k := k) (v := v) (show (IntKind.i64.wrap (IntKind.i64.wrap ((l.n : Int) + 1) + (r.n : Int))) = ((l.n + 1 + r.n : Nat) : Int) by rw [IntKind.wrap_i64, IntKind.wrap_i64]; omega) HL.out HR.out (HS.out _ (Nat.le_refl _)) rfl; go_ret
 exact ⟨_, rfl, t1.later (Below.drew (Below.refl _ _)), Below.drew t2⟩
theorem toList_beq' {a b : ByteArray} {u : Bool} (h : decide (a = b) = u) : (a.toList == b.toList) = u := by
 rw [← h, Bool.eq_iff_iff]; simp only [beq_iff_eq, decide_eq_true_eq]; exact ⟨bytes_inj, fun e => by rw [e]⟩
theorem find_is {S : Nat → Prop} {T : Tr} {w : World} (key : ByteArray) (h : TrIn S w T) :
  Calls Tryz.prog 237 #[.pointer T.pt, .string key] w fun e w' => e = .returned (.pointer (T.find key).pt) ∧ w' = w := by
 have HT := hid h; clear h; go_enter Tryz.func237, Tryz.ntmps237
 go_wp2_with fail
 go_loopg [0] T.n (fun g s0 wr => ∃ C : Tr, g = C.n ∧ s0 = .pointer C.pt ∧ Hid (TrIn S w C) ∧ Hid (T.find key = C.find key) ∧ wr = w)
 case atStart => exact ⟨T, rfl, rfl, HT, rfl, rfl⟩
 case round =>
  obtain ⟨C, rfl, rfl, HC, HE, rfl⟩ := hrel; cases C with
  | nil =>
   show Code.wp _ _ _ _ _
   simp only [Tr.pt]; go_wp2_with fail
   go_ret
   exact ⟨by rw [HE.out]; rfl, rfl⟩
  | node b k v l r =>
   obtain ⟨hb, h0, h1, h2, h3, h4, hl, hr⟩ := HC.out; simp only [Tr.pt]; clear h1 h4; by_cases hk : k = key
   ·have q1 := toList_beq' (decide_eq_true hk); have HF : Hid ((Tr.node b k v l r).find key = .node b k v l r) := by show _ = _; rw [Tr.find, if_pos hk]
    clear hk; go_wp2_with fail
    go_ret
    exact ⟨by rw [HE.out, HF.out]; rfl, rfl⟩
   ·have q1 := toList_beq' (decide_eq_false hk); cases hlt : lt key k with
    | true =>
     have q2 : Op.bytesLess key.toList k.toList = true := hlt; have HF : Hid ((Tr.node b k v l r).find key = l.find key) := by show _ = _; rw [Tr.find, if_neg hk, if_pos hlt]
     clear hk hlt; have HL := hid hl; clear hl hr h3; go_wp2_with fail
     go_roundg l.n
     case measure => simp only [Tr.n]; omega
     case rel => exact ⟨l, rfl, rfl, HL, by show _ = _; rw [HE.out, HF.out], rfl⟩
    | false =>
     have q2 : Op.bytesLess key.toList k.toList = false := hlt; have HF : Hid ((Tr.node b k v l r).find key = r.find key) := by show _ = _; rw [Tr.find, if_neg hk, if_neg (by rw [hlt]; decide)]
     clear hk hlt; have HL := hid hr; clear hl hr h2; go_wp2_with fail
     go_roundg r.n
     case measure => simp only [Tr.n]; omega
     case rel => exact ⟨r, rfl, rfl, HL, by show _ = _; rw [HE.out, HF.out], rfl⟩
open Go.RowKit Go.Sort
theorem leq_less' : ∀ a b : List UInt8, (Op.bytesLess a b || a == b) = !Op.bytesLess b a
 | a, b => by
  rcases bless_tri a b with h | h | h
  ·subst h; rw [bless_irrefl]; simp
  ·have h2 : Op.bytesLess b a = false := by
    cases hb : Op.bytesLess b a with
    | false => rfl
    | true => exact absurd (bless_trans _ _ _ h hb) (by rw [bless_irrefl]; decide)
   rw [h, h2]; rfl
  ·have h2 : Op.bytesLess a b = false := by
    cases hb : Op.bytesLess a b with
    | false => rfl
    | true => exact absurd (bless_trans _ _ _ h hb) (by rw [bless_irrefl]; decide)
   have h3 : (a == b) = false := by
    rw [beq_eq_false_iff_ne]; intro e; subst e; rw [bless_irrefl] at h; cases h
   rw [h, h2, h3]; rfl
theorem retB {a b : Bool} (h : a = b) : Ending.returned (Value.bool a) = Ending.returned (Value.bool b) := by rw [h]
theorem Below.drewN {B : Nat} {a w : World} (h : Below B a w) (n : Nat) : Below B a (w.drewN n) := ⟨h.os, h.tape, h.output, h.size, h.block⟩
theorem from_is {b : Nat} {k lo hi : ByteArray} {w : World} {u : Bool} (hu : fromB lo k = u) (h0 : w.cell? ⟨b, 0, none⟩ = some (.string k)) :
  Calls Tryz.prog 231 #[.pointer (some ⟨b, 0, none⟩), .agg #[.string lo, .string hi]] w fun e w' => e = .returned (.bool u) ∧ Below w.heap.size w w' := by
 have hle : (Op.bytesLess lo.toList k.toList || lo.toList == k.toList) = u := by rw [leq_less', ← hu]; rfl
 have k0 : (w.alloc (.cells #[.string lo, .string hi] 126)).cell? ⟨b, 0, none⟩ = some (.string k) := cell_later (Below.al (Below.refl _ w) _) h0; clear hu; go_enter Tryz.func231, Tryz.ntmps231
 go_wp2_with fail
 go_region
 all_goals go_wp2_with fail
 all_goals go_ret
 all_goals exact ⟨retB (by first | rfl | simp_all), by (repeat (first | exact Below.refl _ _ | assumption | refine Below.drew ?_ | refine Below.al ?_ _ | refine Below.setCell ?_ (by first | exact Nat.le_refl _ | simp <;> omega) _ | refine Below.on ?_ (by assumption)))⟩
theorem under_is {b : Nat} {k lo hi : ByteArray} {w : World} {u : Bool} (hu : underB hi k = u) (h0 : w.cell? ⟨b, 0, none⟩ = some (.string k)) :
  Calls Tryz.prog 232 #[.pointer (some ⟨b, 0, none⟩), .agg #[.string lo, .string hi]] w fun e w' => e = .returned (.bool u) ∧ Below w.heap.size w w' := by
 obtain ⟨b2, h2⟩ : ∃ b, hi.toList.isEmpty = b := ⟨_, rfl⟩; obtain ⟨b3, h3⟩ : ∃ b, Op.bytesLess k.toList hi.toList = b := ⟨_, rfl⟩; have HQ : Hid (u = (b2 || b3)) := by show _ = _; rw [← hu, underB, lt, h2, h3]
 have h2' : (hi.toList = []) = (b2 = true) := by rw [← h2]; simp
 have k0 : (w.alloc (.cells #[.string lo, .string hi] 126)).cell? ⟨b, 0, none⟩ = some (.string k) := cell_later (Below.al (Below.refl _ w) _) h0; clear hu; cases b2 <;> cases b3
 all_goals (try simp only [Bool.false_eq_true] at h2')
 all_goals
  go_enter Tryz.func232, Tryz.ntmps232
  go_wp2_with fail
  go_quiet (fail)
  go_wp2_with fail
  go_ret
  exact ⟨retB (by rw [HQ.out]; first | rfl | simp_all), Below.drewN (by (repeat (first | exact Below.refl _ _ | assumption | refine Below.drew ?_ | refine Below.al ?_ _ | refine Below.setCell ?_ (by first | exact Nat.le_refl _ | simp <;> omega) _ | refine Below.on ?_ (by assumption)))) _⟩
open Go.RowKit Go.Sort Go.Shelf
attribute [local go_sem] Oper.semAt_some
theorem YieldAt.anyD {m : Nat} (m' : Nat) {P : Program} {l : Nat} {args : Array Value} {W : World} {R : Ending → World → Prop} (h : YieldAt Fence.wide m P l args W R) : YieldAt Fence.wide m' P l args W R := by
 obtain ⟨fn, tmps, assign, body, hy, hR⟩ := h; exact ⟨fn, tmps, assign, body, hy, ⟨hR.1, fun c cs _ => hR.2 c cs (room_wide _)⟩⟩
structure Loops {α : Type} (f : α → En) (l N : Nat) (J Jx : List α → World → Prop) : Prop where
 round : ∀ m pre x W, J pre W → pre.length < N → YieldAt Fence.wide m Tryz.prog l #[.string (f x).1, .slice (some ⟨(f x).2.g, 0, none⟩) (f x).2.n (f x).2.cap] W fun e W' => ∃ u, e = .returned (.bool u) ∧ (u = true → J (pre ++ [x]) W' ∧ Kp W W') ∧ (u = false → Jx (pre ++ [x]) W')
 later : ∀ pre W W', J pre W → Below W.heap.size W W' → J pre W'
theorem map_parts {α : Type} {f : α → En} {ys : List α} {a b c : List En} (h : ys.map f = a ++ b ++ c) : ∃ y1 y2 y3, ys = y1 ++ y2 ++ y3 ∧ y1.map f = a ∧ y2.map f = b ∧ y3.map f = c := by
 obtain ⟨y12, y3, rfl, h12, h3⟩ := List.map_eq_append_iff.1 h; obtain ⟨y1, y2, rfl, h1, h2⟩ := List.map_eq_append_iff.1 h12; exact ⟨y1, y2, y3, rfl, h1, h2, h3⟩
theorem map_one {α : Type} {f : α → En} {ys : List α} {e : En} (h : ys.map f = [e]) : ∃ y, ys = [y] ∧ f y = e := by
 cases ys with
 | nil => simp at h
 | cons y t =>
  cases t with
  | nil => exact ⟨y, rfl, by simpa using h⟩
  | cons z t => simp at h
def Ran {α : Type} (J Jx : List α → World → Prop) (pre ys : List α) (W : World) : Ending → World → Prop := fun e W' =>
 ∃ u, e = .returned (.bool u) ∧ (u = true → J (pre ++ ys) W' ∧ Kp W W') ∧ (u = false → ∃ q, q <+: ys ∧ Jx (pre ++ q) W')
theorem box_new (w : World) (lo hi : ByteArray) : (w.alloc (.cells #[.string lo, .string hi] 126)).heap[w.heap.size]? = some (.cells #[.string lo, .string hi] 126 (0, 0)) := World.alloc_heap_new w _
theorem box_kp {w w' : World} {B : Nat} {lo hi : ByteArray} (h : Kp w w') (hb : w.heap[B]? = some (.cells #[.string lo, .string hi] 126 (0, 0))) : w'.heap[B]? = some (.cells #[.string lo, .string hi] 126 (0, 0)) := h.2 B _ _ _ (.inr (.inl rfl)) hb
end Go.Proofs.YtofpaldolcnmiaaGreat.Vs
