import Derived.Test.YtneojeidpfjpbaaGreatDoorB01
set_option linter.unusedVariables false
namespace Go.Proofs.YtneojeidpfjpbaaGreatDoor
theorem snoc_ind {α : Type} {P : List α → Prop} (nil : P []) (snoc : ∀ l a, P l → P (l ++ [a])) (l : List α) : P l := by
 have h : ∀ r : List α, P r.reverse := fun r => by
  induction r with
  | nil => exact nil
  | cons a r ih => rw [List.reverse_cons]; exact snoc _ _ ih
 have := h l.reverse; rwa [List.reverse_reverse] at this
abbrev Key := List UInt8
theorem bless_irrefl : ∀ a : Key, Op.bytesLess a a = false
 | [] => rfl
 | a :: x => by
  have ih := bless_irrefl x; have h : ¬ a < a := by show ¬ a.toNat < a.toNat; omega
  rw [Op.bytesLess, ih]; simp [h]
theorem bless_trans : ∀ a b c : Key, Op.bytesLess a b = true → Op.bytesLess b c = true → Op.bytesLess a c = true
 | _, _, [], _, h => by rw [Op.bytesLess] at h; cases h
 | [], _, _ :: _, _, _ => rfl
 | _ :: _, [], _ :: _, h, _ => by rw [Op.bytesLess] at h; cases h
 | a :: x, b :: y, c :: z, h1, h2 => by
  rw [Op.bytesLess] at h1 h2 ⊢; simp only [Bool.or_eq_true, Bool.and_eq_true, decide_eq_true_eq, beq_iff_eq] at h1 h2 ⊢; rcases h1 with h1 | ⟨rfl, h1⟩
  ·rcases h2 with h2 | ⟨rfl, h2⟩
   ·left
    have e1 : a.toNat < b.toNat := h1; have e2 : b.toNat < c.toNat := h2; show a.toNat < c.toNat
    omega
   ·exact .inl h1
  ·rcases h2 with h2 | ⟨rfl, h2⟩
   ·exact .inl h2
   ·exact .inr ⟨rfl, bless_trans x y z h1 h2⟩
theorem bless_tri : ∀ a b : Key, a = b ∨ Op.bytesLess a b = true ∨ Op.bytesLess b a = true
 | [], [] => .inl rfl
 | [], _ :: _ => .inr (.inl rfl)
 | _ :: _, [] => .inr (.inr rfl)
 | a :: x, b :: y => by
  rw [Op.bytesLess, Op.bytesLess]; simp only [Bool.or_eq_true, Bool.and_eq_true, decide_eq_true_eq, beq_iff_eq]; rcases Nat.lt_trichotomy a.toNat b.toNat with h | h | h
  ·exact .inr (.inl (.inl h))
  ·obtain rfl : a = b := UInt8.toNat.inj h; rcases bless_tri x y with h | h | h
   ·exact .inl (by rw [h])
   ·exact .inr (.inl (.inr ⟨rfl, h⟩))
   ·exact .inr (.inr (.inr ⟨rfl, h⟩))
  ·exact .inr (.inr (.inl h))
def lt (a b : ByteArray) : Bool := Op.bytesLess a.toList b.toList
theorem bytes_inj {a b : ByteArray} (h : a.toList = b.toList) : a = b := by
 rw [ByteArray.toList_eq, ByteArray.toList_eq] at h; exact ByteArray.ext (Array.toList_inj.1 h)
theorem lt_irrefl (a : ByteArray) : lt a a = false := bless_irrefl _
theorem lt_trans {a b c : ByteArray} (h1 : lt a b = true) (h2 : lt b c = true) : lt a c = true := bless_trans _ _ _ h1 h2
theorem lt_tri (a b : ByteArray) : a = b ∨ lt a b = true ∨ lt b a = true := (bless_tri a.toList b.toList).imp bytes_inj id
theorem lt_ne {a b : ByteArray} (h : lt a b = true) : a ≠ b := fun e => by subst e; rw [lt_irrefl] at h; cases h
theorem lt_asymm {a b : ByteArray} (h : lt a b = true) : lt b a = false := by
 cases hb : lt b a with
 | false => rfl
 | true => exact absurd (lt_trans h hb) (by rw [lt_irrefl]; decide)
def inS (lo hi k : ByteArray) : Bool := !lt k lo && (hi.toList.isEmpty || lt k hi)
end Go.Proofs.YtneojeidpfjpbaaGreatDoor
namespace Go.Proofs.YtneojeidpfjpbaaGreatDoor.Vs
structure Sp where
 a : Int
 b : Int
 c : Int
structure Ver where
 s : Sp
 del : Bool
 val : ByteArray
structure Hd where
 g : Nat
 n : Nat
 cap : Nat
 vs : List Ver
abbrev En := ByteArray × Hd
variable {β : Type}
def Rising (l : List (ByteArray × β)) : Prop := l.Pairwise fun x y => lt x.1 y.1 = true
theorem rising_ext : ∀ {l m : List (ByteArray × β)}, Rising l → Rising m → (∀ e, e ∈ l ↔ e ∈ m) → l = m
 | [], [], _, _, _ => rfl
 | [], y :: m, _, _, h => absurd ((h y).2 (List.mem_cons_self ..)) (by simp)
 | x :: l, [], _, _, h => absurd ((h x).1 (List.mem_cons_self ..)) (by simp)
 | x :: l, y :: m, hl, hm, h => by
  have hl' := List.pairwise_cons.1 hl; have hm' := List.pairwise_cons.1 hm; have hxy : x = y := by
   rcases List.mem_cons.1 ((h x).1 (List.mem_cons_self ..)) with e | e
   ·exact e
   ·rcases List.mem_cons.1 ((h y).2 (List.mem_cons_self ..)) with e' | e'
    ·exact e'.symm
    ·have h1 := hm'.1 x e; have h2 := hl'.1 y e'; exact absurd (lt_trans h1 h2) (by rw [lt_irrefl]; decide)
  subst hxy; congr 1
  refine rising_ext hl'.2 hm'.2 fun e => ⟨fun he => ?_, fun he => ?_⟩
  ·rcases List.mem_cons.1 ((h e).1 (List.mem_cons_of_mem _ he)) with e1 | e1
   ·subst e1; exact absurd (hl'.1 _ he) (by rw [lt_irrefl]; decide)
   ·exact e1
  ·rcases List.mem_cons.1 ((h e).2 (List.mem_cons_of_mem _ he)) with e1 | e1
   ·subst e1; exact absurd (hm'.1 _ he) (by rw [lt_irrefl]; decide)
   ·exact e1
theorem rising_key {l : List (ByteArray × β)} (h : Rising l) {k : ByteArray} {v u : β} (h1 : (k, v) ∈ l) (h2 : (k, u) ∈ l) : v = u := by
 induction l with
 | nil => simp at h1
 | cons x l ih =>
  have h' := List.pairwise_cons.1 h; rcases List.mem_cons.1 h1 with e1 | e1
  ·rcases List.mem_cons.1 h2 with e2 | e2
   ·rw [← e1] at e2; injection e2 with _ e; exact e.symm
   ·have := h'.1 _ e2; rw [← e1] at this; exact absurd this (by rw [lt_irrefl]; decide)
  ·rcases List.mem_cons.1 h2 with e2 | e2
   ·have := h'.1 _ e1; rw [← e2] at this; exact absurd this (by rw [lt_irrefl]; decide)
   ·exact ih h'.2 e1 e2
theorem rising_filter {l : List (ByteArray × β)} (h : Rising l) (p : (ByteArray × β) → Bool) : Rising (l.filter p) := List.Pairwise.filter p h
def getX (l : List (ByteArray × β)) (k : ByteArray) : Option β := (l.find? fun e => decide (e.1 = k)).map (·.2)
def setX : List (ByteArray × β) → ByteArray → β → List (ByteArray × β)
 | [], k, v => [(k, v)]
 | e :: l, k, v => if lt e.1 k then e :: setX l k v else if e.1 = k then (k, v) :: l else (k, v) :: e :: l
def delX (l : List (ByteArray × β)) (k : ByteArray) : List (ByteArray × β) := l.filter fun e => !decide (e.1 = k)
def rangeX (l : List (ByteArray × β)) (lo hi : ByteArray) : List (ByteArray × β) := l.filter fun e => inS lo hi e.1
theorem getX_some {l : List (ByteArray × β)} (h : Rising l) {k : ByteArray} {v : β} : getX l k = some v ↔ (k, v) ∈ l := by
 unfold getX; constructor
 ·intro hg; obtain ⟨e, he, rfl⟩ := Option.map_eq_some_iff.1 hg; have h1 := List.find?_some he; have h2 := List.mem_of_find?_eq_some he; simp only [decide_eq_true_eq] at h1; rw [← h1]; exact h2
 ·intro hm; cases hf : l.find? fun e => decide (e.1 = k) with
  | none =>
   have := List.find?_eq_none.1 hf (k, v) hm; simp at this
  | some e =>
   have h1 := List.find?_some hf; have h2 := List.mem_of_find?_eq_some hf; simp only [decide_eq_true_eq] at h1; obtain ⟨ek, ev⟩ := e; subst h1; simp only [Option.map_some]; rw [rising_key h h2 hm]
theorem getX_none {l : List (ByteArray × β)} {k : ByteArray} : getX l k = none ↔ ∀ v, (k, v) ∉ l := by
 unfold getX; rw [Option.map_eq_none_iff, List.find?_eq_none]; constructor
 ·intro h v hm; have := h (k, v) hm; simp at this
 ·intro h e he hk; simp only [decide_eq_true_eq] at hk; obtain ⟨ek, ev⟩ := e; subst hk; exact h ev he
theorem setX_mem {l : List (ByteArray × β)} (h : Rising l) (k : ByteArray) (v : β) (e : (ByteArray × β)) : e ∈ setX l k v ↔ e = (k, v) ∨ (e ∈ l ∧ e.1 ≠ k) := by
 induction l with
 | nil => simp [setX]
 | cons x l ih =>
  have h' := List.pairwise_cons.1 h; unfold setX; split
  ·rename_i hlt; rw [List.mem_cons, ih h'.2, List.mem_cons]; constructor
   ·rintro (rfl | rfl | ⟨h1, h2⟩)
    ·exact .inr ⟨.inl rfl, lt_ne hlt⟩
    ·exact .inl rfl
    ·exact .inr ⟨.inr h1, h2⟩
   ·rintro (rfl | ⟨rfl | h1, h2⟩)
    ·exact .inr (.inl rfl)
    ·exact .inl rfl
    ·exact .inr (.inr ⟨h1, h2⟩)
  ·split
   ·rename_i hnl heq; rw [List.mem_cons, List.mem_cons]; constructor
    ·rintro (rfl | h1)
     ·exact .inl rfl
     ·refine .inr ⟨.inr h1, fun e' => ?_⟩; have := h'.1 e h1; rw [heq, e'] at this; rw [lt_irrefl] at this; cases this
    ·rintro (rfl | ⟨rfl | h1, h2⟩)
     ·exact .inl rfl
     ·exact absurd heq h2
     ·exact .inr h1
   ·rename_i hnl hne; rw [List.mem_cons]; constructor
    ·rintro (rfl | h1)
     ·exact .inl rfl
     ·refine .inr ⟨h1, fun e' => ?_⟩; rcases List.mem_cons.1 h1 with rfl | h2
      ·exact hne e'
      ·have h3 := h'.1 e h2; rcases lt_tri x.1 k with h4 | h4 | h4
       ·exact hne h4
       ·exact hnl h4
       ·rw [e'] at h3; exact hnl h3
    ·rintro (rfl | ⟨h1, h2⟩)
     ·exact .inl rfl
     ·exact .inr h1
theorem setX_rising {l : List (ByteArray × β)} (h : Rising l) (k : ByteArray) (v : β) : Rising (setX l k v) := by
 induction l with
 | nil => exact List.pairwise_singleton _ _
 | cons x l ih =>
  have h' := List.pairwise_cons.1 h; unfold setX; split
  ·rename_i hlt; refine List.pairwise_cons.2 ⟨fun e he => ?_, ih h'.2⟩; rcases (setX_mem h'.2 k v e).1 he with rfl | ⟨h1, -⟩
   ·exact hlt
   ·exact h'.1 e h1
  ·rename_i hnl; split
   ·rename_i heq; refine List.pairwise_cons.2 ⟨fun e he => ?_, h'.2⟩; have := h'.1 e he; rw [heq] at this; exact this
   ·rename_i hne; have hk : lt k x.1 = true := by
     rcases lt_tri x.1 k with h4 | h4 | h4
     ·exact absurd h4 hne
     ·exact absurd h4 hnl
     ·exact h4
    refine List.pairwise_cons.2 ⟨fun e he => ?_, h⟩; rcases List.mem_cons.1 he with rfl | h1
    ·exact hk
    ·exact lt_trans hk (h'.1 e h1)
theorem delX_mem (l : List (ByteArray × β)) (k : ByteArray) (e : (ByteArray × β)) : e ∈ delX l k ↔ e ∈ l ∧ e.1 ≠ k := by simp [delX, List.mem_filter]
theorem delX_rising {l : List (ByteArray × β)} (h : Rising l) (k : ByteArray) : Rising (delX l k) := rising_filter h _
theorem rangeX_all (l : List (ByteArray × β)) : rangeX l ⟨#[]⟩ ⟨#[]⟩ = l := by
 unfold rangeX; refine List.filter_eq_self.2 fun e _ => ?_
 have h1 : (ByteArray.mk #[]).toList = ([] : List UInt8) := by rw [ByteArray.toList_eq]
 have h2 : ∀ a : List UInt8, Op.bytesLess a [] = false := fun a => by cases a <;> rfl
 simp [inS, lt, h1, h2]
open Go.RowKit Go.Sort
inductive Tr where
 | nil
 | node (b : Nat) (k : ByteArray) (v : Hd) (l r : Tr)
def Tr.pt : Tr → Option Addr
 | .nil => none
 | .node b _ _ _ _ => some ⟨b, 0, none⟩
def Tr.list : Tr → List En
 | .nil => []
 | .node _ k v l r => l.list ++ (k, v) :: r.list
def Tr.n : Tr → Nat
 | .nil => 0
 | .node _ _ _ l r => l.n + 1 + r.n
theorem Tr.len : ∀ T : Tr, T.list.length = T.n
 | .nil => rfl
 | .node _ _ _ l r => by simp [Tr.list, Tr.n, Tr.len l, Tr.len r]; omega
def TrIn (S : Nat → Prop) (w : World) : Tr → Prop
 | .nil => True
 | .node b k v l r => (S b ∧ w.heap[b]? = some (.cells #[.string k, .slice (some ⟨v.g, 0, none⟩) v.n v.cap, .pointer l.pt, .pointer r.pt, .int .i64 ((l.n + 1 + r.n : Nat) : Int)] 249 (0, 0))) ∧ w.cell? ⟨b, 0, none⟩ = some (.string k) ∧ w.cell? ⟨b, 1, none⟩ = some (.slice (some ⟨v.g, 0, none⟩) v.n v.cap) ∧ w.cell? ⟨b, 2, none⟩ = some (.pointer l.pt) ∧
   w.cell? ⟨b, 3, none⟩ = some (.pointer r.pt) ∧ w.cell? ⟨b, 4, none⟩ = some (.int .i64 ((l.n + 1 + r.n : Nat) : Int)) ∧ TrIn S w l ∧ TrIn S w r
def Keeps (S : Nat → Prop) (w w' : World) : Prop := ∀ b, S b → b < w.heap.size → w'.heap[b]? = w.heap[b]?
theorem Keeps.of_below {S : Nat → Prop} {w w' : World} (h : Below w.heap.size w w') : Keeps S w w' := fun b _ hb => h.block b hb
theorem Keeps.cell {S : Nat → Prop} {w w' : World} (h : Keeps S w w') {b o : Nat} {v : Value} (hb : S b) (k : w.cell? ⟨b, o, none⟩ = some v) : w'.cell? ⟨b, o, none⟩ = some v := by
 rw [← k]; exact World.cell?_of_block (a := ⟨b, o, none⟩) (h b hb (World.block_lt_of_cell? _ _ k))
theorem TrIn.keeps {S : Nat → Prop} {w w' : World} (h : Keeps S w w') : ∀ {T : Tr}, TrIn S w T → TrIn S w' T
 | .nil, _ => trivial
 | .node b k v l r, ⟨⟨hb, ho⟩, h0, h1, h2, h3, h4, hl, hr⟩ => ⟨⟨hb, (h b hb (World.block_lt_of_cell? _ _ h0)).trans ho⟩, h.cell hb h0, h.cell hb h1, h.cell hb h2, h.cell hb h3, h.cell hb h4, TrIn.keeps h hl, TrIn.keeps h hr⟩
theorem TrIn.later {S : Nat → Prop} {w w' : World} {T : Tr} (h : TrIn S w T) (hb : Below w.heap.size w w') : TrIn S w' T := h.keeps (Keeps.of_below hb)
def IxT (t : TypeId) : Prop := t = 249 ∨ t = 25 ∨ t = 75
def Kp (w w' : World) : Prop := w.heap.size ≤ w'.heap.size ∧ ∀ (b : Nat) (cs : Array Value) (t : TypeId) (z : Nat × Nat), IxT t → w.heap[b]? = some (.cells cs t z) → w'.heap[b]? = some (.cells cs t z)
theorem Kp.trans {a b c : World} (h : Kp a b) (k : Kp b c) : Kp a c := ⟨Nat.le_trans h.1 k.1, fun i cs t z ht hi => k.2 i cs t z ht (h.2 i cs t z ht hi)⟩
theorem Kp.of_below {w w' : World} (h : Below w.heap.size w w') : Kp w w' := ⟨h.size, fun b cs t z _ hb => (h.block b (Array.getElem?_eq_some_iff.1 hb).1).trans hb⟩
theorem Kp.of_onl {F : Nat → Prop} {w w' : World} (h : Onl F w w') (hF : ∀ (b : Nat) (cs : Array Value) (t : TypeId) (z : Nat × Nat), F b → w.heap[b]? = some (.cells cs t z) → ¬ IxT t) : Kp w w' :=
 ⟨h.size, fun b cs t z ht hb => (h.block b (Array.getElem?_eq_some_iff.1 hb).1 (fun hf => hF b cs t z hf hb ht)).trans hb⟩
theorem cell_of_obj {w : World} {b o : Nat} {cs : Array Value} {t : TypeId} {z : Nat × Nat} {v : Value} (h : w.heap[b]? = some (.cells cs t z)) (hv : cs[o]? = some v) : w.cell? ⟨b, o, none⟩ = some v := by
 simp only [World.cell?, h]; exact hv
theorem TrIn.kp {S : Nat → Prop} {w w' : World} (h : Kp w w') : ∀ {T : Tr}, TrIn S w T → TrIn S w' T
 | .nil, _ => trivial
 | .node b k v l r, ⟨⟨hb, ho⟩, h0, h1, h2, h3, h4, hl, hr⟩ => by
  have ho' := h.2 b _ _ _ (.inl rfl) ho; exact ⟨⟨hb, ho'⟩, cell_of_obj ho' rfl, cell_of_obj ho' rfl, cell_of_obj ho' rfl, cell_of_obj ho' rfl, cell_of_obj ho' rfl, TrIn.kp h hl, TrIn.kp h hr⟩
theorem rising_parts {l r : List En} {k : ByteArray} {v : Hd} (h : Rising (l ++ (k, v) :: r)) : Rising l ∧ Rising r ∧ (∀ e ∈ l, lt e.1 k = true) ∧ (∀ e ∈ r, lt k e.1 = true) := by
 have h1 := List.pairwise_append.1 h; have h2 := List.pairwise_cons.1 h1.2.1; exact ⟨h1.1, h2.2, fun e he => h1.2.2 e he (k, v) (by simp), fun e he => h2.1 e he⟩
theorem getX_left {l r : List En} {k key : ByteArray} {v : Hd} (h : Rising (l ++ (k, v) :: r)) (hk : lt key k = true) : getX (l ++ (k, v) :: r) key = getX l key := by
 obtain ⟨hl, hr, h1, h2⟩ := rising_parts h; cases hg : getX l key with
 | some u => exact (getX_some h).2 (List.mem_append_left _ ((getX_some hl).1 hg))
 | none =>
  refine getX_none.2 fun u hu => ?_
  rcases List.mem_append.1 hu with h3 | h3
  ·exact getX_none.1 hg u h3
  ·rcases List.mem_cons.1 h3 with h4 | h4
   ·injection h4 with h5 _; exact lt_ne hk h5
   ·exact absurd (lt_trans hk (h2 _ h4)) (by rw [lt_irrefl]; decide)
theorem getX_right {l r : List En} {k key : ByteArray} {v : Hd} (h : Rising (l ++ (k, v) :: r)) (hk : lt k key = true) : getX (l ++ (k, v) :: r) key = getX r key := by
 obtain ⟨hl, hr, h1, h2⟩ := rising_parts h; cases hg : getX r key with
 | some u => exact (getX_some h).2 (List.mem_append_right _ (List.mem_cons_of_mem _ ((getX_some hr).1 hg)))
 | none =>
  refine getX_none.2 fun u hu => ?_
  rcases List.mem_append.1 hu with h3 | h3
  ·exact absurd (lt_trans hk (h1 _ h3)) (by rw [lt_irrefl]; decide)
  ·rcases List.mem_cons.1 h3 with h4 | h4
   ·injection h4 with h5 _; exact lt_ne hk h5.symm
   ·exact getX_none.1 hg u h4
theorem getX_mid {l r : List En} {k : ByteArray} {v : Hd} (h : Rising (l ++ (k, v) :: r)) : getX (l ++ (k, v) :: r) k = some v := (getX_some h).2 (by simp)
theorem setX_left {l r : List En} {k key : ByteArray} {v u : Hd} (hk : lt key k = true) : setX (l ++ (k, v) :: r) key u = setX l key u ++ (k, v) :: r := by
 induction l with
 | nil =>
  simp only [List.nil_append, setX]; rw [if_neg (by rw [lt_asymm hk]; decide), if_neg (fun e => lt_ne hk e.symm)]; rfl
 | cons x l ih =>
  simp only [List.cons_append, setX]; split
  ·rw [ih]; rfl
  ·split <;> rfl
theorem setX_right {l r : List En} {k key : ByteArray} {v u : Hd} (h1 : ∀ e ∈ l, lt e.1 k = true) (hk : lt k key = true) : setX (l ++ (k, v) :: r) key u = l ++ (k, v) :: setX r key u := by
 induction l with
 | nil => simp only [List.nil_append, setX]; rw [if_pos hk]
 | cons x l ih =>
  simp only [List.cons_append, setX]; rw [if_pos (lt_trans (h1 x (by simp)) hk), ih (fun e he => h1 e (by simp [he]))]
theorem setX_mid {l r : List En} {k : ByteArray} {v u : Hd} (h1 : ∀ e ∈ l, lt e.1 k = true) : setX (l ++ (k, v) :: r) k u = l ++ (k, u) :: r := by
 induction l with
 | nil => simp [setX, lt_irrefl]
 | cons x l ih =>
  simp only [List.cons_append, setX]; rw [if_pos (h1 x (by simp)), ih (fun e he => h1 e (by simp [he]))]
theorem delX_none {l : List En} {k : ByteArray} (h : ∀ e ∈ l, e.1 ≠ k) : delX l k = l := by
 rw [delX, List.filter_eq_self]; intro e he; simp [h e he]
theorem delX_left {l r : List En} {k key : ByteArray} {v : Hd} (h2 : ∀ e ∈ r, lt k e.1 = true) (hk : lt key k = true) : delX (l ++ (k, v) :: r) key = delX l key ++ (k, v) :: r := by
 have : delX ((k, v) :: r) key = (k, v) :: r := delX_none fun e he => by
  rcases List.mem_cons.1 he with rfl | he
  ·exact fun e => lt_ne hk e.symm
  ·exact fun e' => lt_ne (lt_trans hk (h2 e he)) e'.symm
 rw [delX, List.filter_append]; exact congrArg _ this
theorem delX_right {l r : List En} {k key : ByteArray} {v : Hd} (h1 : ∀ e ∈ l, lt e.1 k = true) (hk : lt k key = true) : delX (l ++ (k, v) :: r) key = l ++ (k, v) :: delX r key := by
 have : delX l key = l := delX_none fun e he => lt_ne (lt_trans (h1 e he) hk)
 rw [delX, List.filter_append, show l.filter _ = l from this, List.filter_cons, if_pos (by simp [lt_ne hk])]; rfl
theorem delX_mid {l r : List En} {k : ByteArray} {v : Hd} (h1 : ∀ e ∈ l, lt e.1 k = true) (h2 : ∀ e ∈ r, lt k e.1 = true) : delX (l ++ (k, v) :: r) k = l ++ r := by
 rw [delX, List.filter_append, List.filter_cons, if_neg (by simp), show l.filter _ = l from delX_none fun e he => lt_ne (h1 e he), show r.filter _ = r from delX_none fun e he e' => lt_ne (h2 e he) e'.symm]
def Tr.find : Tr → ByteArray → Tr
 | .nil, _ => .nil
 | .node b k v l r, key => if k = key then .node b k v l r else if lt key k then l.find key else r.find key
def Tr.val : Tr → Option Hd
 | .nil => none
 | .node _ _ v _ _ => some v
theorem Tr.find_is : ∀ (T : Tr) (key : ByteArray), Rising T.list → (T.find key).val = getX T.list key
 | .nil, key, _ => rfl
 | .node b k v l r, key, h => by
  obtain ⟨hl, hr, h1, h2⟩ := rising_parts h; unfold Tr.find; split
  ·rename_i e; subst e; rw [show Tr.list _ = _ from rfl, Tr.list, getX_mid h]; rfl
  ·rename_i hne; split
   ·rename_i hlt; rw [Tr.find_is l key hl, Tr.list, getX_left h hlt]
   ·rename_i hnl; have hlt : lt k key = true := by
     rcases lt_tri k key with e | e | e
     ·exact absurd e hne
     ·exact e
     ·exact absurd e hnl
    rw [Tr.find_is r key hr, Tr.list, getX_right h hlt]
theorem TrIn.find {S : Nat → Prop} {w : World} : ∀ {T : Tr} (key : ByteArray), TrIn S w T → TrIn S w (T.find key)
 | .nil, _, h => h
 | .node b k v l r, key, h => by
  unfold Tr.find; split
  ·exact h
  ·split
   ·exact TrIn.find key h.2.2.2.2.2.2.1
   ·exact TrIn.find key h.2.2.2.2.2.2.2
def fromB (lo k : ByteArray) : Bool := !lt k lo
def underB (hi k : ByteArray) : Bool := hi.toList.isEmpty || lt k hi
theorem inS_is (lo hi k : ByteArray) : inS lo hi k = (fromB lo k && underB hi k) := rfl
theorem range_left {l : List En} {k lo hi : ByteArray} (h1 : ∀ e ∈ l, lt e.1 k = true) (hf : fromB lo k = false) : rangeX l lo hi = [] := by
 rw [rangeX, List.filter_eq_nil_iff]; intro e he; have : lt k lo = true := by simpa [fromB] using hf
 simp [inS, lt_trans (h1 e he) this]
theorem range_right {r : List En} {k lo hi : ByteArray} (h2 : ∀ e ∈ r, lt k e.1 = true) (hu : underB hi k = false) : rangeX r lo hi = [] := by
 rw [rangeX, List.filter_eq_nil_iff]; intro e he; simp only [underB, Bool.or_eq_false_iff] at hu; have h3 : lt e.1 hi = false := by
  cases h : lt e.1 hi with
  | false => rfl
  | true => exact absurd (lt_trans (h2 e he) h) (by rw [hu.2]; decide)
 simp [inS, hu.1, h3]
theorem range_node {l r : List En} {k lo hi : ByteArray} {v : Hd} : rangeX (l ++ (k, v) :: r) lo hi = rangeX l lo hi ++ (if inS lo hi k then [(k, v)] else []) ++ rangeX r lo hi := by
 simp only [rangeX, List.filter_append, List.filter_cons, List.append_assoc]; split <;> simp
end Go.Proofs.YtneojeidpfjpbaaGreatDoor.Vs
