import Derived.Test.YtmlacdfdpdkdaaaDoorIPlain
import Derived.Test.YtmlacdfdpdkdaaaDoorDOnl
import Derived.Deep.RegionHeld3
import Derived.RangeFuncBox
import Derived.RangeFuncNested
import Derived.RangeFuncBound
import Derived.RangeFuncCalls
import Derived.RangeFuncLeaves
import Derived.Shelf.Abstract
import Derived.Shelf.RegionOpen
import Derived.OwnWalkIn
import Derived.TacticsInMore
import Derived.LoopNIn
import Derived.LoopIn
import Derived.Stop.RegionWithIn
/- Plain: an index of chains as a rising list. -/
namespace Go.Proofs.YtmlacdfdpdkdaaaDoor.Vs
set_option linter.unusedVariables false

/-- a stamp -/
structure Sp where
  a : Int
  b : Int
  c : Int
/-- a version of a key: its stamp, is it a tombstone, its value -/
structure Ver where
  s : Sp
  del : Bool
  val : ByteArray
/-- a chain: its block, how many versions, the room, the versions -/
structure Hd where
  g : Nat
  n : Nat
  cap : Nat
  vs : List Ver
abbrev En := ByteArray × Hd
variable {β : Type}
/-- a key and its value -/
def Rising (l : List (ByteArray × β)) : Prop := l.Pairwise fun x y => lt x.1 y.1 = true
/-- rising lists of the same entries are the same -/
theorem rising_ext : ∀ {l m : List (ByteArray × β)}, Rising l → Rising m → (∀ e, e ∈ l ↔ e ∈ m) → l = m
  | [], [], _, _, _ => rfl
  | [], y :: m, _, _, h => absurd ((h y).2 (List.mem_cons_self ..)) (by simp)
  | x :: l, [], _, _, h => absurd ((h x).1 (List.mem_cons_self ..)) (by simp)
  | x :: l, y :: m, hl, hm, h => by
    have hl' := List.pairwise_cons.1 hl
    have hm' := List.pairwise_cons.1 hm
    have hxy : x = y := by
      rcases List.mem_cons.1 ((h x).1 (List.mem_cons_self ..)) with e | e
      · exact e
      · rcases List.mem_cons.1 ((h y).2 (List.mem_cons_self ..)) with e' | e'
        · exact e'.symm
        · have h1 := hm'.1 x e
          have h2 := hl'.1 y e'
          exact absurd (lt_trans h1 h2) (by rw [lt_irrefl]; decide)
    subst hxy
    congr 1
    refine rising_ext hl'.2 hm'.2 fun e => ⟨fun he => ?_, fun he => ?_⟩
    · rcases List.mem_cons.1 ((h e).1 (List.mem_cons_of_mem _ he)) with e1 | e1
      · subst e1; exact absurd (hl'.1 _ he) (by rw [lt_irrefl]; decide)
      · exact e1
    · rcases List.mem_cons.1 ((h e).2 (List.mem_cons_of_mem _ he)) with e1 | e1
      · subst e1; exact absurd (hm'.1 _ he) (by rw [lt_irrefl]; decide)
      · exact e1
theorem rising_key {l : List (ByteArray × β)} (h : Rising l) {k : ByteArray} {v u : β} (h1 : (k, v) ∈ l) (h2 : (k, u) ∈ l) : v = u := by
  induction l with
  | nil => simp at h1
  | cons x l ih =>
    have h' := List.pairwise_cons.1 h
    rcases List.mem_cons.1 h1 with e1 | e1
    · rcases List.mem_cons.1 h2 with e2 | e2
      · rw [← e1] at e2; injection e2 with _ e; exact e.symm
      · have := h'.1 _ e2; rw [← e1] at this; exact absurd this (by rw [lt_irrefl]; decide)
    · rcases List.mem_cons.1 h2 with e2 | e2
      · have := h'.1 _ e1; rw [← e2] at this; exact absurd this (by rw [lt_irrefl]; decide)
      · exact ih h'.2 e1 e2
theorem rising_filter {l : List (ByteArray × β)} (h : Rising l) (p : (ByteArray × β) → Bool) : Rising (l.filter p) := List.Pairwise.filter p h

/-- what an index says -/
def getX (l : List (ByteArray × β)) (k : ByteArray) : Option β := (l.find? fun e => decide (e.1 = k)).map (·.2)
/-- one more, or another value -/
def setX : List (ByteArray × β) → ByteArray → β → List (ByteArray × β)
  | [], k, v => [(k, v)]
  | e :: l, k, v => if lt e.1 k then e :: setX l k v else if e.1 = k then (k, v) :: l else (k, v) :: e :: l
def delX (l : List (ByteArray × β)) (k : ByteArray) : List (ByteArray × β) := l.filter fun e => !decide (e.1 = k)
def rangeX (l : List (ByteArray × β)) (lo hi : ByteArray) : List (ByteArray × β) := l.filter fun e => inS lo hi e.1
def floorX (l : List (ByteArray × β)) (k : ByteArray) : Option (ByteArray × β) := (l.filter fun e => !lt k e.1).getLast?
def ceilX (l : List (ByteArray × β)) (k : ByteArray) : Option (ByteArray × β) := (l.filter fun e => !lt e.1 k).head?
theorem getX_some {l : List (ByteArray × β)} (h : Rising l) {k : ByteArray} {v : β} : getX l k = some v ↔ (k, v) ∈ l := by
  unfold getX
  constructor
  · intro hg
    obtain ⟨e, he, rfl⟩ := Option.map_eq_some_iff.1 hg
    have h1 := List.find?_some he
    have h2 := List.mem_of_find?_eq_some he
    simp only [decide_eq_true_eq] at h1
    rw [← h1]; exact h2
  · intro hm
    cases hf : l.find? fun e => decide (e.1 = k) with
    | none =>
      have := List.find?_eq_none.1 hf (k, v) hm
      simp at this
    | some e =>
      have h1 := List.find?_some hf
      have h2 := List.mem_of_find?_eq_some hf
      simp only [decide_eq_true_eq] at h1
      obtain ⟨ek, ev⟩ := e
      subst h1
      simp only [Option.map_some]
      rw [rising_key h h2 hm]
theorem getX_none {l : List (ByteArray × β)} {k : ByteArray} : getX l k = none ↔ ∀ v, (k, v) ∉ l := by
  unfold getX
  rw [Option.map_eq_none_iff, List.find?_eq_none]
  constructor
  · intro h v hm
    have := h (k, v) hm
    simp at this
  · intro h e he hk
    simp only [decide_eq_true_eq] at hk
    obtain ⟨ek, ev⟩ := e
    subst hk
    exact h ev he
theorem setX_mem {l : List (ByteArray × β)} (h : Rising l) (k : ByteArray) (v : β) (e : (ByteArray × β)) : e ∈ setX l k v ↔ e = (k, v) ∨ (e ∈ l ∧ e.1 ≠ k) := by
  induction l with
  | nil => simp [setX]
  | cons x l ih =>
    have h' := List.pairwise_cons.1 h
    unfold setX
    split
    · rename_i hlt
      rw [List.mem_cons, ih h'.2, List.mem_cons]
      constructor
      · rintro (rfl | rfl | ⟨h1, h2⟩)
        · exact .inr ⟨.inl rfl, lt_ne hlt⟩
        · exact .inl rfl
        · exact .inr ⟨.inr h1, h2⟩
      · rintro (rfl | ⟨rfl | h1, h2⟩)
        · exact .inr (.inl rfl)
        · exact .inl rfl
        · exact .inr (.inr ⟨h1, h2⟩)
    · split
      · rename_i hnl heq
        rw [List.mem_cons, List.mem_cons]
        constructor
        · rintro (rfl | h1)
          · exact .inl rfl
          · refine .inr ⟨.inr h1, fun e' => ?_⟩
            have := h'.1 e h1
            rw [heq, e'] at this
            rw [lt_irrefl] at this; cases this
        · rintro (rfl | ⟨rfl | h1, h2⟩)
          · exact .inl rfl
          · exact absurd heq h2
          · exact .inr h1
      · rename_i hnl hne
        rw [List.mem_cons]
        constructor
        · rintro (rfl | h1)
          · exact .inl rfl
          · refine .inr ⟨h1, fun e' => ?_⟩
            rcases List.mem_cons.1 h1 with rfl | h2
            · exact hne e'
            · have h3 := h'.1 e h2
              rcases lt_tri x.1 k with h4 | h4 | h4
              · exact hne h4
              · exact hnl h4
              · rw [e'] at h3; exact hnl h3
        · rintro (rfl | ⟨h1, h2⟩)
          · exact .inl rfl
          · exact .inr h1
theorem setX_rising {l : List (ByteArray × β)} (h : Rising l) (k : ByteArray) (v : β) : Rising (setX l k v) := by
  induction l with
  | nil => exact List.pairwise_singleton _ _
  | cons x l ih =>
    have h' := List.pairwise_cons.1 h
    unfold setX
    split
    · rename_i hlt
      refine List.pairwise_cons.2 ⟨fun e he => ?_, ih h'.2⟩
      rcases (setX_mem h'.2 k v e).1 he with rfl | ⟨h1, -⟩
      · exact hlt
      · exact h'.1 e h1
    · rename_i hnl
      split
      · rename_i heq
        refine List.pairwise_cons.2 ⟨fun e he => ?_, h'.2⟩
        have := h'.1 e he
        rw [heq] at this
        exact this
      · rename_i hne
        have hk : lt k x.1 = true := by
          rcases lt_tri x.1 k with h4 | h4 | h4
          · exact absurd h4 hne
          · exact absurd h4 hnl
          · exact h4
        refine List.pairwise_cons.2 ⟨fun e he => ?_, h⟩
        rcases List.mem_cons.1 he with rfl | h1
        · exact hk
        · exact lt_trans hk (h'.1 e h1)
theorem delX_mem (l : List (ByteArray × β)) (k : ByteArray) (e : (ByteArray × β)) : e ∈ delX l k ↔ e ∈ l ∧ e.1 ≠ k := by simp [delX, List.mem_filter]
theorem delX_rising {l : List (ByteArray × β)} (h : Rising l) (k : ByteArray) : Rising (delX l k) := rising_filter h _
theorem rangeX_rising {l : List (ByteArray × β)} (h : Rising l) (lo hi : ByteArray) : Rising (rangeX l lo hi) := rising_filter h _
theorem getX_set {l : List (ByteArray × β)} (h : Rising l) (k : ByteArray) (v : β) : getX (setX l k v) k = some v := (getX_some (setX_rising h k v)).2 ((setX_mem h k v _).2 (.inl rfl))

theorem rangeX_all (l : List (ByteArray × β)) : rangeX l ⟨#[]⟩ ⟨#[]⟩ = l := by
  unfold rangeX
  refine List.filter_eq_self.2 fun e _ => ?_
  have h1 : (ByteArray.mk #[]).toList = ([] : List UInt8) := by rw [ByteArray.toList_eq]
  have h2 : ∀ a : List UInt8, Op.bytesLess a [] = false := fun a => by cases a <;> rfl
  simp [inS, lt, h1, h2]

end Go.Proofs.YtmlacdfdpdkdaaaDoor.Vs
/- A tree of nodes that never change: what it lists, where it lies. No program of ours. -/
namespace Go.Proofs.YtmlacdfdpdkdaaaDoor.Vs
open Go.RowKit Go.Sort
set_option linter.unusedVariables false

/-- a tree of nodes, each in a block of its own -/
inductive Tr where
  | nil
  | node (b : Nat) (k : ByteArray) (v : Hd) (l r : Tr)
def Tr.pt : Tr → Option Addr
  | .nil => none
  | .node b _ _ _ _ => some ⟨b, 0, none⟩
abbrev Tr.ptr (T : Tr) : Value := .pointer T.pt
def Tr.list : Tr → List En
  | .nil => []
  | .node _ k v l r => l.list ++ (k, v) :: r.list
def Tr.n : Tr → Nat
  | .nil => 0
  | .node _ _ _ l r => l.n + 1 + r.n
theorem Tr.len : ∀ T : Tr, T.list.length = T.n
  | .nil => rfl
  | .node _ _ _ l r => by simp [Tr.list, Tr.n, Tr.len l, Tr.len r]; omega
/-- the tree lies in blocks of S -/
def TrIn (S : Nat → Prop) (w : World) : Tr → Prop
  | .nil => True
  | .node b k v l r => (S b ∧ w.heap[b]? = some (.cells #[.string k, .slice (some ⟨v.g, 0, none⟩) v.n v.cap, .pointer l.pt, .pointer r.pt, .int .i64 ((l.n + 1 + r.n : Nat) : Int)] 104 (0, 0))) ∧ w.cell? ⟨b, 0, none⟩ = some (.string k) ∧ w.cell? ⟨b, 1, none⟩ = some (.slice (some ⟨v.g, 0, none⟩) v.n v.cap) ∧ w.cell? ⟨b, 2, none⟩ = some (.pointer l.pt) ∧
      w.cell? ⟨b, 3, none⟩ = some (.pointer r.pt) ∧ w.cell? ⟨b, 4, none⟩ = some (.int .i64 ((l.n + 1 + r.n : Nat) : Int)) ∧ TrIn S w l ∧ TrIn S w r
/-- the blocks of S are as they were -/
def Keeps (S : Nat → Prop) (w w' : World) : Prop := ∀ b, S b → b < w.heap.size → w'.heap[b]? = w.heap[b]?
theorem Keeps.refl (S : Nat → Prop) (w : World) : Keeps S w w := fun _ _ _ => rfl
theorem Keeps.of_below {S : Nat → Prop} {w w' : World} (h : Below w.heap.size w w') : Keeps S w w' := fun b _ hb => h.block b hb
theorem Keeps.of_onl {S F : Nat → Prop} {w w' : World} (h : Onl F w w') (hF : ∀ b, S b → ¬ F b) : Keeps S w w' := fun b hs hb => h.block b hb (hF b hs)
theorem Keeps.cell {S : Nat → Prop} {w w' : World} (h : Keeps S w w') {b o : Nat} {v : Value} (hb : S b) (k : w.cell? ⟨b, o, none⟩ = some v) : w'.cell? ⟨b, o, none⟩ = some v := by
  rw [← k]; exact World.cell?_of_block (a := ⟨b, o, none⟩) (h b hb (World.block_lt_of_cell? _ _ k))
theorem TrIn.keeps {S : Nat → Prop} {w w' : World} (h : Keeps S w w') : ∀ {T : Tr}, TrIn S w T → TrIn S w' T
  | .nil, _ => trivial
  | .node b k v l r, ⟨⟨hb, ho⟩, h0, h1, h2, h3, h4, hl, hr⟩ => ⟨⟨hb, (h b hb (World.block_lt_of_cell? _ _ h0)).trans ho⟩, h.cell hb h0, h.cell hb h1, h.cell hb h2, h.cell hb h3, h.cell hb h4, TrIn.keeps h hl, TrIn.keeps h hr⟩
theorem TrIn.later {S : Nat → Prop} {w w' : World} {T : Tr} (h : TrIn S w T) (hb : Below w.heap.size w w') : TrIn S w' T := h.keeps (Keeps.of_below hb)
theorem TrIn.mono {S S' : Nat → Prop} {w : World} (hS : ∀ b, S b → b < w.heap.size → S' b) : ∀ {T : Tr}, TrIn S w T → TrIn S' w T
  | .nil, _ => trivial
  | .node b k v l r, ⟨⟨hb, ho⟩, h0, h1, h2, h3, h4, hl, hr⟩ => ⟨⟨hS b hb (World.block_lt_of_cell? _ _ h0), ho⟩, h0, h1, h2, h3, h4, TrIn.mono hS hl, TrIn.mono hS hr⟩

/-- what no call ever changes: nodes, spans, variables that hold a root -/
def IxT (t : TypeId) : Prop := t = 104 ∨ t = 38 ∨ t = 62
def Kp (w w' : World) : Prop := w.heap.size ≤ w'.heap.size ∧ ∀ (b : Nat) (cs : Array Value) (t : TypeId) (z : Nat × Nat), IxT t → w.heap[b]? = some (.cells cs t z) → w'.heap[b]? = some (.cells cs t z)
theorem Kp.refl (w : World) : Kp w w := ⟨Nat.le_refl _, fun _ _ _ _ _ h => h⟩
theorem Kp.trans {a b c : World} (h : Kp a b) (k : Kp b c) : Kp a c := ⟨Nat.le_trans h.1 k.1, fun i cs t z ht hi => k.2 i cs t z ht (h.2 i cs t z ht hi)⟩
theorem Kp.of_below {w w' : World} (h : Below w.heap.size w w') : Kp w w' := ⟨h.size, fun b cs t z _ hb => (h.block b (Array.getElem?_eq_some_iff.1 hb).1).trans hb⟩
/-- the blocks that may change are of other types -/
theorem Kp.of_onl {F : Nat → Prop} {w w' : World} (h : Onl F w w') (hF : ∀ (b : Nat) (cs : Array Value) (t : TypeId) (z : Nat × Nat), F b → w.heap[b]? = some (.cells cs t z) → ¬ IxT t) : Kp w w' :=
  ⟨h.size, fun b cs t z ht hb => (h.block b (Array.getElem?_eq_some_iff.1 hb).1 (fun hf => hF b cs t z hf hb ht)).trans hb⟩
theorem cell_of_obj {w : World} {b o : Nat} {cs : Array Value} {t : TypeId} {z : Nat × Nat} {v : Value} (h : w.heap[b]? = some (.cells cs t z)) (hv : cs[o]? = some v) : w.cell? ⟨b, o, none⟩ = some v := by
  simp only [World.cell?, h]; exact hv
theorem TrIn.kp {S : Nat → Prop} {w w' : World} (h : Kp w w') : ∀ {T : Tr}, TrIn S w T → TrIn S w' T
  | .nil, _ => trivial
  | .node b k v l r, ⟨⟨hb, ho⟩, h0, h1, h2, h3, h4, hl, hr⟩ => by
    have ho' := h.2 b _ _ _ (.inl rfl) ho
    exact ⟨⟨hb, ho'⟩, cell_of_obj ho' rfl, cell_of_obj ho' rfl, cell_of_obj ho' rfl, cell_of_obj ho' rfl, cell_of_obj ho' rfl, TrIn.kp h hl, TrIn.kp h hr⟩

/-! ### rising lists, parted at a key -/
theorem rising_parts {l r : List En} {k : ByteArray} {v : Hd} (h : Rising (l ++ (k, v) :: r)) : Rising l ∧ Rising r ∧ (∀ e ∈ l, lt e.1 k = true) ∧ (∀ e ∈ r, lt k e.1 = true) := by
  have h1 := List.pairwise_append.1 h
  have h2 := List.pairwise_cons.1 h1.2.1
  exact ⟨h1.1, h2.2, fun e he => h1.2.2 e he (k, v) (by simp), fun e he => h2.1 e he⟩
theorem rising_join {l r : List En} {k : ByteArray} {v : Hd} (hl : Rising l) (hr : Rising r) (h1 : ∀ e ∈ l, lt e.1 k = true) (h2 : ∀ e ∈ r, lt k e.1 = true) : Rising (l ++ (k, v) :: r) := by
  refine List.pairwise_append.2 ⟨hl, List.pairwise_cons.2 ⟨h2, hr⟩, fun a ha b hb => ?_⟩
  rcases List.mem_cons.1 hb with rfl | hb
  · exact h1 a ha
  · exact lt_trans (h1 a ha) (h2 b hb)
theorem getX_left {l r : List En} {k key : ByteArray} {v : Hd} (h : Rising (l ++ (k, v) :: r)) (hk : lt key k = true) : getX (l ++ (k, v) :: r) key = getX l key := by
  obtain ⟨hl, hr, h1, h2⟩ := rising_parts h
  cases hg : getX l key with
  | some u => exact (getX_some h).2 (List.mem_append_left _ ((getX_some hl).1 hg))
  | none =>
    refine getX_none.2 fun u hu => ?_
    rcases List.mem_append.1 hu with h3 | h3
    · exact getX_none.1 hg u h3
    · rcases List.mem_cons.1 h3 with h4 | h4
      · injection h4 with h5 _; exact lt_ne hk h5
      · exact absurd (lt_trans hk (h2 _ h4)) (by rw [lt_irrefl]; decide)
theorem getX_right {l r : List En} {k key : ByteArray} {v : Hd} (h : Rising (l ++ (k, v) :: r)) (hk : lt k key = true) : getX (l ++ (k, v) :: r) key = getX r key := by
  obtain ⟨hl, hr, h1, h2⟩ := rising_parts h
  cases hg : getX r key with
  | some u => exact (getX_some h).2 (List.mem_append_right _ (List.mem_cons_of_mem _ ((getX_some hr).1 hg)))
  | none =>
    refine getX_none.2 fun u hu => ?_
    rcases List.mem_append.1 hu with h3 | h3
    · exact absurd (lt_trans hk (h1 _ h3)) (by rw [lt_irrefl]; decide)
    · rcases List.mem_cons.1 h3 with h4 | h4
      · injection h4 with h5 _; exact lt_ne hk h5.symm
      · exact getX_none.1 hg u h4
theorem getX_mid {l r : List En} {k : ByteArray} {v : Hd} (h : Rising (l ++ (k, v) :: r)) : getX (l ++ (k, v) :: r) k = some v := (getX_some h).2 (by simp)
theorem setX_left {l r : List En} {k key : ByteArray} {v u : Hd} (hk : lt key k = true) : setX (l ++ (k, v) :: r) key u = setX l key u ++ (k, v) :: r := by
  induction l with
  | nil =>
    simp only [List.nil_append, setX]
    rw [if_neg (by rw [lt_asymm hk]; decide), if_neg (fun e => lt_ne hk e.symm)]
    rfl
  | cons x l ih =>
    simp only [List.cons_append, setX]
    split
    · rw [ih]; rfl
    · split <;> rfl
theorem setX_right {l r : List En} {k key : ByteArray} {v u : Hd} (h1 : ∀ e ∈ l, lt e.1 k = true) (hk : lt k key = true) : setX (l ++ (k, v) :: r) key u = l ++ (k, v) :: setX r key u := by
  induction l with
  | nil => simp only [List.nil_append, setX]; rw [if_pos hk]
  | cons x l ih =>
    simp only [List.cons_append, setX]
    rw [if_pos (lt_trans (h1 x (by simp)) hk), ih (fun e he => h1 e (by simp [he]))]
theorem setX_mid {l r : List En} {k : ByteArray} {v u : Hd} (h1 : ∀ e ∈ l, lt e.1 k = true) : setX (l ++ (k, v) :: r) k u = l ++ (k, u) :: r := by
  induction l with
  | nil => simp [setX, lt_irrefl]
  | cons x l ih =>
    simp only [List.cons_append, setX]
    rw [if_pos (h1 x (by simp)), ih (fun e he => h1 e (by simp [he]))]
theorem delX_none {l : List En} {k : ByteArray} (h : ∀ e ∈ l, e.1 ≠ k) : delX l k = l := by
  rw [delX, List.filter_eq_self]; intro e he; simp [h e he]
theorem delX_left {l r : List En} {k key : ByteArray} {v : Hd} (h2 : ∀ e ∈ r, lt k e.1 = true) (hk : lt key k = true) : delX (l ++ (k, v) :: r) key = delX l key ++ (k, v) :: r := by
  have : delX ((k, v) :: r) key = (k, v) :: r := delX_none fun e he => by
    rcases List.mem_cons.1 he with rfl | he
    · exact fun e => lt_ne hk e.symm
    · exact fun e' => lt_ne (lt_trans hk (h2 e he)) e'.symm
  rw [delX, List.filter_append]; exact congrArg _ this
theorem delX_right {l r : List En} {k key : ByteArray} {v : Hd} (h1 : ∀ e ∈ l, lt e.1 k = true) (hk : lt k key = true) : delX (l ++ (k, v) :: r) key = l ++ (k, v) :: delX r key := by
  have : delX l key = l := delX_none fun e he => lt_ne (lt_trans (h1 e he) hk)
  rw [delX, List.filter_append, show l.filter _ = l from this, List.filter_cons, if_pos (by simp [lt_ne hk])]; rfl
theorem delX_mid {l r : List En} {k : ByteArray} {v : Hd} (h1 : ∀ e ∈ l, lt e.1 k = true) (h2 : ∀ e ∈ r, lt k e.1 = true) : delX (l ++ (k, v) :: r) k = l ++ r := by
  rw [delX, List.filter_append, List.filter_cons, if_neg (by simp), show l.filter _ = l from delX_none fun e he => lt_ne (h1 e he), show r.filter _ = r from delX_none fun e he e' => lt_ne (h2 e he) e'.symm]

/-! ### the tree's ways -/
def Tr.find : Tr → ByteArray → Tr
  | .nil, _ => .nil
  | .node b k v l r, key => if k = key then .node b k v l r else if lt key k then l.find key else r.find key
def Tr.val : Tr → Option Hd
  | .nil => none
  | .node _ _ v _ _ => some v
theorem Tr.find_is : ∀ (T : Tr) (key : ByteArray), Rising T.list → (T.find key).val = getX T.list key
  | .nil, key, _ => rfl
  | .node b k v l r, key, h => by
    obtain ⟨hl, hr, h1, h2⟩ := rising_parts h
    unfold Tr.find
    split
    · rename_i e; subst e; rw [show Tr.list _ = _ from rfl, Tr.list, getX_mid h]; rfl
    · rename_i hne
      split
      · rename_i hlt; rw [Tr.find_is l key hl, Tr.list, getX_left h hlt]
      · rename_i hnl
        have hlt : lt k key = true := by
          rcases lt_tri k key with e | e | e
          · exact absurd e hne
          · exact e
          · exact absurd e hnl
        rw [Tr.find_is r key hr, Tr.list, getX_right h hlt]
theorem TrIn.find {S : Nat → Prop} {w : World} : ∀ {T : Tr} (key : ByteArray), TrIn S w T → TrIn S w (T.find key)
  | .nil, _, h => h
  | .node b k v l r, key, h => by
    unfold Tr.find
    split
    · exact h
    · split
      · exact TrIn.find key h.2.2.2.2.2.2.1
      · exact TrIn.find key h.2.2.2.2.2.2.2

/-! ### spans -/
theorem rangeX_nil (lo hi : ByteArray) : rangeX ([] : List En) lo hi = [] := rfl
def fromB (lo k : ByteArray) : Bool := !lt k lo
def underB (hi k : ByteArray) : Bool := hi.toList.isEmpty || lt k hi
theorem inS_is (lo hi k : ByteArray) : inS lo hi k = (fromB lo k && underB hi k) := rfl
theorem range_left {l : List En} {k lo hi : ByteArray} (h1 : ∀ e ∈ l, lt e.1 k = true) (hf : fromB lo k = false) : rangeX l lo hi = [] := by
  rw [rangeX, List.filter_eq_nil_iff]
  intro e he
  have : lt k lo = true := by simpa [fromB] using hf
  simp [inS, lt_trans (h1 e he) this]
theorem range_right {r : List En} {k lo hi : ByteArray} (h2 : ∀ e ∈ r, lt k e.1 = true) (hu : underB hi k = false) : rangeX r lo hi = [] := by
  rw [rangeX, List.filter_eq_nil_iff]
  intro e he
  simp only [underB, Bool.or_eq_false_iff] at hu
  have h3 : lt e.1 hi = false := by
    cases h : lt e.1 hi with
    | false => rfl
    | true => exact absurd (lt_trans (h2 e he) h) (by rw [hu.2]; decide)
  simp [inS, hu.1, h3]
theorem range_node {l r : List En} {k lo hi : ByteArray} {v : Hd} : rangeX (l ++ (k, v) :: r) lo hi = rangeX l lo hi ++ (if inS lo hi k then [(k, v)] else []) ++ rangeX r lo hi := by
  simp only [rangeX, List.filter_append, List.filter_cons, List.append_assoc]
  split <;> simp

end Go.Proofs.YtmlacdfdpdkdaaaDoor.Vs
namespace Go.Proofs.YtmlacdfdpdkdaaaDoor.Vs
open Go.RowKit Go.Sort
set_option linter.unusedVariables false

theorem node_new {S : Nat → Prop} {w w' : World} {k : ByteArray} {v : Hd} {l r : Tr} {n : Int} (hn : n = ((l.n + 1 + r.n : Nat) : Int)) (hl : TrIn S w l) (hr : TrIn S w r) (hS : S w.heap.size)
    (h : w' = w.alloc (.cells #[.string k, .slice (some ⟨v.g, 0, none⟩) v.n v.cap, .pointer l.pt, .pointer r.pt, .int .i64 n] 104)) : TrIn S w' (.node w.heap.size k v l r) ∧ Below w.heap.size w w' := by
  subst h hn
  have hb : Below w.heap.size w (w.alloc (.cells #[.string k, .slice (some ⟨v.g, 0, none⟩) v.n v.cap, .pointer l.pt, .pointer r.pt, .int .i64 ((l.n + 1 + r.n : Nat) : Int)] 104)) := Below.al (Below.refl _ _) _
  have hc := World.alloc_heap_new w (.cells #[.string k, .slice (some ⟨v.g, 0, none⟩) v.n v.cap, .pointer l.pt, .pointer r.pt, .int .i64 ((l.n + 1 + r.n : Nat) : Int)] 104)
  refine ⟨⟨⟨hS, hc⟩, ?_, ?_, ?_, ?_, ?_, hl.later hb, hr.later hb⟩, hb⟩ <;> (simp only [World.cell?, hc]; rfl)

theorem count_is {S : Nat → Prop} {T : Tr} {w : World} (h : TrIn S w T) :
    Calls Tryd.prog 81 #[.pointer T.pt] w fun e w' => e = .returned (.int .i64 (T.n : Int)) ∧ w' = w := by
  cases T with
  | nil =>
    show Calls Tryd.prog 81 #[.pointer none] w _
    go_enter Tryd.func81, Tryd.ntmps81
    go_wp2_with fail
    go_ret
    exact ⟨rfl, rfl⟩
  | node b k v l r =>
    obtain ⟨hb, h0, h1, h2, h3, h4, hl, hr⟩ := h
    show Calls Tryd.prog 81 #[.pointer (some ⟨b, 0, none⟩)] w _
    clear h0 h1 h2 h3 hl hr
    obtain ⟨m, hm⟩ : ∃ m : Int, m = ((Tr.node b k v l r).n : Int) := ⟨_, rfl⟩
    rw [show ((l.n + 1 + r.n : Nat) : Int) = m from hm.symm] at h4
    rw [← hm]
    clear hm
    go_enter Tryd.func81, Tryd.ntmps81
    go_wp2_with fail
    go_ret
    exact ⟨rfl, rfl⟩
theorem weight_is {S : Nat → Prop} {T : Tr} {w : World} (h : TrIn S w T) (hn : T.n ≤ 1152921504606846976) :
    Calls Tryd.prog 86 #[.pointer T.pt] w fun e w' => e = .returned (.int .i64 ((T.n : Int) + 1)) ∧ w' = w := by
  have hc := count_is h
  obtain ⟨m, hm⟩ : ∃ m : Nat, m = T.n := ⟨_, rfl⟩
  obtain ⟨p, hp⟩ : ∃ p, p = T.pt := ⟨_, rfl⟩
  rw [← hm] at hc hn ⊢
  rw [← hp] at hc ⊢
  clear h hm hp
  go_enter Tryd.func86, Tryd.ntmps86
  go_wp2_with (go_at_call 81; refine hc.mono ?_; clear hc; rintro e w' ⟨rfl, rfl⟩)
  go_ret
  exact ⟨by go_num, rfl⟩

theorem over_is {S : Nat → Prop} {b : Nat} {k : ByteArray} {v : Hd} {l r : Tr} {w : World} (hS : ∀ i, w.heap.size ≤ i → S i) (h0 : w.cell? ⟨b, 0, none⟩ = some (.string k)) (h1 : w.cell? ⟨b, 1, none⟩ = some (.slice (some ⟨v.g, 0, none⟩) v.n v.cap))
    (hl : TrIn S w l) (hr : TrIn S w r) (hn : l.n + r.n ≤ 1152921504606846976) :
    Calls Tryd.prog 89 #[.pointer (some ⟨b, 0, none⟩), .pointer l.pt, .pointer r.pt] w fun e w' => ∃ b', e = .returned (.pointer (some ⟨b', 0, none⟩)) ∧ TrIn S w' (.node b' k v l r) ∧ Below w.heap.size w w' := by
  have cl : ∀ W, Below w.heap.size w W → _ := fun W hb => count_is (hl.later hb)
  have cr : ∀ W, Below w.heap.size w W → _ := fun W hb => count_is (hr.later hb)
  have HL := hid hl
  have HR := hid hr
  obtain ⟨pl, hpl⟩ : ∃ p, p = l.pt := ⟨_, rfl⟩
  obtain ⟨pr, hpr⟩ : ∃ p, p = r.pt := ⟨_, rfl⟩
  obtain ⟨nl, hnl⟩ : ∃ p, p = l.n := ⟨_, rfl⟩
  obtain ⟨nr, hnr⟩ : ∃ p, p = r.n := ⟨_, rfl⟩
  rw [← hpl, ← hnl] at cl
  rw [← hpr, ← hnr] at cr
  rw [← hpl, ← hpr]
  rw [← hnl, ← hnr] at hn
  have HQ := hid (And.intro hpl (And.intro hpr (And.intro hnl hnr)))
  have HS := hid hS
  have CL := hid cl
  have CR := hid cr
  clear hl hr hpl hpr hnl hnr cl cr hS
  go_enter Tryd.func89, Tryd.ntmps89
  go_wp2_with fail
  go_region_held3 (fun w' => w'.cell? ⟨b, 0, none⟩ = some (.string k) ∧ w'.cell? ⟨b, 1, none⟩ = some (.slice (some ⟨v.g, 0, none⟩) v.n v.cap) ∧ Below w.heap.size w w')
    ((refine (fun (hB : Below w.heap.size w _) => ⟨cell_later hB h0, cell_later hB h1, hB⟩) ?_; (repeat (first | exact Below.refl _ _ | assumption | refine Below.drew ?_ | refine Below.al ?_ _ | refine Below.setCell ?_ (by first | exact Nat.le_refl _ | (simp; omega) | (simp; done)) _ | refine Below.on ?_ (by assumption)))))
    (first | (go_at_call_of 81 pl; refine (CL.out _ ?_).mono ?_; ((repeat (first | exact Below.refl _ _ | assumption | refine Below.drew ?_ | refine Below.al ?_ _ | refine Below.setCell ?_ (by first | exact Nat.le_refl _ | (simp; omega) | (simp; done)) _ | refine Below.on ?_ (by assumption)))); rintro e w1 ⟨rfl, rfl⟩) | (go_at_call_of 81 pr; refine (CR.out _ ?_).mono ?_; ((repeat (first | exact Below.refl _ _ | assumption | refine Below.drew ?_ | refine Below.al ?_ _ | refine Below.setCell ?_ (by first | exact Nat.le_refl _ | (simp; omega) | (simp; done)) _ | refine Below.on ?_ (by assumption)))); rintro e w1 ⟨rfl, rfl⟩))
  go_wp2_with fail
  obtain ⟨rfl, rfl, rfl, rfl⟩ := HQ.out
  obtain ⟨t1, t2⟩ := node_new (S := S) (k := k) (v := v) (show (IntKind.i64.wrap (IntKind.i64.wrap ((l.n : Int) + 1) + (r.n : Int))) = ((l.n + 1 + r.n : Nat) : Int) by rw [IntKind.wrap_i64, IntKind.wrap_i64]; omega) HL.out HR.out (HS.out _ (Nat.le_refl _)) rfl
  go_ret
  exact ⟨_, rfl, t1.later (Below.drew (Below.refl _ _)), Below.drew t2⟩

theorem toList_beq' {a b : ByteArray} {u : Bool} (h : decide (a = b) = u) : (a.toList == b.toList) = u := by
  rw [← h, Bool.eq_iff_iff]
  simp only [beq_iff_eq, decide_eq_true_eq]
  exact ⟨bytes_inj, fun e => by rw [e]⟩

theorem find_is {S : Nat → Prop} {T : Tr} {w : World} (key : ByteArray) (h : TrIn S w T) :
    Calls Tryd.prog 48 #[.pointer T.pt, .string key] w fun e w' => e = .returned (.pointer (T.find key).pt) ∧ w' = w := by
  have HT := hid h
  clear h
  go_enter Tryd.func48, Tryd.ntmps48
  go_wp2_with fail
  go_loopg [0] T.n (fun g s0 wr => ∃ C : Tr, g = C.n ∧ s0 = .pointer C.pt ∧ Hid (TrIn S w C) ∧ Hid (T.find key = C.find key) ∧ wr = w)
  case atStart => exact ⟨T, rfl, rfl, HT, rfl, rfl⟩
  case round =>
    obtain ⟨C, rfl, rfl, HC, HE, rfl⟩ := hrel
    cases C with
    | nil =>
      show Code.wp _ _ _ _ _
      simp only [Tr.pt]
      go_wp2_with fail
      go_ret
      exact ⟨by rw [HE.out]; rfl, rfl⟩
    | node b k v l r =>
      obtain ⟨hb, h0, h1, h2, h3, h4, hl, hr⟩ := HC.out
      simp only [Tr.pt]
      clear h1 h4
      by_cases hk : k = key
      · have q1 := toList_beq' (decide_eq_true hk)
        have HF : Hid ((Tr.node b k v l r).find key = .node b k v l r) := by show _ = _; rw [Tr.find, if_pos hk]
        clear hk
        go_wp2_with fail
        go_ret
        exact ⟨by rw [HE.out, HF.out]; rfl, rfl⟩
      · have q1 := toList_beq' (decide_eq_false hk)
        cases hlt : lt key k with
        | true =>
          have q2 : Op.bytesLess key.toList k.toList = true := hlt
          have HF : Hid ((Tr.node b k v l r).find key = l.find key) := by show _ = _; rw [Tr.find, if_neg hk, if_pos hlt]
          clear hk hlt
          have HL := hid hl
          clear hl hr h3
          go_wp2_with fail
          go_roundg l.n
          case measure => simp only [Tr.n]; omega
          case rel => exact ⟨l, rfl, rfl, HL, by show _ = _; rw [HE.out, HF.out], rfl⟩
        | false =>
          have q2 : Op.bytesLess key.toList k.toList = false := hlt
          have HF : Hid ((Tr.node b k v l r).find key = r.find key) := by show _ = _; rw [Tr.find, if_neg hk, if_neg (by rw [hlt]; decide)]
          clear hk hlt
          have HL := hid hr
          clear hl hr h2
          go_wp2_with fail
          go_roundg r.n
          case measure => simp only [Tr.n]; omega
          case rel => exact ⟨r, rfl, rfl, HL, by show _ = _; rw [HE.out, HF.out], rfl⟩

/-- the least key's node -/
def Tr.least : Tr → Tr
  | .nil => .nil
  | .node b k v .nil r => .node b k v .nil r
  | .node _ _ _ (.node b k v l r) _ => (Tr.node b k v l r).least
theorem least_is {S : Nat → Prop} {T : Tr} {w : World} (h : TrIn S w T) (hT : T ≠ .nil) :
    Calls Tryd.prog 91 #[.pointer T.pt] w fun e w' => e = .returned (.pointer T.least.pt) ∧ w' = w := by
  have HT := hid h
  clear h
  have HN := hid hT
  clear hT
  go_enter Tryd.func91, Tryd.ntmps91
  go_wp2_with fail
  go_loopg [0] T.n (fun g s0 wr => ∃ C : Tr, g = C.n ∧ s0 = .pointer C.pt ∧ Hid (TrIn S w C) ∧ Hid (T.least = C.least) ∧ Hid (C ≠ .nil) ∧ wr = w)
  case atStart => exact ⟨T, rfl, rfl, HT, rfl, HN, rfl⟩
  case round =>
    obtain ⟨C, rfl, rfl, HC, HE, HN, rfl⟩ := hrel
    cases C with
    | nil => exact absurd rfl HN.out
    | node b k v l r =>
      obtain ⟨hb, h0, h1, h2, h3, h4, hl, hr⟩ := HC.out
      simp only [Tr.pt]
      clear h0 h1 h3 h4 hr
      cases l with
      | nil =>
        simp only [Tr.pt] at h2
        go_wp2_with fail
        go_ret
        exact ⟨by rw [HE.out]; rfl, rfl⟩
      | node b2 k2 v2 l2 r2 =>
        simp only [Tr.pt] at h2
        have HL := hid hl
        clear hl
        go_wp2_with fail
        go_roundg (Tr.node b2 k2 v2 l2 r2).n
        case measure => simp only [Tr.n]; omega
        case rel => exact ⟨_, rfl, rfl, HL, by show _ = _; rw [HE.out]; rfl, fun e => (by cases e), rfl⟩
theorem Tr.least_spec : ∀ (T : Tr), T ≠ .nil → ∃ b k v l r, T.least = .node b k v l r ∧ ∃ rest, T.list = (k, v) :: rest
  | .nil, h => absurd rfl h
  | .node b k v .nil r, _ => ⟨b, k, v, .nil, r, rfl, r.list, rfl⟩
  | .node b0 k0 v0 (.node b k v l r) r0, _ => by
    obtain ⟨b', k', v', l', r', e, rest, hl⟩ := Tr.least_spec (.node b k v l r) (fun e => by cases e)
    exact ⟨b', k', v', l', r', e, rest ++ (k0, v0) :: r0.list, by rw [Tr.list, hl]; rfl⟩
theorem TrIn.least {S : Nat → Prop} {w : World} : ∀ {T : Tr}, TrIn S w T → TrIn S w T.least
  | .nil, h => h
  | .node _ _ _ .nil _, h => h
  | .node _ _ _ (.node b k v l r) _, h => TrIn.least (T := .node b k v l r) h.2.2.2.2.2.2.1

end Go.Proofs.YtmlacdfdpdkdaaaDoor.Vs
namespace Go.Proofs.YtmlacdfdpdkdaaaDoor.Vs
open Go.RowKit Go.Sort
set_option linter.unusedVariables false

theorem leq_less' : ∀ a b : List UInt8, (Op.bytesLess a b || a == b) = !Op.bytesLess b a
  | a, b => by
    rcases bless_tri a b with h | h | h
    · subst h; rw [bless_irrefl]; simp
    · have h2 : Op.bytesLess b a = false := by
        cases hb : Op.bytesLess b a with
        | false => rfl
        | true => exact absurd (bless_trans _ _ _ h hb) (by rw [bless_irrefl]; decide)
      rw [h, h2]; rfl
    · have h2 : Op.bytesLess a b = false := by
        cases hb : Op.bytesLess a b with
        | false => rfl
        | true => exact absurd (bless_trans _ _ _ h hb) (by rw [bless_irrefl]; decide)
      have h3 : (a == b) = false := by
        rw [beq_eq_false_iff_ne]; intro e; subst e; rw [bless_irrefl] at h; cases h
      rw [h, h2, h3]; rfl
theorem retB {a b : Bool} (h : a = b) : Ending.returned (Value.bool a) = Ending.returned (Value.bool b) := by rw [h]

theorem Below.drewN {B : Nat} {a w : World} (h : Below B a w) (n : Nat) : Below B a (w.drewN n) := ⟨h.os, h.tape, h.output, h.size, h.block⟩
theorem from_is {b : Nat} {k lo hi : ByteArray} {w : World} {u : Bool} (hu : fromB lo k = u) (h0 : w.cell? ⟨b, 0, none⟩ = some (.string k)) :
    Calls Tryd.prog 73 #[.pointer (some ⟨b, 0, none⟩), .agg #[.string lo, .string hi]] w fun e w' => e = .returned (.bool u) ∧ Below w.heap.size w w' := by
  have hle : (Op.bytesLess lo.toList k.toList || lo.toList == k.toList) = u := by rw [leq_less', ← hu]; rfl
  have k0 : (w.alloc (.cells #[.string lo, .string hi] 38)).cell? ⟨b, 0, none⟩ = some (.string k) := cell_later (Below.al (Below.refl _ w) _) h0
  clear hu
  go_enter Tryd.func73, Tryd.ntmps73
  go_wp2_with fail
  go_region
  all_goals go_wp2_with fail
  all_goals go_ret
  all_goals exact ⟨retB (by first | rfl | simp_all), by (repeat (first | exact Below.refl _ _ | assumption | refine Below.drew ?_ | refine Below.al ?_ _ | refine Below.setCell ?_ (by first | exact Nat.le_refl _ | (simp; omega) | (simp; done)) _ | refine Below.on ?_ (by assumption)))⟩
theorem under_is {b : Nat} {k lo hi : ByteArray} {w : World} {u : Bool} (hu : underB hi k = u) (h0 : w.cell? ⟨b, 0, none⟩ = some (.string k)) :
    Calls Tryd.prog 74 #[.pointer (some ⟨b, 0, none⟩), .agg #[.string lo, .string hi]] w fun e w' => e = .returned (.bool u) ∧ Below w.heap.size w w' := by
  obtain ⟨b2, h2⟩ : ∃ b, hi.toList.isEmpty = b := ⟨_, rfl⟩
  obtain ⟨b3, h3⟩ : ∃ b, Op.bytesLess k.toList hi.toList = b := ⟨_, rfl⟩
  have HQ : Hid (u = (b2 || b3)) := by show _ = _; rw [← hu, underB, lt, h2, h3]
  have h2' : (hi.toList = []) = (b2 = true) := by rw [← h2]; simp
  have k0 : (w.alloc (.cells #[.string lo, .string hi] 38)).cell? ⟨b, 0, none⟩ = some (.string k) := cell_later (Below.al (Below.refl _ w) _) h0
  clear hu
  cases b2 <;> cases b3
  all_goals (try simp only [Bool.false_eq_true] at h2')
  all_goals
    go_enter Tryd.func74, Tryd.ntmps74
    go_wp2_with fail
    go_quiet (fail)
    go_wp2_with fail
    go_ret
    exact ⟨retB (by rw [HQ.out]; first | rfl | simp_all), Below.drewN (by (repeat (first | exact Below.refl _ _ | assumption | refine Below.drew ?_ | refine Below.al ?_ _ | refine Below.setCell ?_ (by first | exact Nat.le_refl _ | (simp; omega) | (simp; done)) _ | refine Below.on ?_ (by assumption)))) _⟩

end Go.Proofs.YtmlacdfdpdkdaaaDoor.Vs
namespace Go.Proofs.YtmlacdfdpdkdaaaDoor.Vs
open Go.RowKit Go.Sort Go.Shelf
set_option linter.unusedVariables false
attribute [local go_sem] Oper.semAt_some

/-- the function value of a loop's body: what one call of it comes to -/
abbrev Yld (l : Nat) (e : En) (W : World) (R : Ending → World → Prop) : Prop := ∀ m, YieldAt Fence.wide m Tryd.prog l #[.string e.1, .slice (some ⟨e.2.g, 0, none⟩) e.2.n e.2.cap] W R
theorem room_none (k : Nat) : Fence.wide.room k := room_wide k
theorem YieldAt.anyD {m : Nat} (m' : Nat) {P : Program} {l : Nat} {args : Array Value} {W : World} {R : Ending → World → Prop} (h : YieldAt Fence.wide m P l args W R) : YieldAt Fence.wide m' P l args W R := by
  obtain ⟨fn, tmps, assign, body, hy, hR⟩ := h
  exact ⟨fn, tmps, assign, body, hy, ⟨hR.1, fun c cs _ => hR.2 c cs (room_wide _)⟩⟩
/-- what an iterator asks of the loop -/
structure Loops {α : Type} (f : α → En) (l N : Nat) (J Jx : List α → World → Prop) : Prop where
  round : ∀ m pre x W, J pre W → pre.length < N → YieldAt Fence.wide m Tryd.prog l #[.string (f x).1, .slice (some ⟨(f x).2.g, 0, none⟩) (f x).2.n (f x).2.cap] W fun e W' => ∃ u, e = .returned (.bool u) ∧ (u = true → J (pre ++ [x]) W' ∧ Kp W W') ∧ (u = false → Jx (pre ++ [x]) W')
  later : ∀ pre W W', J pre W → Below W.heap.size W W' → J pre W'

theorem map_parts {α : Type} {f : α → En} {ys : List α} {a b c : List En} (h : ys.map f = a ++ b ++ c) : ∃ y1 y2 y3, ys = y1 ++ y2 ++ y3 ∧ y1.map f = a ∧ y2.map f = b ∧ y3.map f = c := by
  obtain ⟨y12, y3, rfl, h12, h3⟩ := List.map_eq_append_iff.1 h
  obtain ⟨y1, y2, rfl, h1, h2⟩ := List.map_eq_append_iff.1 h12
  exact ⟨y1, y2, y3, rfl, h1, h2, h3⟩
theorem map_one {α : Type} {f : α → En} {ys : List α} {e : En} (h : ys.map f = [e]) : ∃ y, ys = [y] ∧ f y = e := by
  cases ys with
  | nil => simp at h
  | cons y t =>
    cases t with
    | nil => exact ⟨y, rfl, by simpa using h⟩
    | cons z t => simp at h

/-- what up and down come to -/
def Ran {α : Type} (J Jx : List α → World → Prop) (pre ys : List α) (W : World) : Ending → World → Prop := fun e W' =>
  ∃ u, e = .returned (.bool u) ∧ (u = true → J (pre ++ ys) W' ∧ Kp W W') ∧ (u = false → ∃ q, q <+: ys ∧ Jx (pre ++ q) W')

theorem box_new (w : World) (lo hi : ByteArray) : (w.alloc (.cells #[.string lo, .string hi] 38)).heap[w.heap.size]? = some (.cells #[.string lo, .string hi] 38 (0, 0)) := World.alloc_heap_new w _
theorem box_kp {w w' : World} {B : Nat} {lo hi : ByteArray} (h : Kp w w') (hb : w.heap[B]? = some (.cells #[.string lo, .string hi] 38 (0, 0))) : w'.heap[B]? = some (.cells #[.string lo, .string hi] 38 (0, 0)) := h.2 B _ _ _ (.inr (.inl rfl)) hb


end Go.Proofs.YtmlacdfdpdkdaaaDoor.Vs
namespace Go.Proofs.YtmlacdfdpdkdaaaDoor.Vs
open Go.RowKit Go.Sort Go.Shelf
set_option linter.unusedVariables false
attribute [local go_sem] Oper.semAt_some

set_option maxRecDepth 100000 in
set_option maxHeartbeats 2000000 in
theorem up_tt {α : Type} {f : α → En} {l N : Nat} {J Jx : List α → World → Prop} (H : Loops f l N J Jx) {b : Nat} {k lo hi : ByteArray} {v : Hd} {tl tr : Tr} {pre y1 y3 : List α} {y : α} {W : World}
    (h : TrIn (fun _ => True) W (.node b k v tl tr)) (hf : fromB lo k = true) (hu : underB hi k = true) (hy : f y = (k, v)) (hJ : J pre W) (hN : (pre ++ y1).length < N)
    (il : ∀ W', Kp W W' → J pre W' → Calls Tryd.prog 51 #[.pointer tl.pt, .agg #[.string lo, .string hi], .func (.yield l) #[] #[]] W' (Ran J Jx (pre) y1 W'))
    (ir : ∀ W', Kp W W' → J (pre ++ y1 ++ [y]) W' → Calls Tryd.prog 51 #[.pointer tr.pt, .agg #[.string lo, .string hi], .func (.yield l) #[] #[]] W' (Ran J Jx (pre ++ y1 ++ [y]) y3 W')) :
    Calls Tryd.prog 51 #[.pointer (some ⟨b, 0, none⟩), .agg #[.string lo, .string hi], .func (.yield l) #[] #[]] W (Ran J Jx pre (y1 ++ [y] ++ y3) W) := by
  obtain ⟨⟨-, ho⟩, h0, h1, h2, h3, h4, hl, hr⟩ := h
  clear h0 h1 h2 h3 h4 hl hr
  have bx := box_new W lo hi
  have k1 : Kp W (W.alloc (.cells #[.string lo, .string hi] 38)) := Kp.of_below (Below.al (Below.refl _ _) _)
  have ho1 := k1.2 b _ _ _ (.inl rfl) ho
  have hJ1 := H.later _ _ _ hJ (Below.al (Below.refl _ W) (.cells #[.string lo, .string hi] 38))
  have FR : Hid (∀ W', W'.cell? ⟨b, 0, none⟩ = some (.string k) → Calls Tryd.prog 73 #[.pointer (some ⟨b, 0, none⟩), .agg #[.string lo, .string hi]] W' fun e w' => e = .returned (.bool true) ∧ Below W'.heap.size W' w') := fun W' h => from_is hf h
  have UN : Hid (∀ W', W'.cell? ⟨b, 0, none⟩ = some (.string k) → Calls Tryd.prog 74 #[.pointer (some ⟨b, 0, none⟩), .agg #[.string lo, .string hi]] W' fun e w' => e = .returned (.bool true) ∧ Below W'.heap.size W' w') := fun W' h => under_is hu h
  have IL := hid il
  have IR := hid ir
  have HH := hid H
  clear il ir H hf hu
  obtain ⟨W0, hW0⟩ : ∃ W0, W0 = W.alloc (.cells #[.string lo, .string hi] 38) := ⟨_, rfl⟩
  obtain ⟨B, hB⟩ : ∃ B, B = W.heap.size := ⟨_, rfl⟩
  go_enter Tryd.func51, Tryd.ntmps51
  go_wp2_with fail
  rw [← hW0] at bx k1 ho1 hJ1 ⊢
  rw [← hB] at bx ⊢
  have c0 : W0.cell? ⟨B, 0, none⟩ = some (.string lo) := cell_of_obj bx rfl
  have c1 : W0.cell? ⟨B, 1, none⟩ = some (.string hi) := cell_of_obj bx rfl
  have n0 : W0.cell? ⟨b, 0, none⟩ = some (.string k) := cell_of_obj ho1 rfl
  have n2 : W0.cell? ⟨b, 2, none⟩ = some (.pointer tl.pt) := cell_of_obj ho1 rfl
  clear hW0 hB ho hJ
  go_cut [21] (fun s21 wx => ∃ u1 : Bool, s21 = .bool (!u1) ∧ (u1 = true → J (pre ++ y1) wx ∧ Kp W0 wx) ∧ (u1 = false → ∃ q, q <+: y1 ∧ Jx (pre ++ q) wx))
  case first =>
    go_region_with (first
      | (go_at_call 73; refine (FR.out _ ?_).mono ?_; (simp [n0]); rintro e w1 ⟨rfl, hb1⟩; have c0' := cell_later hb1 c0; have c1' := cell_later hb1 c1; have n2' := cell_later hb1 n2)
      | (go_at_call 51; refine (IL.out _ (k1.trans (Kp.of_below (Below.on (Below.drew (Below.refl _ _)) hb1))) (HH.out.later _ _ _ hJ1 (Below.on (Below.drew (Below.refl _ _)) hb1))).mono ?_; rintro e w2 ⟨u1, rfl, t1, t2⟩))
    all_goals (try go_wp2_with fail)
    all_goals go_meet
    all_goals exact ⟨u1, rfl, fun hu => ⟨(t1 hu).1, (Kp.of_below (Below.on (Below.drew (Below.refl _ _)) hb1)).trans (t1 hu).2⟩, t2⟩
  case rest =>
    obtain ⟨u1, rfl, t1, t2⟩ := hcut
    cases u1 with
    | false =>
      obtain ⟨q, hq, hx⟩ := t2 rfl
      have HX := hid hx
      have HQ := hid hq
      clear t1 t2 hx hq
      go_wp2_with fail
      go_ret
      exact ⟨false, rfl, fun e => (by cases e), fun _ => ⟨q, HQ.out.trans (by rw [List.append_assoc]; exact List.prefix_append _ _), HX.out⟩⟩
    | true =>
      obtain ⟨hJ2, k2⟩ := t1 rfl
      clear t1 t2
      have bx2 := box_kp k2 bx
      have ho2 := k2.2 b _ _ _ (.inl rfl) ho1
      have k02 := k1.trans k2
      clear bx ho1 k1 k2 hJ1 c0 c1 n0 n2
      have c0 : wc.cell? ⟨B, 0, none⟩ = some (.string lo) := cell_of_obj bx2 rfl
      have c1 : wc.cell? ⟨B, 1, none⟩ = some (.string hi) := cell_of_obj bx2 rfl
      have n0 : wc.cell? ⟨b, 0, none⟩ = some (.string k) := cell_of_obj ho2 rfl
      have n1 : wc.cell? ⟨b, 1, none⟩ = some (.slice (some ⟨v.g, 0, none⟩) v.n v.cap) := cell_of_obj ho2 rfl
      have UY : Hid (∀ W', Below wc.heap.size wc W' → Calls Tryd.prog 74 #[.pointer (some ⟨b, 0, none⟩), .agg #[.string lo, .string hi]] W' fun e w' => e = .returned (.bool true) ∧ w'.cell? ⟨b, 0, none⟩ = some (.string k) ∧ w'.cell? ⟨b, 1, none⟩ = some (.slice (some ⟨v.g, 0, none⟩) v.n v.cap) ∧ Hid (Kp wc w') ∧
          YieldAt Fence.wide (7 - 1) Tryd.prog l #[.string k, .slice (some ⟨v.g, 0, none⟩) v.n v.cap] w' fun e W' => ∃ u, e = .returned (.bool u) ∧ (u = true → J (pre ++ y1 ++ [y]) W' ∧ Kp w' W') ∧ (u = false → Jx (pre ++ y1 ++ [y]) W')) := fun W' hb =>
        (UN.out W' (cell_later hb n0)).mono fun e w' hw => ⟨hw.1, cell_later (Below.on hb hw.2) n0, cell_later (Below.on hb hw.2) n1, Kp.of_below (Below.on hb hw.2), by
          have := HH.out.round (7 - 1) (pre ++ y1) y w' (HH.out.later _ _ _ hJ2 (Below.on hb hw.2)) hN
          rw [hy] at this
          exact this⟩
      go_wp2_with fail
      go_cut [42] (fun s42 wx => ∃ u2 : Bool, s42 = .bool (!u2) ∧ (u2 = true → J (pre ++ y1 ++ [y]) wx ∧ Kp wc wx) ∧ (u2 = false → Jx (pre ++ y1 ++ [y]) wx))
      case first =>
        refine (wpIn_wide (n := 7)).1 ?_
        refine wpIn_region_any (by kernel_rfl) ?_
        change wpAnyIn _ _ _ _ _ _ 21 #[false, false, false, false, false, false, false, false, false, false, false, false, false, false, false, false, false, false, false, false, false] _ (World.drew _)
        refine wpAnyIn_take (i := 0) (v := ?_) rfl rfl (by kernel_rfl) (by kernel_rfl) (by kernel_rfl) (fun _ _ _ h => h) ⟨Or.inl ⟨by rfl, (by intro w; go_simp; try with_reducible rfl)⟩, fun _ => rfl⟩ ?_
        simp only [Act.put, List.setIfInBounds_toArray, List.set_cons_zero, List.set_cons_succ, List.getElem_toArray, List.getElem_cons_zero]
        refine wpAnyIn_ready (rs := [1]) (by kernel_rfl) (by simp) (AllReadyIn.cons rfl (fun K hK => ?_) AllReadyIn.nil)
        go_simp
        refine hK _ _ ?_
        clear hK K
        simp only [List.setIfInBounds_toArray, List.set_cons_zero, List.set_cons_succ]
        refine wpAnyIn_ready (rs := [2]) (by kernel_rfl) (by simp) (AllReadyIn.cons rfl (fun K hK => ?_) AllReadyIn.nil)
        go_simp
        gi_wp2_with ((try refine ⟨trivial, ?_⟩); gi_at_call 73; refine (callsIn_wide.2 (FR.out _ ?_)).mono ?_; (simp [n0]); rintro e w1 ⟨rfl, hb1⟩; have c0' := cell_later hb1 c0; have c1' := cell_later hb1 c1)
        first | simp only [List.setIfInBounds_toArray, List.set_cons_zero, List.set_cons_succ] | (refine hK _ _ ?_; clear hK K; simp only [List.setIfInBounds_toArray, List.set_cons_zero, List.set_cons_succ])
        refine wpAnyIn_take (i := 3) (v := ?_) rfl rfl (by kernel_rfl) (by kernel_rfl) (by kernel_rfl) (fun _ _ _ h => h) ⟨Or.inl ⟨by rfl, (by intro w; go_simp; try with_reducible rfl)⟩, fun _ => rfl⟩ ?_
        simp only [Act.put, List.setIfInBounds_toArray, List.set_cons_zero, List.set_cons_succ, List.getElem_toArray, List.getElem_cons_zero, List.getElem_cons_succ]
        refine wpAnyIn_take (i := 4) (v := ?_) rfl rfl (by kernel_rfl) (by kernel_rfl) (by kernel_rfl) (fun _ _ _ h => h) ⟨Or.inl ⟨by rfl, (by intro w; go_simp; try with_reducible rfl)⟩, fun _ => rfl⟩ ?_
        simp only [Act.put, List.setIfInBounds_toArray, List.set_cons_zero, List.set_cons_succ, List.getElem_toArray, List.getElem_cons_zero, List.getElem_cons_succ]
        refine wpAnyIn_ready (rs := [5]) (by kernel_rfl) (by simp) (AllReadyIn.cons rfl (fun K hK => ?_) AllReadyIn.nil)
        go_simp
        refine hK _ _ ?_
        clear hK K
        simp only [List.setIfInBounds_toArray, List.set_cons_zero, List.set_cons_succ]
        refine wpAnyIn_ready (rs := [6]) (by kernel_rfl) (by simp) (AllReadyIn.cons rfl (fun K hK => ?_) AllReadyIn.nil)
        go_simp
        gi_wp2_with ((try refine ⟨trivial, ?_⟩); gi_at_call 74; refine (callsIn_wide.2 (UY.out _ (Below.on (Below.drew (Below.refl _ _)) hb1))).mono ?_; rintro e w2 ⟨rfl, m0, m1, hk2, fn, tmps, assign, body, hyy, hR⟩)
        first | simp only [List.setIfInBounds_toArray, List.set_cons_zero, List.set_cons_succ] | (refine hK _ _ ?_; clear hK K; simp only [List.setIfInBounds_toArray, List.set_cons_zero, List.set_cons_succ])
        refine wpAnyIn_take (i := 7) (v := ?_) rfl rfl (by kernel_rfl) (by kernel_rfl) (by kernel_rfl) (fun _ _ _ h => h) ⟨Or.inl ⟨by rfl, (by intro w; go_simp; try with_reducible rfl)⟩, fun _ => rfl⟩ ?_
        simp only [Act.put, List.setIfInBounds_toArray, List.set_cons_zero, List.set_cons_succ, List.getElem_toArray, List.getElem_cons_zero, List.getElem_cons_succ]
        refine wpAnyIn_take (i := 8) (v := ?_) rfl rfl (by kernel_rfl) (by kernel_rfl) (by kernel_rfl) (fun _ _ _ h => h) ⟨Or.inl ⟨by rfl, (by intro w; go_simp; try with_reducible rfl)⟩, fun _ => rfl⟩ ?_
        simp only [Act.put, List.setIfInBounds_toArray, List.set_cons_zero, List.set_cons_succ, List.getElem_toArray, List.getElem_cons_zero, List.getElem_cons_succ]
        refine wpAnyIn_take (i := 9) (v := ?_) rfl rfl (by kernel_rfl) (by kernel_rfl) (by kernel_rfl) (fun _ _ _ h => h) ⟨Or.inl ⟨by rfl, (by intro w; go_simp; try with_reducible rfl)⟩, fun _ => rfl⟩ ?_
        simp only [Act.put, List.setIfInBounds_toArray, List.set_cons_zero, List.set_cons_succ, List.getElem_toArray, List.getElem_cons_zero, List.getElem_cons_succ]
        refine wpAnyIn_take (i := 10) (v := ?_) rfl rfl (by kernel_rfl) (by kernel_rfl) (by kernel_rfl) (fun _ _ _ h => h) ⟨Or.inl ⟨by rfl, (by intro w; go_simp; try with_reducible rfl)⟩, fun _ => rfl⟩ ?_
        simp only [Act.put, List.setIfInBounds_toArray, List.set_cons_zero, List.set_cons_succ, List.getElem_toArray, List.getElem_cons_zero, List.getElem_cons_succ]
        refine wpAnyIn_take (i := 11) (v := ?_) rfl rfl (by kernel_rfl) (by kernel_rfl) (by kernel_rfl) (fun _ _ _ h => h) ⟨Or.inl ⟨by rfl, (by intro w; go_simp; try with_reducible rfl)⟩, fun _ => rfl⟩ ?_
        simp only [Act.put, List.setIfInBounds_toArray, List.set_cons_zero, List.set_cons_succ, List.getElem_toArray, List.getElem_cons_zero, List.getElem_cons_succ]
        refine wpAnyIn_take (i := 12) (v := ?_) rfl rfl (by kernel_rfl) (by kernel_rfl) (by kernel_rfl) (fun _ _ _ h => h) ⟨Or.inl ⟨by rfl, (by intro w; go_simp; try with_reducible rfl)⟩, fun _ => rfl⟩ ?_
        simp only [Act.put, List.setIfInBounds_toArray, List.set_cons_zero, List.set_cons_succ, List.getElem_toArray, List.getElem_cons_zero, List.getElem_cons_succ]
        refine wpAnyIn_take (i := 14) (v := ?_) rfl rfl (by kernel_rfl) (by kernel_rfl) (by kernel_rfl) (fun _ _ _ h => h) ⟨Or.inl ⟨by rfl, (by intro w; go_simp; try with_reducible rfl)⟩, fun _ => rfl⟩ ?_
        simp only [Act.put, List.setIfInBounds_toArray, List.set_cons_zero, List.set_cons_succ, List.getElem_toArray, List.getElem_cons_zero, List.getElem_cons_succ]
        refine wpAnyIn_take (i := 15) (v := ?_) rfl rfl (by kernel_rfl) (by kernel_rfl) (by kernel_rfl) (fun _ _ _ h => h) ⟨Or.inl ⟨by rfl, (by intro w; go_simp; try with_reducible rfl)⟩, fun _ => rfl⟩ ?_
        simp only [Act.put, List.setIfInBounds_toArray, List.set_cons_zero, List.set_cons_succ, List.getElem_toArray, List.getElem_cons_zero, List.getElem_cons_succ]
        refine wpAnyIn_take (i := 16) (v := ?_) rfl rfl (by kernel_rfl) (by kernel_rfl) (by kernel_rfl) (fun _ _ _ h => h) ⟨Or.inl ⟨by rfl, (by intro w; go_simp; try with_reducible rfl)⟩, fun _ => rfl⟩ ?_
        simp only [Act.put, List.setIfInBounds_toArray, List.set_cons_zero, List.set_cons_succ, List.getElem_toArray, List.getElem_cons_zero, List.getElem_cons_succ]
        refine wpAnyIn_ready (rs := [13, 17]) (by kernel_rfl) (by simp) (AllReadyIn.cons rfl (fun K hK => ?_) (AllReadyIn.cons rfl (fun K hK => ?_) AllReadyIn.nil))
        · go_simp
          refine hK _ _ ?_
          clear hK K
          simp only [List.setIfInBounds_toArray, List.set_cons_zero, List.set_cons_succ]
          refine wpAnyIn_ready (rs := [17]) (by kernel_rfl) (by simp) (AllReadyIn.cons rfl (fun K hK => ?_) AllReadyIn.nil)
          go_simp
          refine hK _ _ ?_
          clear hK K
          simp only [List.setIfInBounds_toArray, List.set_cons_zero, List.set_cons_succ]
          refine wpAnyIn_ready (rs := [18]) (by kernel_rfl) (by simp) (AllReadyIn.cons rfl (fun K hK => ?_) AllReadyIn.nil)
          go_simp
          refine hR.mono ?_
          clear hR
          rintro e w3 ⟨u2, rfl, s1, s2⟩
          refine hK _ _ ?_
          clear hK K
          simp only [List.setIfInBounds_toArray, List.set_cons_zero, List.set_cons_succ]
          refine wpAnyIn_take (i := 19) (v := ?_) rfl rfl (by kernel_rfl) (by kernel_rfl) (by kernel_rfl) (fun _ _ _ h => h) ⟨Or.inl ⟨by rfl, (by intro w; go_simp; try with_reducible rfl)⟩, fun _ => rfl⟩ ?_
          simp only [Act.put, List.setIfInBounds_toArray, List.set_cons_zero, List.set_cons_succ, List.getElem_toArray, List.getElem_cons_zero, List.getElem_cons_succ]
          refine wpAnyIn_take (i := 20) (v := ?_) rfl rfl (by kernel_rfl) (by kernel_rfl) (by kernel_rfl) (fun _ _ _ h => h) ⟨Or.inl ⟨by rfl, (by intro w; go_simp; try with_reducible rfl)⟩, fun _ => rfl⟩ ?_
          simp only [Act.put, List.setIfInBounds_toArray, List.set_cons_zero, List.set_cons_succ, List.getElem_toArray, List.getElem_cons_zero, List.getElem_cons_succ]
          refine wpAnyIn_done (by kernel_rfl) ?_ _
          go_wp2_with fail
          go_meet
          exact ⟨u2, rfl, fun hu => ⟨(s1 hu).1, hk2.out.trans (s1 hu).2⟩, s2⟩
        · go_simp
          refine hK _ _ ?_
          clear hK K
          simp only [List.setIfInBounds_toArray, List.set_cons_zero, List.set_cons_succ]
          refine wpAnyIn_ready (rs := [13]) (by kernel_rfl) (by simp) (AllReadyIn.cons rfl (fun K hK => ?_) AllReadyIn.nil)
          go_simp
          refine hK _ _ ?_
          clear hK K
          simp only [List.setIfInBounds_toArray, List.set_cons_zero, List.set_cons_succ]
          refine wpAnyIn_ready (rs := [18]) (by kernel_rfl) (by simp) (AllReadyIn.cons rfl (fun K hK => ?_) AllReadyIn.nil)
          go_simp
          refine hR.mono ?_
          clear hR
          rintro e w3 ⟨u2, rfl, s1, s2⟩
          refine hK _ _ ?_
          clear hK K
          simp only [List.setIfInBounds_toArray, List.set_cons_zero, List.set_cons_succ]
          refine wpAnyIn_take (i := 19) (v := ?_) rfl rfl (by kernel_rfl) (by kernel_rfl) (by kernel_rfl) (fun _ _ _ h => h) ⟨Or.inl ⟨by rfl, (by intro w; go_simp; try with_reducible rfl)⟩, fun _ => rfl⟩ ?_
          simp only [Act.put, List.setIfInBounds_toArray, List.set_cons_zero, List.set_cons_succ, List.getElem_toArray, List.getElem_cons_zero, List.getElem_cons_succ]
          refine wpAnyIn_take (i := 20) (v := ?_) rfl rfl (by kernel_rfl) (by kernel_rfl) (by kernel_rfl) (fun _ _ _ h => h) ⟨Or.inl ⟨by rfl, (by intro w; go_simp; try with_reducible rfl)⟩, fun _ => rfl⟩ ?_
          simp only [Act.put, List.setIfInBounds_toArray, List.set_cons_zero, List.set_cons_succ, List.getElem_toArray, List.getElem_cons_zero, List.getElem_cons_succ]
          refine wpAnyIn_done (by kernel_rfl) ?_ _
          go_wp2_with fail
          go_meet
          exact ⟨u2, rfl, fun hu => ⟨(s1 hu).1, hk2.out.trans (s1 hu).2⟩, s2⟩
      case rest =>
        obtain ⟨u2, rfl, s1, s2⟩ := hcut
        cases u2 with
        | false =>
          have HX := hid (s2 rfl)
          clear s1 s2
          go_wp2_with fail
          go_ret
          exact ⟨false, rfl, fun e => (by cases e), fun _ => ⟨y1 ++ [y], List.prefix_append _ _, by rw [← List.append_assoc]; exact HX.out⟩⟩
        | true =>
          obtain ⟨hJ3, k3⟩ := s1 rfl
          clear s1 s2 UY c0 c1 n0 n1
          have bx3 := box_kp k3 bx2
          have ho3 := k3.2 b _ _ _ (.inl rfl) ho2
          have k03 := k02.trans k3
          clear bx2 ho2 k02 k3 hJ2
          have d0 : wc.cell? ⟨B, 0, none⟩ = some (.string lo) := cell_of_obj bx3 rfl
          have d1 : wc.cell? ⟨B, 1, none⟩ = some (.string hi) := cell_of_obj bx3 rfl
          have e0 : wc.cell? ⟨b, 0, none⟩ = some (.string k) := cell_of_obj ho3 rfl
          have e2 : wc.cell? ⟨b, 3, none⟩ = some (.pointer tr.pt) := cell_of_obj ho3 rfl
          clear bx3 ho3
          go_wp2_with fail
          go_region_with (first
            | (go_at_call 74; refine (UN.out _ ?_).mono ?_; (simp [e0]); rintro e w1 ⟨rfl, hb1⟩; have d0' := cell_later hb1 d0; have d1' := cell_later hb1 d1; have e2' := cell_later hb1 e2)
            | (go_at_call 51; refine (IR.out _ (k03.trans (Kp.of_below (Below.on (Below.drew (Below.refl _ _)) hb1))) (HH.out.later _ _ _ hJ3 (Below.on (Below.drew (Below.refl _ _)) hb1))).mono ?_; rintro e w2 ⟨u3, rfl, t1, t2⟩))
          all_goals (try go_wp2_with fail)
          all_goals go_ret
          all_goals exact ⟨u3, rfl, fun hu => ⟨by rw [List.append_assoc, List.append_assoc] at t1; simpa [List.append_assoc] using (t1 hu).1, (k03.trans (Kp.of_below (Below.on (Below.drew (Below.refl _ _)) hb1))).trans (t1 hu).2⟩, fun hu => by obtain ⟨q, hq, hx⟩ := t2 hu; exact ⟨y1 ++ [y] ++ q, (List.prefix_append_right_inj _).2 hq, by simpa [List.append_assoc] using hx⟩⟩

end Go.Proofs.YtmlacdfdpdkdaaaDoor.Vs
namespace Go.Proofs.YtmlacdfdpdkdaaaDoor.Vs
open Go.RowKit Go.Sort Go.Shelf
set_option linter.unusedVariables false
attribute [local go_sem] Oper.semAt_some

set_option maxRecDepth 100000 in
set_option maxHeartbeats 2000000 in
theorem up_tf {α : Type} {f : α → En} {l N : Nat} {J Jx : List α → World → Prop} (H : Loops f l N J Jx) {b : Nat} {k lo hi : ByteArray} {v : Hd} {tl tr : Tr} {pre y1 : List α} {W : World}
    (h : TrIn (fun _ => True) W (.node b k v tl tr)) (hf : fromB lo k = true) (hu : underB hi k = false) (hJ : J pre W)
    (il : ∀ W', Kp W W' → J pre W' → Calls Tryd.prog 51 #[.pointer tl.pt, .agg #[.string lo, .string hi], .func (.yield l) #[] #[]] W' (Ran J Jx (pre) y1 W')) :
    Calls Tryd.prog 51 #[.pointer (some ⟨b, 0, none⟩), .agg #[.string lo, .string hi], .func (.yield l) #[] #[]] W (Ran J Jx pre (y1) W) := by
  obtain ⟨⟨-, ho⟩, h0, h1, h2, h3, h4, hl, hr⟩ := h
  clear h0 h1 h2 h3 h4 hl hr
  have bx := box_new W lo hi
  have k1 : Kp W (W.alloc (.cells #[.string lo, .string hi] 38)) := Kp.of_below (Below.al (Below.refl _ _) _)
  have ho1 := k1.2 b _ _ _ (.inl rfl) ho
  have hJ1 := H.later _ _ _ hJ (Below.al (Below.refl _ W) (.cells #[.string lo, .string hi] 38))
  have FR : Hid (∀ W', W'.cell? ⟨b, 0, none⟩ = some (.string k) → Calls Tryd.prog 73 #[.pointer (some ⟨b, 0, none⟩), .agg #[.string lo, .string hi]] W' fun e w' => e = .returned (.bool true) ∧ Below W'.heap.size W' w') := fun W' h => from_is hf h
  have UN : Hid (∀ W', W'.cell? ⟨b, 0, none⟩ = some (.string k) → Calls Tryd.prog 74 #[.pointer (some ⟨b, 0, none⟩), .agg #[.string lo, .string hi]] W' fun e w' => e = .returned (.bool false) ∧ Below W'.heap.size W' w') := fun W' h => under_is hu h
  have IL := hid il
  have HH := hid H
  clear il H hf hu
  obtain ⟨W0, hW0⟩ : ∃ W0, W0 = W.alloc (.cells #[.string lo, .string hi] 38) := ⟨_, rfl⟩
  obtain ⟨B, hB⟩ : ∃ B, B = W.heap.size := ⟨_, rfl⟩
  go_enter Tryd.func51, Tryd.ntmps51
  go_wp2_with fail
  rw [← hW0] at bx k1 ho1 hJ1 ⊢
  rw [← hB] at bx ⊢
  have c0 : W0.cell? ⟨B, 0, none⟩ = some (.string lo) := cell_of_obj bx rfl
  have c1 : W0.cell? ⟨B, 1, none⟩ = some (.string hi) := cell_of_obj bx rfl
  have n0 : W0.cell? ⟨b, 0, none⟩ = some (.string k) := cell_of_obj ho1 rfl
  have n2 : W0.cell? ⟨b, 2, none⟩ = some (.pointer tl.pt) := cell_of_obj ho1 rfl
  clear hW0 hB ho hJ
  go_cut [21] (fun s21 wx => ∃ u1 : Bool, s21 = .bool (!u1) ∧ (u1 = true → J (pre ++ y1) wx ∧ Kp W0 wx) ∧ (u1 = false → ∃ q, q <+: y1 ∧ Jx (pre ++ q) wx))
  case first =>
    go_region_with (first
      | (go_at_call 73; refine (FR.out _ ?_).mono ?_; (simp [n0]); rintro e w1 ⟨rfl, hb1⟩; have c0' := cell_later hb1 c0; have c1' := cell_later hb1 c1; have n2' := cell_later hb1 n2)
      | (go_at_call 51; refine (IL.out _ (k1.trans (Kp.of_below (Below.on (Below.drew (Below.refl _ _)) hb1))) (HH.out.later _ _ _ hJ1 (Below.on (Below.drew (Below.refl _ _)) hb1))).mono ?_; rintro e w2 ⟨u1, rfl, t1, t2⟩))
    all_goals (try go_wp2_with fail)
    all_goals go_meet
    all_goals exact ⟨u1, rfl, fun hu => ⟨(t1 hu).1, (Kp.of_below (Below.on (Below.drew (Below.refl _ _)) hb1)).trans (t1 hu).2⟩, t2⟩
  case rest =>
    obtain ⟨u1, rfl, t1, t2⟩ := hcut
    cases u1 with
    | false =>
      obtain ⟨q, hq, hx⟩ := t2 rfl
      have HX := hid hx
      have HQ := hid hq
      clear t1 t2 hx hq
      go_wp2_with fail
      go_ret
      exact ⟨false, rfl, fun e => (by cases e), fun _ => ⟨q, HQ.out, HX.out⟩⟩
    | true =>
      obtain ⟨hJ2, k2⟩ := t1 rfl
      clear t1 t2
      have bx2 := box_kp k2 bx
      have ho2 := k2.2 b _ _ _ (.inl rfl) ho1
      have k02 := k1.trans k2
      clear bx ho1 k1 k2 hJ1 c0 c1 n0 n2
      have c0 : wc.cell? ⟨B, 0, none⟩ = some (.string lo) := cell_of_obj bx2 rfl
      have c1 : wc.cell? ⟨B, 1, none⟩ = some (.string hi) := cell_of_obj bx2 rfl
      have n0 : wc.cell? ⟨b, 0, none⟩ = some (.string k) := cell_of_obj ho2 rfl
      go_wp2_with fail
      go_cut [42] (fun s42 wx => s42 = .bool false ∧ J (pre ++ y1) wx ∧ Kp wc wx)
      case first =>
        have kc0 := cell_regrown c0; have kc1 := cell_regrown c1; have kn0 := cell_regrown n0
        refine wp_region_quiet_below (by kernel_rfl) (by kernel_rfl) ?_
        repeat (go_big_quiet_step (first | (go_at_call 73; exact Calls.regrown_of (FR.out _ (cell_later (below_regrown _ _ _) n0))) | (go_at_call 74; exact Calls.regrown_of (UN.out _ (cell_later (below_regrown _ _ _) n0)))))
        refine wpQuiet_nil ?_
        intro w1 hw
        have hb1 := below_of_regrown hw
        go_wp2_with fail
        go_meet
        exact ⟨rfl, HH.out.later _ _ _ hJ2 hb1, Kp.of_below hb1⟩
      case rest =>
          obtain ⟨rfl, hJ3, k3⟩ := hcut
          clear c0 c1 n0
          have bx3 := box_kp k3 bx2
          have ho3 := k3.2 b _ _ _ (.inl rfl) ho2
          have k03 := k02.trans k3
          clear bx2 ho2 k02 k3 hJ2
          have d0 : wc.cell? ⟨B, 0, none⟩ = some (.string lo) := cell_of_obj bx3 rfl
          have d1 : wc.cell? ⟨B, 1, none⟩ = some (.string hi) := cell_of_obj bx3 rfl
          have e0 : wc.cell? ⟨b, 0, none⟩ = some (.string k) := cell_of_obj ho3 rfl
          have e2 : wc.cell? ⟨b, 3, none⟩ = some (.pointer tr.pt) := cell_of_obj ho3 rfl
          clear bx3 ho3
          go_wp2_with fail
          have kc0 := cell_regrown d0; have kc1 := cell_regrown d1; have kn0 := cell_regrown e0
          refine wp_region_quiet_below (by kernel_rfl) (by kernel_rfl) ?_
          repeat (go_big_quiet_step ((go_at_call 74; exact Calls.regrown_of (UN.out _ (cell_later (below_regrown _ _ _) e0)))))
          refine wpQuiet_nil ?_
          intro w1 hw
          have hb1 := below_of_regrown hw
          go_wp2_with fail
          go_ret
          exact ⟨true, rfl, fun _ => ⟨HH.out.later _ _ _ hJ3 hb1, k03.trans (Kp.of_below hb1)⟩, fun e => (by cases e)⟩

set_option maxRecDepth 100000 in
set_option maxHeartbeats 2000000 in
theorem up_ft {α : Type} {f : α → En} {l N : Nat} {J Jx : List α → World → Prop} (H : Loops f l N J Jx) {b : Nat} {k lo hi : ByteArray} {v : Hd} {tl tr : Tr} {pre y3 : List α} {W : World}
    (h : TrIn (fun _ => True) W (.node b k v tl tr)) (hf : fromB lo k = false) (hu : underB hi k = true) (hJ : J pre W)
    (ir : ∀ W', Kp W W' → J (pre) W' → Calls Tryd.prog 51 #[.pointer tr.pt, .agg #[.string lo, .string hi], .func (.yield l) #[] #[]] W' (Ran J Jx (pre) y3 W')) :
    Calls Tryd.prog 51 #[.pointer (some ⟨b, 0, none⟩), .agg #[.string lo, .string hi], .func (.yield l) #[] #[]] W (Ran J Jx pre (y3) W) := by
  obtain ⟨⟨-, ho⟩, h0, h1, h2, h3, h4, hl, hr⟩ := h
  clear h0 h1 h2 h3 h4 hl hr
  have bx := box_new W lo hi
  have k1 : Kp W (W.alloc (.cells #[.string lo, .string hi] 38)) := Kp.of_below (Below.al (Below.refl _ _) _)
  have ho1 := k1.2 b _ _ _ (.inl rfl) ho
  have hJ1 := H.later _ _ _ hJ (Below.al (Below.refl _ W) (.cells #[.string lo, .string hi] 38))
  have FR : Hid (∀ W', W'.cell? ⟨b, 0, none⟩ = some (.string k) → Calls Tryd.prog 73 #[.pointer (some ⟨b, 0, none⟩), .agg #[.string lo, .string hi]] W' fun e w' => e = .returned (.bool false) ∧ Below W'.heap.size W' w') := fun W' h => from_is hf h
  have UN : Hid (∀ W', W'.cell? ⟨b, 0, none⟩ = some (.string k) → Calls Tryd.prog 74 #[.pointer (some ⟨b, 0, none⟩), .agg #[.string lo, .string hi]] W' fun e w' => e = .returned (.bool true) ∧ Below W'.heap.size W' w') := fun W' h => under_is hu h
  have IR := hid ir
  have HH := hid H
  clear ir H hf hu
  obtain ⟨W0, hW0⟩ : ∃ W0, W0 = W.alloc (.cells #[.string lo, .string hi] 38) := ⟨_, rfl⟩
  obtain ⟨B, hB⟩ : ∃ B, B = W.heap.size := ⟨_, rfl⟩
  go_enter Tryd.func51, Tryd.ntmps51
  go_wp2_with fail
  rw [← hW0] at bx k1 ho1 hJ1 ⊢
  rw [← hB] at bx ⊢
  have c0 : W0.cell? ⟨B, 0, none⟩ = some (.string lo) := cell_of_obj bx rfl
  have c1 : W0.cell? ⟨B, 1, none⟩ = some (.string hi) := cell_of_obj bx rfl
  have n0 : W0.cell? ⟨b, 0, none⟩ = some (.string k) := cell_of_obj ho1 rfl
  have n2 : W0.cell? ⟨b, 2, none⟩ = some (.pointer tl.pt) := cell_of_obj ho1 rfl
  clear hW0 hB ho hJ
  go_cut [21] (fun s21 wx => s21 = .bool false ∧ J pre wx ∧ Kp W0 wx)
  case first =>
    have kc0 := cell_regrown c0; have kc1 := cell_regrown c1; have kn0 := cell_regrown n0
    refine wp_region_quiet_below (by kernel_rfl) (by kernel_rfl) ?_
    repeat (go_big_quiet_step ((go_at_call 73; exact Calls.regrown_of (FR.out _ (cell_later (below_regrown _ _ _) n0)))))
    refine wpQuiet_nil ?_
    intro w1 hw
    have hb1 := below_of_regrown hw
    go_wp2_with fail
    go_meet
    exact ⟨rfl, HH.out.later _ _ _ hJ1 hb1, Kp.of_below hb1⟩
  case rest =>
      obtain ⟨rfl, hJ2, k2⟩ := hcut
      have bx2 := box_kp k2 bx
      have ho2 := k2.2 b _ _ _ (.inl rfl) ho1
      have k02 := k1.trans k2
      clear bx ho1 k1 k2 hJ1 c0 c1 n0 n2
      have c0 : wc.cell? ⟨B, 0, none⟩ = some (.string lo) := cell_of_obj bx2 rfl
      have c1 : wc.cell? ⟨B, 1, none⟩ = some (.string hi) := cell_of_obj bx2 rfl
      have n0 : wc.cell? ⟨b, 0, none⟩ = some (.string k) := cell_of_obj ho2 rfl
      go_wp2_with fail
      go_cut [42] (fun s42 wx => s42 = .bool false ∧ J (pre) wx ∧ Kp wc wx)
      case first =>
        have kc0 := cell_regrown c0; have kc1 := cell_regrown c1; have kn0 := cell_regrown n0
        refine wp_region_quiet_below (by kernel_rfl) (by kernel_rfl) ?_
        repeat (go_big_quiet_step (((go_at_call 73; exact Calls.regrown_of (FR.out _ (cell_later (below_regrown _ _ _) n0))))))
        refine wpQuiet_nil ?_
        intro w1 hw
        have hb1 := below_of_regrown hw
        go_wp2_with fail
        go_meet
        exact ⟨rfl, HH.out.later _ _ _ hJ2 hb1, Kp.of_below hb1⟩
      case rest =>
          obtain ⟨rfl, hJ3, k3⟩ := hcut
          clear c0 c1 n0
          have bx3 := box_kp k3 bx2
          have ho3 := k3.2 b _ _ _ (.inl rfl) ho2
          have k03 := k02.trans k3
          clear bx2 ho2 k02 k3 hJ2
          have d0 : wc.cell? ⟨B, 0, none⟩ = some (.string lo) := cell_of_obj bx3 rfl
          have d1 : wc.cell? ⟨B, 1, none⟩ = some (.string hi) := cell_of_obj bx3 rfl
          have e0 : wc.cell? ⟨b, 0, none⟩ = some (.string k) := cell_of_obj ho3 rfl
          have e2 : wc.cell? ⟨b, 3, none⟩ = some (.pointer tr.pt) := cell_of_obj ho3 rfl
          clear bx3 ho3
          go_wp2_with fail
          go_region_with (first
            | (go_at_call 74; refine (UN.out _ ?_).mono ?_; (simp [e0]); rintro e w1 ⟨rfl, hb1⟩; have d0' := cell_later hb1 d0; have d1' := cell_later hb1 d1; have e2' := cell_later hb1 e2)
            | (go_at_call 51; refine (IR.out _ (k03.trans (Kp.of_below (Below.on (Below.drew (Below.refl _ _)) hb1))) (HH.out.later _ _ _ hJ3 (Below.on (Below.drew (Below.refl _ _)) hb1))).mono ?_; rintro e w2 ⟨u3, rfl, t1, t2⟩))
          all_goals (try go_wp2_with fail)
          all_goals go_ret
          all_goals exact ⟨u3, rfl, fun hu => ⟨(t1 hu).1, (k03.trans (Kp.of_below (Below.on (Below.drew (Below.refl _ _)) hb1))).trans (t1 hu).2⟩, fun hu => by obtain ⟨q, hq, hx⟩ := t2 hu; exact ⟨q, hq, hx⟩⟩

set_option maxRecDepth 100000 in
set_option maxHeartbeats 2000000 in
theorem up_ff {α : Type} {f : α → En} {l N : Nat} {J Jx : List α → World → Prop} (H : Loops f l N J Jx) {b : Nat} {k lo hi : ByteArray} {v : Hd} {tl tr : Tr} {pre : List α} {W : World}
    (h : TrIn (fun _ => True) W (.node b k v tl tr)) (hf : fromB lo k = false) (hu : underB hi k = false) (hJ : J pre W) :
    Calls Tryd.prog 51 #[.pointer (some ⟨b, 0, none⟩), .agg #[.string lo, .string hi], .func (.yield l) #[] #[]] W (Ran J Jx pre ([]) W) := by
  obtain ⟨⟨-, ho⟩, h0, h1, h2, h3, h4, hl, hr⟩ := h
  clear h0 h1 h2 h3 h4 hl hr
  have bx := box_new W lo hi
  have k1 : Kp W (W.alloc (.cells #[.string lo, .string hi] 38)) := Kp.of_below (Below.al (Below.refl _ _) _)
  have ho1 := k1.2 b _ _ _ (.inl rfl) ho
  have hJ1 := H.later _ _ _ hJ (Below.al (Below.refl _ W) (.cells #[.string lo, .string hi] 38))
  have FR : Hid (∀ W', W'.cell? ⟨b, 0, none⟩ = some (.string k) → Calls Tryd.prog 73 #[.pointer (some ⟨b, 0, none⟩), .agg #[.string lo, .string hi]] W' fun e w' => e = .returned (.bool false) ∧ Below W'.heap.size W' w') := fun W' h => from_is hf h
  have UN : Hid (∀ W', W'.cell? ⟨b, 0, none⟩ = some (.string k) → Calls Tryd.prog 74 #[.pointer (some ⟨b, 0, none⟩), .agg #[.string lo, .string hi]] W' fun e w' => e = .returned (.bool false) ∧ Below W'.heap.size W' w') := fun W' h => under_is hu h
  have HH := hid H
  clear H hf hu
  obtain ⟨W0, hW0⟩ : ∃ W0, W0 = W.alloc (.cells #[.string lo, .string hi] 38) := ⟨_, rfl⟩
  obtain ⟨B, hB⟩ : ∃ B, B = W.heap.size := ⟨_, rfl⟩
  go_enter Tryd.func51, Tryd.ntmps51
  go_wp2_with fail
  rw [← hW0] at bx k1 ho1 hJ1 ⊢
  rw [← hB] at bx ⊢
  have c0 : W0.cell? ⟨B, 0, none⟩ = some (.string lo) := cell_of_obj bx rfl
  have c1 : W0.cell? ⟨B, 1, none⟩ = some (.string hi) := cell_of_obj bx rfl
  have n0 : W0.cell? ⟨b, 0, none⟩ = some (.string k) := cell_of_obj ho1 rfl
  have n2 : W0.cell? ⟨b, 2, none⟩ = some (.pointer tl.pt) := cell_of_obj ho1 rfl
  clear hW0 hB ho hJ
  go_cut [21] (fun s21 wx => s21 = .bool false ∧ J pre wx ∧ Kp W0 wx)
  case first =>
    have kc0 := cell_regrown c0; have kc1 := cell_regrown c1; have kn0 := cell_regrown n0
    refine wp_region_quiet_below (by kernel_rfl) (by kernel_rfl) ?_
    repeat (go_big_quiet_step ((go_at_call 73; exact Calls.regrown_of (FR.out _ (cell_later (below_regrown _ _ _) n0)))))
    refine wpQuiet_nil ?_
    intro w1 hw
    have hb1 := below_of_regrown hw
    go_wp2_with fail
    go_meet
    exact ⟨rfl, HH.out.later _ _ _ hJ1 hb1, Kp.of_below hb1⟩
  case rest =>
      obtain ⟨rfl, hJ2, k2⟩ := hcut
      have bx2 := box_kp k2 bx
      have ho2 := k2.2 b _ _ _ (.inl rfl) ho1
      have k02 := k1.trans k2
      clear bx ho1 k1 k2 hJ1 c0 c1 n0 n2
      have c0 : wc.cell? ⟨B, 0, none⟩ = some (.string lo) := cell_of_obj bx2 rfl
      have c1 : wc.cell? ⟨B, 1, none⟩ = some (.string hi) := cell_of_obj bx2 rfl
      have n0 : wc.cell? ⟨b, 0, none⟩ = some (.string k) := cell_of_obj ho2 rfl
      go_wp2_with fail
      go_cut [42] (fun s42 wx => s42 = .bool false ∧ J (pre) wx ∧ Kp wc wx)
      case first =>
        have kc0 := cell_regrown c0; have kc1 := cell_regrown c1; have kn0 := cell_regrown n0
        refine wp_region_quiet_below (by kernel_rfl) (by kernel_rfl) ?_
        repeat (go_big_quiet_step (((go_at_call 73; exact Calls.regrown_of (FR.out _ (cell_later (below_regrown _ _ _) n0))))))
        refine wpQuiet_nil ?_
        intro w1 hw
        have hb1 := below_of_regrown hw
        go_wp2_with fail
        go_meet
        exact ⟨rfl, HH.out.later _ _ _ hJ2 hb1, Kp.of_below hb1⟩
      case rest =>
          obtain ⟨rfl, hJ3, k3⟩ := hcut
          clear c0 c1 n0
          have bx3 := box_kp k3 bx2
          have ho3 := k3.2 b _ _ _ (.inl rfl) ho2
          have k03 := k02.trans k3
          clear bx2 ho2 k02 k3 hJ2
          have d0 : wc.cell? ⟨B, 0, none⟩ = some (.string lo) := cell_of_obj bx3 rfl
          have d1 : wc.cell? ⟨B, 1, none⟩ = some (.string hi) := cell_of_obj bx3 rfl
          have e0 : wc.cell? ⟨b, 0, none⟩ = some (.string k) := cell_of_obj ho3 rfl
          have e2 : wc.cell? ⟨b, 3, none⟩ = some (.pointer tr.pt) := cell_of_obj ho3 rfl
          clear bx3 ho3
          go_wp2_with fail
          have kc0 := cell_regrown d0; have kc1 := cell_regrown d1; have kn0 := cell_regrown e0
          refine wp_region_quiet_below (by kernel_rfl) (by kernel_rfl) ?_
          repeat (go_big_quiet_step ((go_at_call 74; exact Calls.regrown_of (UN.out _ (cell_later (below_regrown _ _ _) e0)))))
          refine wpQuiet_nil ?_
          intro w1 hw
          have hb1 := below_of_regrown hw
          go_wp2_with fail
          go_ret
          exact ⟨true, rfl, fun _ => ⟨by simpa using HH.out.later _ _ _ hJ3 hb1, k03.trans (Kp.of_below hb1)⟩, fun e => (by cases e)⟩

end Go.Proofs.YtmlacdfdpdkdaaaDoor.Vs
