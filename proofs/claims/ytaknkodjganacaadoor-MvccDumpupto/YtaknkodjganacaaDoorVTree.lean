import Derived.Test.YtaknkodjganacaaDoorVPlain
import Derived.Test.YtaknkodjganacaaDoorDOnl
/- A tree of nodes that never change: what it lists, where it lies. No program of ours. -/
namespace Go.Proofs.YtaknkodjganacaaDoor.Vs
open Go.RowKit Go.Sort
set_option linter.unusedVariables false

/-- a tree of nodes, each in a block of its own -/
inductive Tr where
  | nil
  | node (b : Nat) (k : ByteArray) (v : Hd) (l r : Tr)
def Tr.pt : Tr → Option Addr
  | .nil => none
  | .node b _ _ _ _ => some ⟨b, 0, none⟩
abbrev Tr.ptr (T : Tr) : Value := .pointer T.pt
def Tr.list : Tr → List En
  | .nil => []
  | .node _ k v l r => l.list ++ (k, v) :: r.list
def Tr.n : Tr → Nat
  | .nil => 0
  | .node _ _ _ l r => l.n + 1 + r.n
theorem Tr.len : ∀ T : Tr, T.list.length = T.n
  | .nil => rfl
  | .node _ _ _ l r => by simp [Tr.list, Tr.n, Tr.len l, Tr.len r]; omega
/-- the tree lies in blocks of S -/
def TrIn (S : Nat → Prop) (w : World) : Tr → Prop
  | .nil => True
  | .node b k v l r => (S b ∧ w.heap[b]? = some (.cells #[.string k, .slice (some ⟨v.g, 0, none⟩) v.n v.cap, .pointer l.pt, .pointer r.pt, .int .i64 ((l.n + 1 + r.n : Nat) : Int)] 105 (0, 0))) ∧ w.cell? ⟨b, 0, none⟩ = some (.string k) ∧ w.cell? ⟨b, 1, none⟩ = some (.slice (some ⟨v.g, 0, none⟩) v.n v.cap) ∧ w.cell? ⟨b, 2, none⟩ = some (.pointer l.pt) ∧
      w.cell? ⟨b, 3, none⟩ = some (.pointer r.pt) ∧ w.cell? ⟨b, 4, none⟩ = some (.int .i64 ((l.n + 1 + r.n : Nat) : Int)) ∧ TrIn S w l ∧ TrIn S w r
/-- the blocks of S are as they were -/
def Keeps (S : Nat → Prop) (w w' : World) : Prop := ∀ b, S b → b < w.heap.size → w'.heap[b]? = w.heap[b]?
theorem Keeps.refl (S : Nat → Prop) (w : World) : Keeps S w w := fun _ _ _ => rfl
theorem Keeps.of_below {S : Nat → Prop} {w w' : World} (h : Below w.heap.size w w') : Keeps S w w' := fun b _ hb => h.block b hb
theorem Keeps.of_onl {S F : Nat → Prop} {w w' : World} (h : Onl F w w') (hF : ∀ b, S b → ¬ F b) : Keeps S w w' := fun b hs hb => h.block b hb (hF b hs)
theorem Keeps.cell {S : Nat → Prop} {w w' : World} (h : Keeps S w w') {b o : Nat} {v : Value} (hb : S b) (k : w.cell? ⟨b, o, none⟩ = some v) : w'.cell? ⟨b, o, none⟩ = some v := by
  rw [← k]; exact World.cell?_of_block (a := ⟨b, o, none⟩) (h b hb (World.block_lt_of_cell? _ _ k))
theorem TrIn.keeps {S : Nat → Prop} {w w' : World} (h : Keeps S w w') : ∀ {T : Tr}, TrIn S w T → TrIn S w' T
  | .nil, _ => trivial
  | .node b k v l r, ⟨⟨hb, ho⟩, h0, h1, h2, h3, h4, hl, hr⟩ => ⟨⟨hb, (h b hb (World.block_lt_of_cell? _ _ h0)).trans ho⟩, h.cell hb h0, h.cell hb h1, h.cell hb h2, h.cell hb h3, h.cell hb h4, TrIn.keeps h hl, TrIn.keeps h hr⟩
theorem TrIn.later {S : Nat → Prop} {w w' : World} {T : Tr} (h : TrIn S w T) (hb : Below w.heap.size w w') : TrIn S w' T := h.keeps (Keeps.of_below hb)
theorem TrIn.mono {S S' : Nat → Prop} {w : World} (hS : ∀ b, S b → b < w.heap.size → S' b) : ∀ {T : Tr}, TrIn S w T → TrIn S' w T
  | .nil, _ => trivial
  | .node b k v l r, ⟨⟨hb, ho⟩, h0, h1, h2, h3, h4, hl, hr⟩ => ⟨⟨hS b hb (World.block_lt_of_cell? _ _ h0), ho⟩, h0, h1, h2, h3, h4, TrIn.mono hS hl, TrIn.mono hS hr⟩

/-- what no call ever changes: nodes, spans, variables that hold a root -/
def IxT (t : TypeId) : Prop := t = 105 ∨ t = 28 ∨ t = 83
def Kp (w w' : World) : Prop := w.heap.size ≤ w'.heap.size ∧ ∀ (b : Nat) (cs : Array Value) (t : TypeId) (z : Nat × Nat), IxT t → w.heap[b]? = some (.cells cs t z) → w'.heap[b]? = some (.cells cs t z)
theorem Kp.refl (w : World) : Kp w w := ⟨Nat.le_refl _, fun _ _ _ _ _ h => h⟩
theorem Kp.trans {a b c : World} (h : Kp a b) (k : Kp b c) : Kp a c := ⟨Nat.le_trans h.1 k.1, fun i cs t z ht hi => k.2 i cs t z ht (h.2 i cs t z ht hi)⟩
theorem Kp.of_below {w w' : World} (h : Below w.heap.size w w') : Kp w w' := ⟨h.size, fun b cs t z _ hb => (h.block b (Array.getElem?_eq_some_iff.1 hb).1).trans hb⟩
/-- the blocks that may change are of other types -/
theorem Kp.of_onl {F : Nat → Prop} {w w' : World} (h : Onl F w w') (hF : ∀ (b : Nat) (cs : Array Value) (t : TypeId) (z : Nat × Nat), F b → w.heap[b]? = some (.cells cs t z) → ¬ IxT t) : Kp w w' :=
  ⟨h.size, fun b cs t z ht hb => (h.block b (Array.getElem?_eq_some_iff.1 hb).1 (fun hf => hF b cs t z hf hb ht)).trans hb⟩
theorem cell_of_obj {w : World} {b o : Nat} {cs : Array Value} {t : TypeId} {z : Nat × Nat} {v : Value} (h : w.heap[b]? = some (.cells cs t z)) (hv : cs[o]? = some v) : w.cell? ⟨b, o, none⟩ = some v := by
  simp only [World.cell?, h]; exact hv
theorem TrIn.kp {S : Nat → Prop} {w w' : World} (h : Kp w w') : ∀ {T : Tr}, TrIn S w T → TrIn S w' T
  | .nil, _ => trivial
  | .node b k v l r, ⟨⟨hb, ho⟩, h0, h1, h2, h3, h4, hl, hr⟩ => by
    have ho' := h.2 b _ _ _ (.inl rfl) ho
    exact ⟨⟨hb, ho'⟩, cell_of_obj ho' rfl, cell_of_obj ho' rfl, cell_of_obj ho' rfl, cell_of_obj ho' rfl, cell_of_obj ho' rfl, TrIn.kp h hl, TrIn.kp h hr⟩

/-! ### rising lists, parted at a key -/
theorem rising_parts {l r : List En} {k : ByteArray} {v : Hd} (h : Rising (l ++ (k, v) :: r)) : Rising l ∧ Rising r ∧ (∀ e ∈ l, lt e.1 k = true) ∧ (∀ e ∈ r, lt k e.1 = true) := by
  have h1 := List.pairwise_append.1 h
  have h2 := List.pairwise_cons.1 h1.2.1
  exact ⟨h1.1, h2.2, fun e he => h1.2.2 e he (k, v) (by simp), fun e he => h2.1 e he⟩
theorem rising_join {l r : List En} {k : ByteArray} {v : Hd} (hl : Rising l) (hr : Rising r) (h1 : ∀ e ∈ l, lt e.1 k = true) (h2 : ∀ e ∈ r, lt k e.1 = true) : Rising (l ++ (k, v) :: r) := by
  refine List.pairwise_append.2 ⟨hl, List.pairwise_cons.2 ⟨h2, hr⟩, fun a ha b hb => ?_⟩
  rcases List.mem_cons.1 hb with rfl | hb
  · exact h1 a ha
  · exact lt_trans (h1 a ha) (h2 b hb)
theorem getX_left {l r : List En} {k key : ByteArray} {v : Hd} (h : Rising (l ++ (k, v) :: r)) (hk : lt key k = true) : getX (l ++ (k, v) :: r) key = getX l key := by
  obtain ⟨hl, hr, h1, h2⟩ := rising_parts h
  cases hg : getX l key with
  | some u => exact (getX_some h).2 (List.mem_append_left _ ((getX_some hl).1 hg))
  | none =>
    refine getX_none.2 fun u hu => ?_
    rcases List.mem_append.1 hu with h3 | h3
    · exact getX_none.1 hg u h3
    · rcases List.mem_cons.1 h3 with h4 | h4
      · injection h4 with h5 _; exact lt_ne hk h5
      · exact absurd (lt_trans hk (h2 _ h4)) (by rw [lt_irrefl]; decide)
theorem getX_right {l r : List En} {k key : ByteArray} {v : Hd} (h : Rising (l ++ (k, v) :: r)) (hk : lt k key = true) : getX (l ++ (k, v) :: r) key = getX r key := by
  obtain ⟨hl, hr, h1, h2⟩ := rising_parts h
  cases hg : getX r key with
  | some u => exact (getX_some h).2 (List.mem_append_right _ (List.mem_cons_of_mem _ ((getX_some hr).1 hg)))
  | none =>
    refine getX_none.2 fun u hu => ?_
    rcases List.mem_append.1 hu with h3 | h3
    · exact absurd (lt_trans hk (h1 _ h3)) (by rw [lt_irrefl]; decide)
    · rcases List.mem_cons.1 h3 with h4 | h4
      · injection h4 with h5 _; exact lt_ne hk h5.symm
      · exact getX_none.1 hg u h4
theorem getX_mid {l r : List En} {k : ByteArray} {v : Hd} (h : Rising (l ++ (k, v) :: r)) : getX (l ++ (k, v) :: r) k = some v := (getX_some h).2 (by simp)
theorem setX_left {l r : List En} {k key : ByteArray} {v u : Hd} (hk : lt key k = true) : setX (l ++ (k, v) :: r) key u = setX l key u ++ (k, v) :: r := by
  induction l with
  | nil =>
    simp only [List.nil_append, setX]
    rw [if_neg (by rw [lt_asymm hk]; decide), if_neg (fun e => lt_ne hk e.symm)]
    rfl
  | cons x l ih =>
    simp only [List.cons_append, setX]
    split
    · rw [ih]; rfl
    · split <;> rfl
theorem setX_right {l r : List En} {k key : ByteArray} {v u : Hd} (h1 : ∀ e ∈ l, lt e.1 k = true) (hk : lt k key = true) : setX (l ++ (k, v) :: r) key u = l ++ (k, v) :: setX r key u := by
  induction l with
  | nil => simp only [List.nil_append, setX]; rw [if_pos hk]
  | cons x l ih =>
    simp only [List.cons_append, setX]
    rw [if_pos (lt_trans (h1 x (by simp)) hk), ih (fun e he => h1 e (by simp [he]))]
theorem setX_mid {l r : List En} {k : ByteArray} {v u : Hd} (h1 : ∀ e ∈ l, lt e.1 k = true) : setX (l ++ (k, v) :: r) k u = l ++ (k, u) :: r := by
  induction l with
  | nil => simp [setX, lt_irrefl]
  | cons x l ih =>
    simp only [List.cons_append, setX]
    rw [if_pos (h1 x (by simp)), ih (fun e he => h1 e (by simp [he]))]
theorem delX_none {l : List En} {k : ByteArray} (h : ∀ e ∈ l, e.1 ≠ k) : delX l k = l := by
  rw [delX, List.filter_eq_self]; intro e he; simp [h e he]
theorem delX_left {l r : List En} {k key : ByteArray} {v : Hd} (h2 : ∀ e ∈ r, lt k e.1 = true) (hk : lt key k = true) : delX (l ++ (k, v) :: r) key = delX l key ++ (k, v) :: r := by
  have : delX ((k, v) :: r) key = (k, v) :: r := delX_none fun e he => by
    rcases List.mem_cons.1 he with rfl | he
    · exact fun e => lt_ne hk e.symm
    · exact fun e' => lt_ne (lt_trans hk (h2 e he)) e'.symm
  rw [delX, List.filter_append]; exact congrArg _ this
theorem delX_right {l r : List En} {k key : ByteArray} {v : Hd} (h1 : ∀ e ∈ l, lt e.1 k = true) (hk : lt k key = true) : delX (l ++ (k, v) :: r) key = l ++ (k, v) :: delX r key := by
  have : delX l key = l := delX_none fun e he => lt_ne (lt_trans (h1 e he) hk)
  rw [delX, List.filter_append, show l.filter _ = l from this, List.filter_cons, if_pos (by simp [lt_ne hk])]; rfl
theorem delX_mid {l r : List En} {k : ByteArray} {v : Hd} (h1 : ∀ e ∈ l, lt e.1 k = true) (h2 : ∀ e ∈ r, lt k e.1 = true) : delX (l ++ (k, v) :: r) k = l ++ r := by
  rw [delX, List.filter_append, List.filter_cons, if_neg (by simp), show l.filter _ = l from delX_none fun e he => lt_ne (h1 e he), show r.filter _ = r from delX_none fun e he e' => lt_ne (h2 e he) e'.symm]

/-! ### the tree's ways -/
def Tr.find : Tr → ByteArray → Tr
  | .nil, _ => .nil
  | .node b k v l r, key => if k = key then .node b k v l r else if lt key k then l.find key else r.find key
def Tr.val : Tr → Option Hd
  | .nil => none
  | .node _ _ v _ _ => some v
theorem Tr.find_is : ∀ (T : Tr) (key : ByteArray), Rising T.list → (T.find key).val = getX T.list key
  | .nil, key, _ => rfl
  | .node b k v l r, key, h => by
    obtain ⟨hl, hr, h1, h2⟩ := rising_parts h
    unfold Tr.find
    split
    · rename_i e; subst e; rw [show Tr.list _ = _ from rfl, Tr.list, getX_mid h]; rfl
    · rename_i hne
      split
      · rename_i hlt; rw [Tr.find_is l key hl, Tr.list, getX_left h hlt]
      · rename_i hnl
        have hlt : lt k key = true := by
          rcases lt_tri k key with e | e | e
          · exact absurd e hne
          · exact e
          · exact absurd e hnl
        rw [Tr.find_is r key hr, Tr.list, getX_right h hlt]
theorem TrIn.find {S : Nat → Prop} {w : World} : ∀ {T : Tr} (key : ByteArray), TrIn S w T → TrIn S w (T.find key)
  | .nil, _, h => h
  | .node b k v l r, key, h => by
    unfold Tr.find
    split
    · exact h
    · split
      · exact TrIn.find key h.2.2.2.2.2.2.1
      · exact TrIn.find key h.2.2.2.2.2.2.2

/-! ### spans -/
theorem rangeX_nil (lo hi : ByteArray) : rangeX ([] : List En) lo hi = [] := rfl
def fromB (lo k : ByteArray) : Bool := !lt k lo
def underB (hi k : ByteArray) : Bool := hi.toList.isEmpty || lt k hi
theorem inS_is (lo hi k : ByteArray) : inS lo hi k = (fromB lo k && underB hi k) := rfl
theorem range_left {l : List En} {k lo hi : ByteArray} (h1 : ∀ e ∈ l, lt e.1 k = true) (hf : fromB lo k = false) : rangeX l lo hi = [] := by
  rw [rangeX, List.filter_eq_nil_iff]
  intro e he
  have : lt k lo = true := by simpa [fromB] using hf
  simp [inS, lt_trans (h1 e he) this]
theorem range_right {r : List En} {k lo hi : ByteArray} (h2 : ∀ e ∈ r, lt k e.1 = true) (hu : underB hi k = false) : rangeX r lo hi = [] := by
  rw [rangeX, List.filter_eq_nil_iff]
  intro e he
  simp only [underB, Bool.or_eq_false_iff] at hu
  have h3 : lt e.1 hi = false := by
    cases h : lt e.1 hi with
    | false => rfl
    | true => exact absurd (lt_trans (h2 e he) h) (by rw [hu.2]; decide)
  simp [inS, hu.1, h3]
theorem range_node {l r : List En} {k lo hi : ByteArray} {v : Hd} : rangeX (l ++ (k, v) :: r) lo hi = rangeX l lo hi ++ (if inS lo hi k then [(k, v)] else []) ++ rangeX r lo hi := by
  simp only [rangeX, List.filter_append, List.filter_cons, List.append_assoc]
  split <;> simp

end Go.Proofs.YtaknkodjganacaaDoor.Vs
