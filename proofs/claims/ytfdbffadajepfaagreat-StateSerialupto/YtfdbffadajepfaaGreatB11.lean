import Derived.Test.YtfdbffadajepfaaGreatB10
import Derived.Test.YtfdbffadajepfaaGreatB01
import Derived.Deep.RegionHeld3
import Derived.RangeFuncBox
import Derived.RangeFuncNested
import Derived.RangeFuncBound
import Derived.RangeFuncCalls
import Derived.RangeFuncLeaves
import Derived.Shelf.Abstract
import Derived.Shelf.RegionOpen
import Derived.OwnWalkIn
import Derived.TacticsInMore
import Derived.LoopNIn
import Derived.LoopIn
import Derived.Stop.RegionWithIn
/- A tree of nodes that never change: what it lists, where it lies. No program of ours. -/
namespace Go.Proofs.YtfdbffadajepfaaGreat.Vs
open Go.RowKit Go.Sort
set_option linter.unusedVariables false

/-- a tree of nodes, each in a block of its own -/
inductive Tr where
  | nil
  | node (b : Nat) (k : ByteArray) (v : Hd) (l r : Tr)
def Tr.pt : Tr → Option Addr
  | .nil => none
  | .node b _ _ _ _ => some ⟨b, 0, none⟩
abbrev Tr.ptr (T : Tr) : Value := .pointer T.pt
def Tr.list : Tr → List En
  | .nil => []
  | .node _ k v l r => l.list ++ (k, v) :: r.list
def Tr.n : Tr → Nat
  | .nil => 0
  | .node _ _ _ l r => l.n + 1 + r.n
theorem Tr.len : ∀ T : Tr, T.list.length = T.n
  | .nil => rfl
  | .node _ _ _ l r => by simp [Tr.list, Tr.n, Tr.len l, Tr.len r]; omega
/-- the tree lies in blocks of S -/
def TrIn (S : Nat → Prop) (w : World) : Tr → Prop
  | .nil => True
  | .node b k v l r => (S b ∧ w.heap[b]? = some (.cells #[.string k, .slice (some ⟨v.g, 0, none⟩) v.n v.cap, .pointer l.pt, .pointer r.pt, .int .i64 ((l.n + 1 + r.n : Nat) : Int)] 167 (0, 0))) ∧ w.cell? ⟨b, 0, none⟩ = some (.string k) ∧ w.cell? ⟨b, 1, none⟩ = some (.slice (some ⟨v.g, 0, none⟩) v.n v.cap) ∧ w.cell? ⟨b, 2, none⟩ = some (.pointer l.pt) ∧
      w.cell? ⟨b, 3, none⟩ = some (.pointer r.pt) ∧ w.cell? ⟨b, 4, none⟩ = some (.int .i64 ((l.n + 1 + r.n : Nat) : Int)) ∧ TrIn S w l ∧ TrIn S w r
/-- the blocks of S are as they were -/
def Keeps (S : Nat → Prop) (w w' : World) : Prop := ∀ b, S b → b < w.heap.size → w'.heap[b]? = w.heap[b]?
theorem Keeps.refl (S : Nat → Prop) (w : World) : Keeps S w w := fun _ _ _ => rfl
theorem Keeps.of_below {S : Nat → Prop} {w w' : World} (h : Below w.heap.size w w') : Keeps S w w' := fun b _ hb => h.block b hb
theorem Keeps.of_onl {S F : Nat → Prop} {w w' : World} (h : Onl F w w') (hF : ∀ b, S b → ¬ F b) : Keeps S w w' := fun b hs hb => h.block b hb (hF b hs)
theorem Keeps.cell {S : Nat → Prop} {w w' : World} (h : Keeps S w w') {b o : Nat} {v : Value} (hb : S b) (k : w.cell? ⟨b, o, none⟩ = some v) : w'.cell? ⟨b, o, none⟩ = some v := by
  rw [← k]; exact World.cell?_of_block (a := ⟨b, o, none⟩) (h b hb (World.block_lt_of_cell? _ _ k))
theorem TrIn.keeps {S : Nat → Prop} {w w' : World} (h : Keeps S w w') : ∀ {T : Tr}, TrIn S w T → TrIn S w' T
  | .nil, _ => trivial
  | .node b k v l r, ⟨⟨hb, ho⟩, h0, h1, h2, h3, h4, hl, hr⟩ => ⟨⟨hb, (h b hb (World.block_lt_of_cell? _ _ h0)).trans ho⟩, h.cell hb h0, h.cell hb h1, h.cell hb h2, h.cell hb h3, h.cell hb h4, TrIn.keeps h hl, TrIn.keeps h hr⟩
theorem TrIn.later {S : Nat → Prop} {w w' : World} {T : Tr} (h : TrIn S w T) (hb : Below w.heap.size w w') : TrIn S w' T := h.keeps (Keeps.of_below hb)
theorem TrIn.mono {S S' : Nat → Prop} {w : World} (hS : ∀ b, S b → b < w.heap.size → S' b) : ∀ {T : Tr}, TrIn S w T → TrIn S' w T
  | .nil, _ => trivial
  | .node b k v l r, ⟨⟨hb, ho⟩, h0, h1, h2, h3, h4, hl, hr⟩ => ⟨⟨hS b hb (World.block_lt_of_cell? _ _ h0), ho⟩, h0, h1, h2, h3, h4, TrIn.mono hS hl, TrIn.mono hS hr⟩

/-- what no call ever changes: nodes, spans, variables that hold a root -/
def IxT (t : TypeId) : Prop := t = 167 ∨ t = 25 ∨ t = 75
def Kp (w w' : World) : Prop := w.heap.size ≤ w'.heap.size ∧ ∀ (b : Nat) (cs : Array Value) (t : TypeId) (z : Nat × Nat), IxT t → w.heap[b]? = some (.cells cs t z) → w'.heap[b]? = some (.cells cs t z)
theorem Kp.refl (w : World) : Kp w w := ⟨Nat.le_refl _, fun _ _ _ _ _ h => h⟩
theorem Kp.trans {a b c : World} (h : Kp a b) (k : Kp b c) : Kp a c := ⟨Nat.le_trans h.1 k.1, fun i cs t z ht hi => k.2 i cs t z ht (h.2 i cs t z ht hi)⟩
theorem Kp.of_below {w w' : World} (h : Below w.heap.size w w') : Kp w w' := ⟨h.size, fun b cs t z _ hb => (h.block b (Array.getElem?_eq_some_iff.1 hb).1).trans hb⟩
/-- the blocks that may change are of other types -/
theorem Kp.of_onl {F : Nat → Prop} {w w' : World} (h : Onl F w w') (hF : ∀ (b : Nat) (cs : Array Value) (t : TypeId) (z : Nat × Nat), F b → w.heap[b]? = some (.cells cs t z) → ¬ IxT t) : Kp w w' :=
  ⟨h.size, fun b cs t z ht hb => (h.block b (Array.getElem?_eq_some_iff.1 hb).1 (fun hf => hF b cs t z hf hb ht)).trans hb⟩
theorem cell_of_obj {w : World} {b o : Nat} {cs : Array Value} {t : TypeId} {z : Nat × Nat} {v : Value} (h : w.heap[b]? = some (.cells cs t z)) (hv : cs[o]? = some v) : w.cell? ⟨b, o, none⟩ = some v := by
  simp only [World.cell?, h]; exact hv
theorem TrIn.kp {S : Nat → Prop} {w w' : World} (h : Kp w w') : ∀ {T : Tr}, TrIn S w T → TrIn S w' T
  | .nil, _ => trivial
  | .node b k v l r, ⟨⟨hb, ho⟩, h0, h1, h2, h3, h4, hl, hr⟩ => by
    have ho' := h.2 b _ _ _ (.inl rfl) ho
    exact ⟨⟨hb, ho'⟩, cell_of_obj ho' rfl, cell_of_obj ho' rfl, cell_of_obj ho' rfl, cell_of_obj ho' rfl, cell_of_obj ho' rfl, TrIn.kp h hl, TrIn.kp h hr⟩

/-! ### rising lists, parted at a key -/
theorem rising_parts {l r : List En} {k : ByteArray} {v : Hd} (h : Rising (l ++ (k, v) :: r)) : Rising l ∧ Rising r ∧ (∀ e ∈ l, lt e.1 k = true) ∧ (∀ e ∈ r, lt k e.1 = true) := by
  have h1 := List.pairwise_append.1 h
  have h2 := List.pairwise_cons.1 h1.2.1
  exact ⟨h1.1, h2.2, fun e he => h1.2.2 e he (k, v) (by simp), fun e he => h2.1 e he⟩
theorem rising_join {l r : List En} {k : ByteArray} {v : Hd} (hl : Rising l) (hr : Rising r) (h1 : ∀ e ∈ l, lt e.1 k = true) (h2 : ∀ e ∈ r, lt k e.1 = true) : Rising (l ++ (k, v) :: r) := by
  refine List.pairwise_append.2 ⟨hl, List.pairwise_cons.2 ⟨h2, hr⟩, fun a ha b hb => ?_⟩
  rcases List.mem_cons.1 hb with rfl | hb
  · exact h1 a ha
  · exact lt_trans (h1 a ha) (h2 b hb)
theorem getX_left {l r : List En} {k key : ByteArray} {v : Hd} (h : Rising (l ++ (k, v) :: r)) (hk : lt key k = true) : getX (l ++ (k, v) :: r) key = getX l key := by
  obtain ⟨hl, hr, h1, h2⟩ := rising_parts h
  cases hg : getX l key with
  | some u => exact (getX_some h).2 (List.mem_append_left _ ((getX_some hl).1 hg))
  | none =>
    refine getX_none.2 fun u hu => ?_
    rcases List.mem_append.1 hu with h3 | h3
    · exact getX_none.1 hg u h3
    · rcases List.mem_cons.1 h3 with h4 | h4
      · injection h4 with h5 _; exact lt_ne hk h5
      · exact absurd (lt_trans hk (h2 _ h4)) (by rw [lt_irrefl]; decide)
theorem getX_right {l r : List En} {k key : ByteArray} {v : Hd} (h : Rising (l ++ (k, v) :: r)) (hk : lt k key = true) : getX (l ++ (k, v) :: r) key = getX r key := by
  obtain ⟨hl, hr, h1, h2⟩ := rising_parts h
  cases hg : getX r key with
  | some u => exact (getX_some h).2 (List.mem_append_right _ (List.mem_cons_of_mem _ ((getX_some hr).1 hg)))
  | none =>
    refine getX_none.2 fun u hu => ?_
    rcases List.mem_append.1 hu with h3 | h3
    · exact absurd (lt_trans hk (h1 _ h3)) (by rw [lt_irrefl]; decide)
    · rcases List.mem_cons.1 h3 with h4 | h4
      · injection h4 with h5 _; exact lt_ne hk h5.symm
      · exact getX_none.1 hg u h4
theorem getX_mid {l r : List En} {k : ByteArray} {v : Hd} (h : Rising (l ++ (k, v) :: r)) : getX (l ++ (k, v) :: r) k = some v := (getX_some h).2 (by simp)
theorem setX_left {l r : List En} {k key : ByteArray} {v u : Hd} (hk : lt key k = true) : setX (l ++ (k, v) :: r) key u = setX l key u ++ (k, v) :: r := by
  induction l with
  | nil =>
    simp only [List.nil_append, setX]
    rw [if_neg (by rw [lt_asymm hk]; decide), if_neg (fun e => lt_ne hk e.symm)]
    rfl
  | cons x l ih =>
    simp only [List.cons_append, setX]
    split
    · rw [ih]; rfl
    · split <;> rfl
theorem setX_right {l r : List En} {k key : ByteArray} {v u : Hd} (h1 : ∀ e ∈ l, lt e.1 k = true) (hk : lt k key = true) : setX (l ++ (k, v) :: r) key u = l ++ (k, v) :: setX r key u := by
  induction l with
  | nil => simp only [List.nil_append, setX]; rw [if_pos hk]
  | cons x l ih =>
    simp only [List.cons_append, setX]
    rw [if_pos (lt_trans (h1 x (by simp)) hk), ih (fun e he => h1 e (by simp [he]))]
theorem setX_mid {l r : List En} {k : ByteArray} {v u : Hd} (h1 : ∀ e ∈ l, lt e.1 k = true) : setX (l ++ (k, v) :: r) k u = l ++ (k, u) :: r := by
  induction l with
  | nil => simp [setX, lt_irrefl]
  | cons x l ih =>
    simp only [List.cons_append, setX]
    rw [if_pos (h1 x (by simp)), ih (fun e he => h1 e (by simp [he]))]
theorem delX_none {l : List En} {k : ByteArray} (h : ∀ e ∈ l, e.1 ≠ k) : delX l k = l := by
  rw [delX, List.filter_eq_self]; intro e he; simp [h e he]
theorem delX_left {l r : List En} {k key : ByteArray} {v : Hd} (h2 : ∀ e ∈ r, lt k e.1 = true) (hk : lt key k = true) : delX (l ++ (k, v) :: r) key = delX l key ++ (k, v) :: r := by
  have : delX ((k, v) :: r) key = (k, v) :: r := delX_none fun e he => by
    rcases List.mem_cons.1 he with rfl | he
    · exact fun e => lt_ne hk e.symm
    · exact fun e' => lt_ne (lt_trans hk (h2 e he)) e'.symm
  rw [delX, List.filter_append]; exact congrArg _ this
theorem delX_right {l r : List En} {k key : ByteArray} {v : Hd} (h1 : ∀ e ∈ l, lt e.1 k = true) (hk : lt k key = true) : delX (l ++ (k, v) :: r) key = l ++ (k, v) :: delX r key := by
  have : delX l key = l := delX_none fun e he => lt_ne (lt_trans (h1 e he) hk)
  rw [delX, List.filter_append, show l.filter _ = l from this, List.filter_cons, if_pos (by simp [lt_ne hk])]; rfl
theorem delX_mid {l r : List En} {k : ByteArray} {v : Hd} (h1 : ∀ e ∈ l, lt e.1 k = true) (h2 : ∀ e ∈ r, lt k e.1 = true) : delX (l ++ (k, v) :: r) k = l ++ r := by
  rw [delX, List.filter_append, List.filter_cons, if_neg (by simp), show l.filter _ = l from delX_none fun e he => lt_ne (h1 e he), show r.filter _ = r from delX_none fun e he e' => lt_ne (h2 e he) e'.symm]

/-! ### the tree's ways -/
def Tr.find : Tr → ByteArray → Tr
  | .nil, _ => .nil
  | .node b k v l r, key => if k = key then .node b k v l r else if lt key k then l.find key else r.find key
def Tr.val : Tr → Option Hd
  | .nil => none
  | .node _ _ v _ _ => some v
theorem Tr.find_is : ∀ (T : Tr) (key : ByteArray), Rising T.list → (T.find key).val = getX T.list key
  | .nil, key, _ => rfl
  | .node b k v l r, key, h => by
    obtain ⟨hl, hr, h1, h2⟩ := rising_parts h
    unfold Tr.find
    split
    · rename_i e; subst e; rw [show Tr.list _ = _ from rfl, Tr.list, getX_mid h]; rfl
    · rename_i hne
      split
      · rename_i hlt; rw [Tr.find_is l key hl, Tr.list, getX_left h hlt]
      · rename_i hnl
        have hlt : lt k key = true := by
          rcases lt_tri k key with e | e | e
          · exact absurd e hne
          · exact e
          · exact absurd e hnl
        rw [Tr.find_is r key hr, Tr.list, getX_right h hlt]
theorem TrIn.find {S : Nat → Prop} {w : World} : ∀ {T : Tr} (key : ByteArray), TrIn S w T → TrIn S w (T.find key)
  | .nil, _, h => h
  | .node b k v l r, key, h => by
    unfold Tr.find
    split
    · exact h
    · split
      · exact TrIn.find key h.2.2.2.2.2.2.1
      · exact TrIn.find key h.2.2.2.2.2.2.2

/-! ### spans -/
theorem rangeX_nil (lo hi : ByteArray) : rangeX ([] : List En) lo hi = [] := rfl
def fromB (lo k : ByteArray) : Bool := !lt k lo
def underB (hi k : ByteArray) : Bool := hi.toList.isEmpty || lt k hi
theorem inS_is (lo hi k : ByteArray) : inS lo hi k = (fromB lo k && underB hi k) := rfl
theorem range_left {l : List En} {k lo hi : ByteArray} (h1 : ∀ e ∈ l, lt e.1 k = true) (hf : fromB lo k = false) : rangeX l lo hi = [] := by
  rw [rangeX, List.filter_eq_nil_iff]
  intro e he
  have : lt k lo = true := by simpa [fromB] using hf
  simp [inS, lt_trans (h1 e he) this]
theorem range_right {r : List En} {k lo hi : ByteArray} (h2 : ∀ e ∈ r, lt k e.1 = true) (hu : underB hi k = false) : rangeX r lo hi = [] := by
  rw [rangeX, List.filter_eq_nil_iff]
  intro e he
  simp only [underB, Bool.or_eq_false_iff] at hu
  have h3 : lt e.1 hi = false := by
    cases h : lt e.1 hi with
    | false => rfl
    | true => exact absurd (lt_trans (h2 e he) h) (by rw [hu.2]; decide)
  simp [inS, hu.1, h3]
theorem range_node {l r : List En} {k lo hi : ByteArray} {v : Hd} : rangeX (l ++ (k, v) :: r) lo hi = rangeX l lo hi ++ (if inS lo hi k then [(k, v)] else []) ++ rangeX r lo hi := by
  simp only [rangeX, List.filter_append, List.filter_cons, List.append_assoc]
  split <;> simp

end Go.Proofs.YtfdbffadajepfaaGreat.Vs
namespace Go.Proofs.YtfdbffadajepfaaGreat.Vs
open Go.RowKit Go.Sort
set_option linter.unusedVariables false

theorem node_new {S : Nat → Prop} {w w' : World} {k : ByteArray} {v : Hd} {l r : Tr} {n : Int} (hn : n = ((l.n + 1 + r.n : Nat) : Int)) (hl : TrIn S w l) (hr : TrIn S w r) (hS : S w.heap.size)
    (h : w' = w.alloc (.cells #[.string k, .slice (some ⟨v.g, 0, none⟩) v.n v.cap, .pointer l.pt, .pointer r.pt, .int .i64 n] 167)) : TrIn S w' (.node w.heap.size k v l r) ∧ Below w.heap.size w w' := by
  subst h hn
  have hb : Below w.heap.size w (w.alloc (.cells #[.string k, .slice (some ⟨v.g, 0, none⟩) v.n v.cap, .pointer l.pt, .pointer r.pt, .int .i64 ((l.n + 1 + r.n : Nat) : Int)] 167)) := Below.al (Below.refl _ _) _
  have hc := World.alloc_heap_new w (.cells #[.string k, .slice (some ⟨v.g, 0, none⟩) v.n v.cap, .pointer l.pt, .pointer r.pt, .int .i64 ((l.n + 1 + r.n : Nat) : Int)] 167)
  refine ⟨⟨⟨hS, hc⟩, ?_, ?_, ?_, ?_, ?_, hl.later hb, hr.later hb⟩, hb⟩ <;> (simp only [World.cell?, hc]; rfl)

theorem count_is {S : Nat → Prop} {T : Tr} {w : World} (h : TrIn S w T) :
    Calls Tryz.prog 213 #[.pointer T.pt] w fun e w' => e = .returned (.int .i64 (T.n : Int)) ∧ w' = w := by
  cases T with
  | nil =>
    show Calls Tryz.prog 213 #[.pointer none] w _
    go_enter Tryz.func213, Tryz.ntmps213
    go_wp2_with fail
    go_ret
    exact ⟨rfl, rfl⟩
  | node b k v l r =>
    obtain ⟨hb, h0, h1, h2, h3, h4, hl, hr⟩ := h
    show Calls Tryz.prog 213 #[.pointer (some ⟨b, 0, none⟩)] w _
    clear h0 h1 h2 h3 hl hr
    obtain ⟨m, hm⟩ : ∃ m : Int, m = ((Tr.node b k v l r).n : Int) := ⟨_, rfl⟩
    rw [show ((l.n + 1 + r.n : Nat) : Int) = m from hm.symm] at h4
    rw [← hm]
    clear hm
    go_enter Tryz.func213, Tryz.ntmps213
    go_wp2_with fail
    go_ret
    exact ⟨rfl, rfl⟩
theorem weight_is {S : Nat → Prop} {T : Tr} {w : World} (h : TrIn S w T) (hn : T.n ≤ 1152921504606846976) :
    Calls Tryz.prog 231 #[.pointer T.pt] w fun e w' => e = .returned (.int .i64 ((T.n : Int) + 1)) ∧ w' = w := by
  have hc := count_is h
  obtain ⟨m, hm⟩ : ∃ m : Nat, m = T.n := ⟨_, rfl⟩
  obtain ⟨p, hp⟩ : ∃ p, p = T.pt := ⟨_, rfl⟩
  rw [← hm] at hc hn ⊢
  rw [← hp] at hc ⊢
  clear h hm hp
  go_enter Tryz.func231, Tryz.ntmps231
  go_wp2_with (go_at_call 213; refine hc.mono ?_; clear hc; rintro e w' ⟨rfl, rfl⟩)
  go_ret
  exact ⟨by go_num, rfl⟩

theorem over_is {S : Nat → Prop} {b : Nat} {k : ByteArray} {v : Hd} {l r : Tr} {w : World} (hS : ∀ i, w.heap.size ≤ i → S i) (h0 : w.cell? ⟨b, 0, none⟩ = some (.string k)) (h1 : w.cell? ⟨b, 1, none⟩ = some (.slice (some ⟨v.g, 0, none⟩) v.n v.cap))
    (hl : TrIn S w l) (hr : TrIn S w r) (hn : l.n + r.n ≤ 1152921504606846976) :
    Calls Tryz.prog 234 #[.pointer (some ⟨b, 0, none⟩), .pointer l.pt, .pointer r.pt] w fun e w' => ∃ b', e = .returned (.pointer (some ⟨b', 0, none⟩)) ∧ TrIn S w' (.node b' k v l r) ∧ Below w.heap.size w w' := by
  have cl : ∀ W, Below w.heap.size w W → _ := fun W hb => count_is (hl.later hb)
  have cr : ∀ W, Below w.heap.size w W → _ := fun W hb => count_is (hr.later hb)
  have HL := hid hl
  have HR := hid hr
  obtain ⟨pl, hpl⟩ : ∃ p, p = l.pt := ⟨_, rfl⟩
  obtain ⟨pr, hpr⟩ : ∃ p, p = r.pt := ⟨_, rfl⟩
  obtain ⟨nl, hnl⟩ : ∃ p, p = l.n := ⟨_, rfl⟩
  obtain ⟨nr, hnr⟩ : ∃ p, p = r.n := ⟨_, rfl⟩
  rw [← hpl, ← hnl] at cl
  rw [← hpr, ← hnr] at cr
  rw [← hpl, ← hpr]
  rw [← hnl, ← hnr] at hn
  have HQ := hid (And.intro hpl (And.intro hpr (And.intro hnl hnr)))
  have HS := hid hS
  have CL := hid cl
  have CR := hid cr
  clear hl hr hpl hpr hnl hnr cl cr hS
  go_enter Tryz.func234, Tryz.ntmps234
  go_wp2_with fail
  go_region_held3 (fun w' => w'.cell? ⟨b, 0, none⟩ = some (.string k) ∧ w'.cell? ⟨b, 1, none⟩ = some (.slice (some ⟨v.g, 0, none⟩) v.n v.cap) ∧ Below w.heap.size w w')
    ((refine (fun (hB : Below w.heap.size w _) => ⟨cell_later hB h0, cell_later hB h1, hB⟩) ?_; (repeat (first | exact Below.refl _ _ | assumption | refine Below.drew ?_ | refine Below.al ?_ _ | refine Below.setCell ?_ (by first | exact Nat.le_refl _ | (simp; omega) | (simp; done)) _ | refine Below.on ?_ (by assumption)))))
    (first | (go_at_call_of 213 pl; refine (CL.out _ ?_).mono ?_; ((repeat (first | exact Below.refl _ _ | assumption | refine Below.drew ?_ | refine Below.al ?_ _ | refine Below.setCell ?_ (by first | exact Nat.le_refl _ | (simp; omega) | (simp; done)) _ | refine Below.on ?_ (by assumption)))); rintro e w1 ⟨rfl, rfl⟩) | (go_at_call_of 213 pr; refine (CR.out _ ?_).mono ?_; ((repeat (first | exact Below.refl _ _ | assumption | refine Below.drew ?_ | refine Below.al ?_ _ | refine Below.setCell ?_ (by first | exact Nat.le_refl _ | (simp; omega) | (simp; done)) _ | refine Below.on ?_ (by assumption)))); rintro e w1 ⟨rfl, rfl⟩))
  go_wp2_with fail
  obtain ⟨rfl, rfl, rfl, rfl⟩ := HQ.out
  obtain ⟨t1, t2⟩ := node_new (S := S) (k := k) (v := v) (show (IntKind.i64.wrap (IntKind.i64.wrap ((l.n : Int) + 1) + (r.n : Int))) = ((l.n + 1 + r.n : Nat) : Int) by rw [IntKind.wrap_i64, IntKind.wrap_i64]; omega) HL.out HR.out (HS.out _ (Nat.le_refl _)) rfl
  go_ret
  exact ⟨_, rfl, t1.later (Below.drew (Below.refl _ _)), Below.drew t2⟩

theorem toList_beq' {a b : ByteArray} {u : Bool} (h : decide (a = b) = u) : (a.toList == b.toList) = u := by
  rw [← h, Bool.eq_iff_iff]
  simp only [beq_iff_eq, decide_eq_true_eq]
  exact ⟨bytes_inj, fun e => by rw [e]⟩

theorem find_is {S : Nat → Prop} {T : Tr} {w : World} (key : ByteArray) (h : TrIn S w T) :
    Calls Tryz.prog 172 #[.pointer T.pt, .string key] w fun e w' => e = .returned (.pointer (T.find key).pt) ∧ w' = w := by
  have HT := hid h
  clear h
  go_enter Tryz.func172, Tryz.ntmps172
  go_wp2_with fail
  go_loopg [0] T.n (fun g s0 wr => ∃ C : Tr, g = C.n ∧ s0 = .pointer C.pt ∧ Hid (TrIn S w C) ∧ Hid (T.find key = C.find key) ∧ wr = w)
  case atStart => exact ⟨T, rfl, rfl, HT, rfl, rfl⟩
  case round =>
    obtain ⟨C, rfl, rfl, HC, HE, rfl⟩ := hrel
    cases C with
    | nil =>
      show Code.wp _ _ _ _ _
      simp only [Tr.pt]
      go_wp2_with fail
      go_ret
      exact ⟨by rw [HE.out]; rfl, rfl⟩
    | node b k v l r =>
      obtain ⟨hb, h0, h1, h2, h3, h4, hl, hr⟩ := HC.out
      simp only [Tr.pt]
      clear h1 h4
      by_cases hk : k = key
      · have q1 := toList_beq' (decide_eq_true hk)
        have HF : Hid ((Tr.node b k v l r).find key = .node b k v l r) := by show _ = _; rw [Tr.find, if_pos hk]
        clear hk
        go_wp2_with fail
        go_ret
        exact ⟨by rw [HE.out, HF.out]; rfl, rfl⟩
      · have q1 := toList_beq' (decide_eq_false hk)
        cases hlt : lt key k with
        | true =>
          have q2 : Op.bytesLess key.toList k.toList = true := hlt
          have HF : Hid ((Tr.node b k v l r).find key = l.find key) := by show _ = _; rw [Tr.find, if_neg hk, if_pos hlt]
          clear hk hlt
          have HL := hid hl
          clear hl hr h3
          go_wp2_with fail
          go_roundg l.n
          case measure => simp only [Tr.n]; omega
          case rel => exact ⟨l, rfl, rfl, HL, by show _ = _; rw [HE.out, HF.out], rfl⟩
        | false =>
          have q2 : Op.bytesLess key.toList k.toList = false := hlt
          have HF : Hid ((Tr.node b k v l r).find key = r.find key) := by show _ = _; rw [Tr.find, if_neg hk, if_neg (by rw [hlt]; decide)]
          clear hk hlt
          have HL := hid hr
          clear hl hr h2
          go_wp2_with fail
          go_roundg r.n
          case measure => simp only [Tr.n]; omega
          case rel => exact ⟨r, rfl, rfl, HL, by show _ = _; rw [HE.out, HF.out], rfl⟩

/-- the least key's node -/
def Tr.least : Tr → Tr
  | .nil => .nil
  | .node b k v .nil r => .node b k v .nil r
  | .node _ _ _ (.node b k v l r) _ => (Tr.node b k v l r).least
theorem least_is {S : Nat → Prop} {T : Tr} {w : World} (h : TrIn S w T) (hT : T ≠ .nil) :
    Calls Tryz.prog 212 #[.pointer T.pt] w fun e w' => e = .returned (.pointer T.least.pt) ∧ w' = w := by
  have HT := hid h
  clear h
  have HN := hid hT
  clear hT
  go_enter Tryz.func212, Tryz.ntmps212
  go_wp2_with fail
  go_loopg [0] T.n (fun g s0 wr => ∃ C : Tr, g = C.n ∧ s0 = .pointer C.pt ∧ Hid (TrIn S w C) ∧ Hid (T.least = C.least) ∧ Hid (C ≠ .nil) ∧ wr = w)
  case atStart => exact ⟨T, rfl, rfl, HT, rfl, HN, rfl⟩
  case round =>
    obtain ⟨C, rfl, rfl, HC, HE, HN, rfl⟩ := hrel
    cases C with
    | nil => exact absurd rfl HN.out
    | node b k v l r =>
      obtain ⟨hb, h0, h1, h2, h3, h4, hl, hr⟩ := HC.out
      simp only [Tr.pt]
      clear h0 h1 h3 h4 hr
      cases l with
      | nil =>
        simp only [Tr.pt] at h2
        go_wp2_with fail
        go_ret
        exact ⟨by rw [HE.out]; rfl, rfl⟩
      | node b2 k2 v2 l2 r2 =>
        simp only [Tr.pt] at h2
        have HL := hid hl
        clear hl
        go_wp2_with fail
        go_roundg (Tr.node b2 k2 v2 l2 r2).n
        case measure => simp only [Tr.n]; omega
        case rel => exact ⟨_, rfl, rfl, HL, by show _ = _; rw [HE.out]; rfl, fun e => (by cases e), rfl⟩
theorem Tr.least_spec : ∀ (T : Tr), T ≠ .nil → ∃ b k v l r, T.least = .node b k v l r ∧ ∃ rest, T.list = (k, v) :: rest
  | .nil, h => absurd rfl h
  | .node b k v .nil r, _ => ⟨b, k, v, .nil, r, rfl, r.list, rfl⟩
  | .node b0 k0 v0 (.node b k v l r) r0, _ => by
    obtain ⟨b', k', v', l', r', e, rest, hl⟩ := Tr.least_spec (.node b k v l r) (fun e => by cases e)
    exact ⟨b', k', v', l', r', e, rest ++ (k0, v0) :: r0.list, by rw [Tr.list, hl]; rfl⟩
theorem TrIn.least {S : Nat → Prop} {w : World} : ∀ {T : Tr}, TrIn S w T → TrIn S w T.least
  | .nil, h => h
  | .node _ _ _ .nil _, h => h
  | .node _ _ _ (.node b k v l r) _, h => TrIn.least (T := .node b k v l r) h.2.2.2.2.2.2.1

end Go.Proofs.YtfdbffadajepfaaGreat.Vs
namespace Go.Proofs.YtfdbffadajepfaaGreat.Vs
open Go.RowKit Go.Sort
set_option linter.unusedVariables false

theorem leq_less' : ∀ a b : List UInt8, (Op.bytesLess a b || a == b) = !Op.bytesLess b a
  | a, b => by
    rcases bless_tri a b with h | h | h
    · subst h; rw [bless_irrefl]; simp
    · have h2 : Op.bytesLess b a = false := by
        cases hb : Op.bytesLess b a with
        | false => rfl
        | true => exact absurd (bless_trans _ _ _ h hb) (by rw [bless_irrefl]; decide)
      rw [h, h2]; rfl
    · have h2 : Op.bytesLess a b = false := by
        cases hb : Op.bytesLess a b with
        | false => rfl
        | true => exact absurd (bless_trans _ _ _ h hb) (by rw [bless_irrefl]; decide)
      have h3 : (a == b) = false := by
        rw [beq_eq_false_iff_ne]; intro e; subst e; rw [bless_irrefl] at h; cases h
      rw [h, h2, h3]; rfl
theorem retB {a b : Bool} (h : a = b) : Ending.returned (Value.bool a) = Ending.returned (Value.bool b) := by rw [h]

theorem Below.drewN {B : Nat} {a w : World} (h : Below B a w) (n : Nat) : Below B a (w.drewN n) := ⟨h.os, h.tape, h.output, h.size, h.block⟩
theorem from_is {b : Nat} {k lo hi : ByteArray} {w : World} {u : Bool} (hu : fromB lo k = u) (h0 : w.cell? ⟨b, 0, none⟩ = some (.string k)) :
    Calls Tryz.prog 109 #[.pointer (some ⟨b, 0, none⟩), .agg #[.string lo, .string hi]] w fun e w' => e = .returned (.bool u) ∧ Below w.heap.size w w' := by
  have hle : (Op.bytesLess lo.toList k.toList || lo.toList == k.toList) = u := by rw [leq_less', ← hu]; rfl
  have k0 : (w.alloc (.cells #[.string lo, .string hi] 25)).cell? ⟨b, 0, none⟩ = some (.string k) := cell_later (Below.al (Below.refl _ w) _) h0
  clear hu
  go_enter Tryz.func109, Tryz.ntmps109
  go_wp2_with fail
  go_region
  all_goals go_wp2_with fail
  all_goals go_ret
  all_goals exact ⟨retB (by first | rfl | simp_all), by (repeat (first | exact Below.refl _ _ | assumption | refine Below.drew ?_ | refine Below.al ?_ _ | refine Below.setCell ?_ (by first | exact Nat.le_refl _ | (simp; omega) | (simp; done)) _ | refine Below.on ?_ (by assumption)))⟩
theorem under_is {b : Nat} {k lo hi : ByteArray} {w : World} {u : Bool} (hu : underB hi k = u) (h0 : w.cell? ⟨b, 0, none⟩ = some (.string k)) :
    Calls Tryz.prog 110 #[.pointer (some ⟨b, 0, none⟩), .agg #[.string lo, .string hi]] w fun e w' => e = .returned (.bool u) ∧ Below w.heap.size w w' := by
  obtain ⟨b2, h2⟩ : ∃ b, hi.toList.isEmpty = b := ⟨_, rfl⟩
  obtain ⟨b3, h3⟩ : ∃ b, Op.bytesLess k.toList hi.toList = b := ⟨_, rfl⟩
  have HQ : Hid (u = (b2 || b3)) := by show _ = _; rw [← hu, underB, lt, h2, h3]
  have h2' : (hi.toList = []) = (b2 = true) := by rw [← h2]; simp
  have k0 : (w.alloc (.cells #[.string lo, .string hi] 25)).cell? ⟨b, 0, none⟩ = some (.string k) := cell_later (Below.al (Below.refl _ w) _) h0
  clear hu
  cases b2 <;> cases b3
  all_goals (try simp only [Bool.false_eq_true] at h2')
  all_goals
    go_enter Tryz.func110, Tryz.ntmps110
    go_wp2_with fail
    go_quiet (fail)
    go_wp2_with fail
    go_ret
    exact ⟨retB (by rw [HQ.out]; first | rfl | simp_all), Below.drewN (by (repeat (first | exact Below.refl _ _ | assumption | refine Below.drew ?_ | refine Below.al ?_ _ | refine Below.setCell ?_ (by first | exact Nat.le_refl _ | (simp; omega) | (simp; done)) _ | refine Below.on ?_ (by assumption)))) _⟩

end Go.Proofs.YtfdbffadajepfaaGreat.Vs
namespace Go.Proofs.YtfdbffadajepfaaGreat.Vs
open Go.RowKit Go.Sort Go.Shelf
set_option linter.unusedVariables false
attribute [local go_sem] Oper.semAt_some

/-- the function value of a loop's body: what one call of it comes to -/
abbrev Yld (l : Nat) (e : En) (W : World) (R : Ending → World → Prop) : Prop := ∀ m, YieldAt Fence.wide m Tryz.prog l #[.string e.1, .slice (some ⟨e.2.g, 0, none⟩) e.2.n e.2.cap] W R
theorem room_none (k : Nat) : Fence.wide.room k := room_wide k
theorem YieldAt.anyD {m : Nat} (m' : Nat) {P : Program} {l : Nat} {args : Array Value} {W : World} {R : Ending → World → Prop} (h : YieldAt Fence.wide m P l args W R) : YieldAt Fence.wide m' P l args W R := by
  obtain ⟨fn, tmps, assign, body, hy, hR⟩ := h
  exact ⟨fn, tmps, assign, body, hy, ⟨hR.1, fun c cs _ => hR.2 c cs (room_wide _)⟩⟩
/-- what an iterator asks of the loop -/
structure Loops {α : Type} (f : α → En) (l N : Nat) (J Jx : List α → World → Prop) : Prop where
  round : ∀ m pre x W, J pre W → pre.length < N → YieldAt Fence.wide m Tryz.prog l #[.string (f x).1, .slice (some ⟨(f x).2.g, 0, none⟩) (f x).2.n (f x).2.cap] W fun e W' => ∃ u, e = .returned (.bool u) ∧ (u = true → J (pre ++ [x]) W' ∧ Kp W W') ∧ (u = false → Jx (pre ++ [x]) W')
  later : ∀ pre W W', J pre W → Below W.heap.size W W' → J pre W'

theorem map_parts {α : Type} {f : α → En} {ys : List α} {a b c : List En} (h : ys.map f = a ++ b ++ c) : ∃ y1 y2 y3, ys = y1 ++ y2 ++ y3 ∧ y1.map f = a ∧ y2.map f = b ∧ y3.map f = c := by
  obtain ⟨y12, y3, rfl, h12, h3⟩ := List.map_eq_append_iff.1 h
  obtain ⟨y1, y2, rfl, h1, h2⟩ := List.map_eq_append_iff.1 h12
  exact ⟨y1, y2, y3, rfl, h1, h2, h3⟩
theorem map_one {α : Type} {f : α → En} {ys : List α} {e : En} (h : ys.map f = [e]) : ∃ y, ys = [y] ∧ f y = e := by
  cases ys with
  | nil => simp at h
  | cons y t =>
    cases t with
    | nil => exact ⟨y, rfl, by simpa using h⟩
    | cons z t => simp at h

/-- what up and down come to -/
def Ran {α : Type} (J Jx : List α → World → Prop) (pre ys : List α) (W : World) : Ending → World → Prop := fun e W' =>
  ∃ u, e = .returned (.bool u) ∧ (u = true → J (pre ++ ys) W' ∧ Kp W W') ∧ (u = false → ∃ q, q <+: ys ∧ Jx (pre ++ q) W')

theorem box_new (w : World) (lo hi : ByteArray) : (w.alloc (.cells #[.string lo, .string hi] 25)).heap[w.heap.size]? = some (.cells #[.string lo, .string hi] 25 (0, 0)) := World.alloc_heap_new w _
theorem box_kp {w w' : World} {B : Nat} {lo hi : ByteArray} (h : Kp w w') (hb : w.heap[B]? = some (.cells #[.string lo, .string hi] 25 (0, 0))) : w'.heap[B]? = some (.cells #[.string lo, .string hi] 25 (0, 0)) := h.2 B _ _ _ (.inr (.inl rfl)) hb


end Go.Proofs.YtfdbffadajepfaaGreat.Vs
