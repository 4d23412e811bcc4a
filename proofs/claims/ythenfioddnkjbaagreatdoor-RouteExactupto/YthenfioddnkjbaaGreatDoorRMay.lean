import Derived.Test.YthenfioddnkjbaaGreatDoorDOnl
import Derived.Laws.Strings
import Derived.Laws.StructEq
import Derived.Handy
/- Rows of spans, pairs and writes; may writes be? -/
namespace Go.Proofs.YthenfioddnkjbaaGreatDoor
open Go.RowKit Go.Sort
set_option linter.unusedVariables false

theorem ret_bool {x u : Bool} (h : x = u) : Ending.returned (.bool x) = Ending.returned (.bool u) := h ▸ rfl
/-- two texts: a span -/
abbrev T2 := ByteArray × ByteArray
/-- a write -/
structure Wr where
  key : ByteArray
  del : Bool
  val : ByteArray

def ltS (a b : ByteArray) : Bool := Op.bytesLess a.toList b.toList
def emS (a : ByteArray) : Bool := a.toList.isEmpty
theorem em_size (a : ByteArray) : emS a = decide (a.size = 0) := by
  rw [emS, ByteArray.toList_eq, Bool.eq_iff_iff]
  simp only [List.isEmpty_iff, decide_eq_true_eq, ByteArray.size]
  cases h : a.data with
  | mk l => cases l <;> simp_all
theorem toList_empty : (ByteArray.mk #[]).toList = ([] : List UInt8) := by rw [ByteArray.toList_eq]
theorem lt_empty (a : ByteArray) : ltS ⟨#[]⟩ a = !emS a := by
  rw [ltS, toList_empty, emS]
  cases h : a.toList <;> rfl
theorem binOp_string_geq (t : TypeId) (a b : ByteArray) : binOp .geq t (.string a) (.string b) = pure (.bool !(Op.bytesLess a.toList b.toList)) := by simp [binOp, Op.stringOp]
theorem leq_less : ∀ a b : List UInt8, (Op.bytesLess a b || a == b) = !Op.bytesLess b a
  | [], [] => rfl
  | [], _ :: _ => rfl
  | _ :: _, [] => rfl
  | a :: x, b :: y => by
    have ih := leq_less x y
    rw [Op.bytesLess, Op.bytesLess]
    rcases Nat.lt_trichotomy a.toNat b.toNat with h | h | h
    · have h1 : a < b := h
      have h2 : ¬ b < a := by show ¬ b.toNat < a.toNat; omega
      have h3 : (b == a) = false := beq_eq_false_iff_ne.2 (fun e => by subst e; omega)
      simp [h1, h2, h3]
    · obtain rfl : a = b := UInt8.toNat.inj h
      have h2 : ¬ a < a := by show ¬ a.toNat < a.toNat; omega
      simp [h2]
      simpa using ih
    · have h1 : b < a := h
      have h2 : ¬ a < b := by show ¬ a.toNat < b.toNat; omega
      have h3 : (a == b) = false := beq_eq_false_iff_ne.2 (fun e => by subst e; omega)
      simp [h1, h2, h3]
theorem binOp_string_leq (t : TypeId) (a b : ByteArray) : binOp .leq t (.string a) (.string b) = pure (.bool !(Op.bytesLess b.toList a.toList)) := by
  rw [← leq_less]; simp [binOp, Op.stringOp]

/-- the i-th, nothing where there is none -/
def nth2 (xs : List T2) (i : Nat) : T2 := (xs[i]?).getD (⟨#[]⟩, ⟨#[]⟩)
def nthW (xs : List Wr) (i : Nat) : Wr := (xs[i]?).getD ⟨⟨#[]⟩, false, ⟨#[]⟩⟩
def Row2 (w : World) (a : Option Addr) (xs : List T2) : Prop :=
  ∀ i, i < xs.length → ∃ b off, a = some ⟨b, off, none⟩ ∧ w.cell? ⟨b, off + i * 2, none⟩ = some (.string (nth2 xs i).1) ∧ w.cell? ⟨b, off + i * 2 + 1, none⟩ = some (.string (nth2 xs i).2)
def RowW (w : World) (a : Option Addr) (xs : List Wr) : Prop :=
  ∀ i, i < xs.length → ∃ b off, a = some ⟨b, off, none⟩ ∧ w.cell? ⟨b, off + i * 3, none⟩ = some (.string (nthW xs i).key) ∧ w.cell? ⟨b, off + i * 3 + 1, none⟩ = some (.bool (nthW xs i).del) ∧ w.cell? ⟨b, off + i * 3 + 2, none⟩ = some (.string (nthW xs i).val)
theorem Row2.later {w w' : World} {a : Option Addr} {xs : List T2} (h : Row2 w a xs) (hb : Below w.heap.size w w') : Row2 w' a xs := fun i hi => by
  obtain ⟨b, off, e, h0, h1⟩ := h i hi
  exact ⟨b, off, e, cell_later hb h0, cell_later hb h1⟩
theorem RowW.later {w w' : World} {a : Option Addr} {xs : List Wr} (h : RowW w a xs) (hb : Below w.heap.size w w') : RowW w' a xs := fun i hi => by
  obtain ⟨b, off, e, h0, h1, h2⟩ := h i hi
  exact ⟨b, off, e, cell_later hb h0, cell_later hb h1, cell_later hb h2⟩
theorem nth2_take {xs : List T2} {k : Nat} (h : k < xs.length) : xs.take (k + 1) = xs.take k ++ [nth2 xs k] := by
  rw [List.take_succ_eq_append_getElem h]; simp [nth2, h]
theorem nthW_take {xs : List Wr} {k : Nat} (h : k < xs.length) : xs.take (k + 1) = xs.take k ++ [nthW xs k] := by
  rw [List.take_succ_eq_append_getElem h]; simp [nthW, h]

/-- all of the first n -/
def allB (p : Nat → Bool) : Nat → Bool
  | 0 => true
  | n + 1 => allB p n && p n
theorem allB_no {p : Nat → Bool} {k : Nat} (h : p k = false) : ∀ n, k < n → allB p n = false
  | 0, hn => by omega
  | n + 1, hn => by
    by_cases e : k = n
    · subst e; rw [allB, h, Bool.and_false]
    · rw [allB, allB_no h n (by omega), Bool.false_and]
theorem allB_yes {p : Nat → Bool} {k : Nat} (h : allB p k = true) (h' : p k = true) : allB p (k + 1) = true := by rw [allB, h, h']; rfl
/-- may a key stand behind last? -/
def keyOk (last key : ByteArray) : Bool := ltS last key && decide (key.size ≤ 32)
def prevW (xs : List Wr) (i : Nat) : ByteArray := if i = 0 then ⟨#[]⟩ else (nthW xs (i - 1)).key
theorem prevW_succ (xs : List Wr) (i : Nat) : prevW xs (i + 1) = (nthW xs i).key := by simp [prevW]
def writeAt (xs : List Wr) (i : Nat) : Bool := keyOk (prevW xs i) (nthW xs i).key && decide ((nthW xs i).val.size ≤ 64) && !((nthW xs i).del && !emS (nthW xs i).val)
def writesOk (xs : List Wr) : Bool := decide (xs.length ≤ 16) && allB (writeAt xs) xs.length

end Go.Proofs.YthenfioddnkjbaaGreatDoor
/- Plain: keys in their order; an index as a rising list; a log of changes and what it says. -/
namespace Go.Proofs.YthenfioddnkjbaaGreatDoor
set_option linter.unusedVariables false

theorem snoc_ind {α : Type} {P : List α → Prop} (nil : P []) (snoc : ∀ l a, P l → P (l ++ [a])) (l : List α) : P l := by
  have h : ∀ r : List α, P r.reverse := fun r => by
    induction r with
    | nil => exact nil
    | cons a r ih => rw [List.reverse_cons]; exact snoc _ _ ih
  have := h l.reverse
  rwa [List.reverse_reverse] at this
abbrev Key := List UInt8
theorem bless_irrefl : ∀ a : Key, Op.bytesLess a a = false
  | [] => rfl
  | a :: x => by
    have ih := bless_irrefl x
    have h : ¬ a < a := by show ¬ a.toNat < a.toNat; omega
    rw [Op.bytesLess, ih]; simp [h]
theorem bless_trans : ∀ a b c : Key, Op.bytesLess a b = true → Op.bytesLess b c = true → Op.bytesLess a c = true
  | _, _, [], _, h => by rw [Op.bytesLess] at h; cases h
  | [], _, _ :: _, _, _ => rfl
  | _ :: _, [], _ :: _, h, _ => by rw [Op.bytesLess] at h; cases h
  | a :: x, b :: y, c :: z, h1, h2 => by
    rw [Op.bytesLess] at h1 h2 ⊢
    simp only [Bool.or_eq_true, Bool.and_eq_true, decide_eq_true_eq, beq_iff_eq] at h1 h2 ⊢
    rcases h1 with h1 | ⟨rfl, h1⟩
    · rcases h2 with h2 | ⟨rfl, h2⟩
      · left
        have e1 : a.toNat < b.toNat := h1
        have e2 : b.toNat < c.toNat := h2
        show a.toNat < c.toNat
        omega
      · exact .inl h1
    · rcases h2 with h2 | ⟨rfl, h2⟩
      · exact .inl h2
      · exact .inr ⟨rfl, bless_trans x y z h1 h2⟩
theorem bless_tri : ∀ a b : Key, a = b ∨ Op.bytesLess a b = true ∨ Op.bytesLess b a = true
  | [], [] => .inl rfl
  | [], _ :: _ => .inr (.inl rfl)
  | _ :: _, [] => .inr (.inr rfl)
  | a :: x, b :: y => by
    rw [Op.bytesLess, Op.bytesLess]
    simp only [Bool.or_eq_true, Bool.and_eq_true, decide_eq_true_eq, beq_iff_eq]
    rcases Nat.lt_trichotomy a.toNat b.toNat with h | h | h
    · exact .inr (.inl (.inl h))
    · obtain rfl : a = b := UInt8.toNat.inj h
      rcases bless_tri x y with h | h | h
      · exact .inl (by rw [h])
      · exact .inr (.inl (.inr ⟨rfl, h⟩))
      · exact .inr (.inr (.inr ⟨rfl, h⟩))
    · exact .inr (.inr (.inl h))
/-- a below b -/
def lt (a b : ByteArray) : Bool := Op.bytesLess a.toList b.toList
theorem bytes_inj {a b : ByteArray} (h : a.toList = b.toList) : a = b := by
  rw [ByteArray.toList_eq, ByteArray.toList_eq] at h
  exact ByteArray.ext (Array.toList_inj.1 h)
theorem lt_irrefl (a : ByteArray) : lt a a = false := bless_irrefl _
theorem lt_trans {a b c : ByteArray} (h1 : lt a b = true) (h2 : lt b c = true) : lt a c = true := bless_trans _ _ _ h1 h2
theorem lt_tri (a b : ByteArray) : a = b ∨ lt a b = true ∨ lt b a = true := (bless_tri a.toList b.toList).imp bytes_inj id
theorem lt_ne {a b : ByteArray} (h : lt a b = true) : a ≠ b := fun e => by subst e; rw [lt_irrefl] at h; cases h
theorem lt_asymm {a b : ByteArray} (h : lt a b = true) : lt b a = false := by
  cases hb : lt b a with
  | false => rfl
  | true => exact absurd (lt_trans h hb) (by rw [lt_irrefl]; decide)

/-- a key and its value -/
abbrev En := ByteArray × Int
def Rising (l : List En) : Prop := l.Pairwise fun x y => lt x.1 y.1 = true
/-- rising lists of the same entries are the same -/
theorem rising_ext : ∀ {l m : List En}, Rising l → Rising m → (∀ e, e ∈ l ↔ e ∈ m) → l = m
  | [], [], _, _, _ => rfl
  | [], y :: m, _, _, h => absurd ((h y).2 (List.mem_cons_self ..)) (by simp)
  | x :: l, [], _, _, h => absurd ((h x).1 (List.mem_cons_self ..)) (by simp)
  | x :: l, y :: m, hl, hm, h => by
    have hl' := List.pairwise_cons.1 hl
    have hm' := List.pairwise_cons.1 hm
    have hxy : x = y := by
      rcases List.mem_cons.1 ((h x).1 (List.mem_cons_self ..)) with e | e
      · exact e
      · rcases List.mem_cons.1 ((h y).2 (List.mem_cons_self ..)) with e' | e'
        · exact e'.symm
        · have h1 := hm'.1 x e
          have h2 := hl'.1 y e'
          exact absurd (lt_trans h1 h2) (by rw [lt_irrefl]; decide)
    subst hxy
    congr 1
    refine rising_ext hl'.2 hm'.2 fun e => ⟨fun he => ?_, fun he => ?_⟩
    · rcases List.mem_cons.1 ((h e).1 (List.mem_cons_of_mem _ he)) with e1 | e1
      · subst e1; exact absurd (hl'.1 _ he) (by rw [lt_irrefl]; decide)
      · exact e1
    · rcases List.mem_cons.1 ((h e).2 (List.mem_cons_of_mem _ he)) with e1 | e1
      · subst e1; exact absurd (hm'.1 _ he) (by rw [lt_irrefl]; decide)
      · exact e1
theorem rising_key {l : List En} (h : Rising l) {k : ByteArray} {v u : Int} (h1 : (k, v) ∈ l) (h2 : (k, u) ∈ l) : v = u := by
  induction l with
  | nil => simp at h1
  | cons x l ih =>
    have h' := List.pairwise_cons.1 h
    rcases List.mem_cons.1 h1 with e1 | e1
    · rcases List.mem_cons.1 h2 with e2 | e2
      · rw [← e1] at e2; injection e2 with _ e; exact e.symm
      · have := h'.1 _ e2; rw [← e1] at this; exact absurd this (by rw [lt_irrefl]; decide)
    · rcases List.mem_cons.1 h2 with e2 | e2
      · have := h'.1 _ e1; rw [← e2] at this; exact absurd this (by rw [lt_irrefl]; decide)
      · exact ih h'.2 e1 e2
theorem rising_filter {l : List En} (h : Rising l) (p : En → Bool) : Rising (l.filter p) := List.Pairwise.filter p h

/-- what an index says -/
def getX (l : List En) (k : ByteArray) : Option Int := (l.find? fun e => decide (e.1 = k)).map (·.2)
/-- one more, or another value -/
def setX : List En → ByteArray → Int → List En
  | [], k, v => [(k, v)]
  | e :: l, k, v => if lt e.1 k then e :: setX l k v else if e.1 = k then (k, v) :: l else (k, v) :: e :: l
def delX (l : List En) (k : ByteArray) : List En := l.filter fun e => !decide (e.1 = k)
/-- is a key in a span? -/
def inS (lo hi k : ByteArray) : Bool := !lt k lo && (hi.toList.isEmpty || lt k hi)
def rangeX (l : List En) (lo hi : ByteArray) : List En := l.filter fun e => inS lo hi e.1
def floorX (l : List En) (k : ByteArray) : Option En := (l.filter fun e => !lt k e.1).getLast?
def ceilX (l : List En) (k : ByteArray) : Option En := (l.filter fun e => !lt e.1 k).head?
theorem getX_some {l : List En} (h : Rising l) {k : ByteArray} {v : Int} : getX l k = some v ↔ (k, v) ∈ l := by
  unfold getX
  constructor
  · intro hg
    obtain ⟨e, he, rfl⟩ := Option.map_eq_some_iff.1 hg
    have h1 := List.find?_some he
    have h2 := List.mem_of_find?_eq_some he
    simp only [decide_eq_true_eq] at h1
    rw [← h1]; exact h2
  · intro hm
    cases hf : l.find? fun e => decide (e.1 = k) with
    | none =>
      have := List.find?_eq_none.1 hf (k, v) hm
      simp at this
    | some e =>
      have h1 := List.find?_some hf
      have h2 := List.mem_of_find?_eq_some hf
      simp only [decide_eq_true_eq] at h1
      obtain ⟨ek, ev⟩ := e
      subst h1
      simp only [Option.map_some]
      rw [rising_key h h2 hm]
theorem getX_none {l : List En} {k : ByteArray} : getX l k = none ↔ ∀ v, (k, v) ∉ l := by
  unfold getX
  rw [Option.map_eq_none_iff, List.find?_eq_none]
  constructor
  · intro h v hm
    have := h (k, v) hm
    simp at this
  · intro h e he hk
    simp only [decide_eq_true_eq] at hk
    obtain ⟨ek, ev⟩ := e
    subst hk
    exact h ev he
theorem setX_mem {l : List En} (h : Rising l) (k : ByteArray) (v : Int) (e : En) : e ∈ setX l k v ↔ e = (k, v) ∨ (e ∈ l ∧ e.1 ≠ k) := by
  induction l with
  | nil => simp [setX]
  | cons x l ih =>
    have h' := List.pairwise_cons.1 h
    unfold setX
    split
    · rename_i hlt
      rw [List.mem_cons, ih h'.2, List.mem_cons]
      constructor
      · rintro (rfl | rfl | ⟨h1, h2⟩)
        · exact .inr ⟨.inl rfl, lt_ne hlt⟩
        · exact .inl rfl
        · exact .inr ⟨.inr h1, h2⟩
      · rintro (rfl | ⟨rfl | h1, h2⟩)
        · exact .inr (.inl rfl)
        · exact .inl rfl
        · exact .inr (.inr ⟨h1, h2⟩)
    · split
      · rename_i hnl heq
        rw [List.mem_cons, List.mem_cons]
        constructor
        · rintro (rfl | h1)
          · exact .inl rfl
          · refine .inr ⟨.inr h1, fun e' => ?_⟩
            have := h'.1 e h1
            rw [heq, e'] at this
            rw [lt_irrefl] at this; cases this
        · rintro (rfl | ⟨rfl | h1, h2⟩)
          · exact .inl rfl
          · exact absurd heq h2
          · exact .inr h1
      · rename_i hnl hne
        rw [List.mem_cons]
        constructor
        · rintro (rfl | h1)
          · exact .inl rfl
          · refine .inr ⟨h1, fun e' => ?_⟩
            rcases List.mem_cons.1 h1 with rfl | h2
            · exact hne e'
            · have h3 := h'.1 e h2
              rcases lt_tri x.1 k with h4 | h4 | h4
              · exact hne h4
              · exact hnl h4
              · rw [e'] at h3; exact hnl h3
        · rintro (rfl | ⟨h1, h2⟩)
          · exact .inl rfl
          · exact .inr h1
theorem setX_rising {l : List En} (h : Rising l) (k : ByteArray) (v : Int) : Rising (setX l k v) := by
  induction l with
  | nil => exact List.pairwise_singleton _ _
  | cons x l ih =>
    have h' := List.pairwise_cons.1 h
    unfold setX
    split
    · rename_i hlt
      refine List.pairwise_cons.2 ⟨fun e he => ?_, ih h'.2⟩
      rcases (setX_mem h'.2 k v e).1 he with rfl | ⟨h1, -⟩
      · exact hlt
      · exact h'.1 e h1
    · rename_i hnl
      split
      · rename_i heq
        refine List.pairwise_cons.2 ⟨fun e he => ?_, h'.2⟩
        have := h'.1 e he
        rw [heq] at this
        exact this
      · rename_i hne
        have hk : lt k x.1 = true := by
          rcases lt_tri x.1 k with h4 | h4 | h4
          · exact absurd h4 hne
          · exact absurd h4 hnl
          · exact h4
        refine List.pairwise_cons.2 ⟨fun e he => ?_, h⟩
        rcases List.mem_cons.1 he with rfl | h1
        · exact hk
        · exact lt_trans hk (h'.1 e h1)
theorem delX_mem (l : List En) (k : ByteArray) (e : En) : e ∈ delX l k ↔ e ∈ l ∧ e.1 ≠ k := by simp [delX, List.mem_filter]
theorem delX_rising {l : List En} (h : Rising l) (k : ByteArray) : Rising (delX l k) := rising_filter h _
theorem rangeX_rising {l : List En} (h : Rising l) (lo hi : ByteArray) : Rising (rangeX l lo hi) := rising_filter h _
theorem getX_set {l : List En} (h : Rising l) (k : ByteArray) (v : Int) : getX (setX l k v) k = some v := (getX_some (setX_rising h k v)).2 ((setX_mem h k v _).2 (.inl rfl))

/-- a change: a key set, or gone -/
structure Ch where
  key : ByteArray
  v : Int
  gone : Bool
/-- what the last word on a key is -/
def getL : List Ch → ByteArray → Option Int
  | log, k => log.foldl (fun a c => if c.key = k then (if c.gone then none else some c.v) else a) none
theorem getL_snoc (log : List Ch) (c : Ch) (k : ByteArray) : getL (log ++ [c]) k = if c.key = k then (if c.gone then none else some c.v) else getL log k := by
  simp [getL, List.foldl_append]
theorem getL_key {log : List Ch} {k : ByteArray} {v : Int} (h : getL log k = some v) : ∃ c ∈ log, c.key = k := by
  induction log using snoc_ind with
  | nil => simp [getL] at h
  | snoc log c ih =>
    rw [getL_snoc] at h
    by_cases e : c.key = k
    · exact ⟨c, by simp, e⟩
    · rw [if_neg e] at h
      obtain ⟨c', h1, h2⟩ := ih h
      exact ⟨c', by simp [h1], h2⟩
/-- the index that a log says -/
def ixL (log : List Ch) : List En := log.foldl (fun l c => if c.gone then delX l c.key else setX l c.key c.v) []
theorem ixL_snoc (log : List Ch) (c : Ch) : ixL (log ++ [c]) = if c.gone then delX (ixL log) c.key else setX (ixL log) c.key c.v := by
  simp [ixL, List.foldl_append]
theorem ixL_rising (log : List Ch) : Rising (ixL log) := by
  induction log using snoc_ind with
  | nil => exact List.Pairwise.nil
  | snoc log c ih =>
    rw [ixL_snoc]
    split
    · exact delX_rising ih _
    · exact setX_rising ih _ _
theorem ixL_mem (log : List Ch) (k : ByteArray) (v : Int) : (k, v) ∈ ixL log ↔ getL log k = some v := by
  induction log using snoc_ind generalizing k v with
  | nil => simp [ixL, getL]
  | snoc log c ih =>
    rw [ixL_snoc, getL_snoc]
    by_cases hg : c.gone = true
    · rw [if_pos hg, delX_mem, if_pos hg, ih]
      by_cases e : c.key = k
      · rw [if_pos e]; simp [e]
      · rw [if_neg e]; simp [Ne.symm e]
    · rw [if_neg hg, setX_mem (ixL_rising log), if_neg hg, ih]
      by_cases e : c.key = k
      · rw [if_pos e]
        subst e
        simp [eq_comm]
      · rw [if_neg e]
        constructor
        · rintro (h | ⟨h, -⟩)
          · injection h with h1 _; exact absurd h1.symm e
          · exact h
        · intro h; exact .inr ⟨h, Ne.symm e⟩
theorem ixL_get (log : List Ch) (k : ByteArray) : getX (ixL log) k = getL log k := by
  cases h : getL log k with
  | none => exact getX_none.2 fun v hv => by rw [ixL_mem, h] at hv; cases hv
  | some v => exact (getX_some (ixL_rising log)).2 ((ixL_mem log k v).2 h)

/-- the document's list, change by change -/
def laidL (l : List En) (e : En) : List En := setX l e.1 e.2
def entriesK (log : List Ch) (lo hi : ByteArray) : List Ch → List En
  | cs => cs.foldl (fun l c => match getL log c.key with
    | some v => if l.any (fun e => decide (e.1 = c.key)) then l else if inS lo hi c.key then setX l c.key v else l
    | none => l) []
theorem entriesK_snoc (log : List Ch) (lo hi : ByteArray) (cs : List Ch) (c : Ch) : entriesK log lo hi (cs ++ [c]) = match getL log c.key with
    | some v => if (entriesK log lo hi cs).any (fun e => decide (e.1 = c.key)) then entriesK log lo hi cs else if inS lo hi c.key then setX (entriesK log lo hi cs) c.key v else entriesK log lo hi cs
    | none => entriesK log lo hi cs := by
  unfold entriesK
  rw [List.foldl_append]
  rfl
theorem entriesK_is (log : List Ch) (lo hi : ByteArray) (cs : List Ch) : Rising (entriesK log lo hi cs) ∧ ∀ k v, (k, v) ∈ entriesK log lo hi cs ↔ getL log k = some v ∧ inS lo hi k = true ∧ ∃ c ∈ cs, c.key = k := by
  induction cs using snoc_ind with
  | nil => exact ⟨List.Pairwise.nil, fun k v => by simp [entriesK]⟩
  | snoc cs c ih =>
    obtain ⟨ih1, ih2⟩ := ih
    have hex : ∀ k, (∃ c' ∈ cs ++ [c], c'.key = k) ↔ (∃ c' ∈ cs, c'.key = k) ∨ c.key = k := fun k => by
      constructor
      · rintro ⟨c', h1, h2⟩
        rcases List.mem_append.1 h1 with h3 | h3
        · exact .inl ⟨c', h3, h2⟩
        · simp at h3; subst h3; exact .inr h2
      · rintro (⟨c', h1, h2⟩ | h)
        · exact ⟨c', by simp [h1], h2⟩
        · exact ⟨c, by simp, h⟩
    rw [entriesK_snoc]
    cases hg : getL log c.key with
    | none =>
      refine ⟨ih1, fun k v => ?_⟩
      simp only
      rw [ih2, hex]
      constructor
      · rintro ⟨h1, h2, h3⟩; exact ⟨h1, h2, .inl h3⟩
      · rintro ⟨h1, h2, h3 | h3⟩
        · exact ⟨h1, h2, h3⟩
        · rw [← h3, hg] at h1; cases h1
    | some u =>
      simp only
      by_cases ha : (entriesK log lo hi cs).any (fun e => decide (e.1 = c.key)) = true
      · rw [if_pos ha]
        refine ⟨ih1, fun k v => ?_⟩
        rw [ih2, hex]
        constructor
        · rintro ⟨h1, h2, h3⟩; exact ⟨h1, h2, .inl h3⟩
        · rintro ⟨h1, h2, h3 | h3⟩
          · exact ⟨h1, h2, h3⟩
          · obtain ⟨e, he, hk⟩ := List.any_eq_true.1 ha
            simp only [decide_eq_true_eq] at hk
            obtain ⟨ek, ev⟩ := e
            have := (ih2 ek ev).1 he
            refine ⟨h1, h2, ?_⟩
            rw [← h3, ← hk]
            exact this.2.2
      · rw [if_neg ha]
        by_cases hi' : inS lo hi c.key = true
        · rw [if_pos hi']
          refine ⟨setX_rising ih1 _ _, fun k v => ?_⟩
          rw [setX_mem ih1, ih2, hex]
          constructor
          · rintro (h | ⟨⟨h1, h2, h3⟩, -⟩)
            · injection h with e1 e2; subst e1 e2; exact ⟨hg, hi', .inr rfl⟩
            · exact ⟨h1, h2, .inl h3⟩
          · rintro ⟨h1, h2, h3⟩
            by_cases e : k = c.key
            · subst e
              rw [hg] at h1
              injection h1 with h1
              exact .inl (by rw [h1])
            · rcases h3 with h3 | h3
              · exact .inr ⟨⟨h1, h2, h3⟩, e⟩
              · exact absurd h3.symm e
        · rw [if_neg hi']
          refine ⟨ih1, fun k v => ?_⟩
          rw [ih2, hex]
          constructor
          · rintro ⟨h1, h2, h3⟩; exact ⟨h1, h2, .inl h3⟩
          · rintro ⟨h1, h2, h3 | h3⟩
            · exact ⟨h1, h2, h3⟩
            · rw [← h3] at h2; exact absurd h2 hi'
/-- the document's entries are the index's in the span -/
theorem entries_is (log : List Ch) (lo hi : ByteArray) : entriesK log lo hi log = rangeX (ixL log) lo hi := by
  obtain ⟨h1, h2⟩ := entriesK_is log lo hi log
  refine rising_ext h1 (rangeX_rising (ixL_rising log) _ _) fun e => ?_
  obtain ⟨k, v⟩ := e
  rw [h2, rangeX, List.mem_filter, ixL_mem]
  constructor
  · rintro ⟨a, b, -⟩; exact ⟨a, b⟩
  · rintro ⟨a, b⟩; exact ⟨a, b, getL_key a⟩
theorem rangeX_all (l : List En) : rangeX l ⟨#[]⟩ ⟨#[]⟩ = l := by
  unfold rangeX
  refine List.filter_eq_self.2 fun e _ => ?_
  have h1 : (ByteArray.mk #[]).toList = ([] : List UInt8) := by rw [ByteArray.toList_eq]
  have h2 : ∀ a : List UInt8, Op.bytesLess a [] = false := fun a => by cases a <;> rfl
  simp [inS, lt, h1, h2]

end Go.Proofs.YthenfioddnkjbaaGreatDoor
/- Shards and spans, plain. -/
namespace Go.Proofs.YthenfioddnkjbaaGreatDoor.Rt
set_option linter.unusedVariables false

abbrev mt : ByteArray := ⟨#[]⟩
theorem ltS_lt (a b : ByteArray) : ltS a b = lt a b := rfl
theorem lt_nil (k : ByteArray) : ltS k mt = false := by rw [ltS, toList_empty]; cases k.toList <;> rfl
theorem em_nil : emS mt = true := by rw [emS, toList_empty]; rfl
theorem em_iff (a : ByteArray) : emS a = true ↔ a = mt := by
  constructor
  · intro h
    rcases lt_tri a mt with e | e | e
    · exact e
    · rw [← ltS_lt, lt_nil] at e; cases e
    · rw [← ltS_lt, lt_empty, h] at e; cases e
  · rintro rfl; exact em_nil
theorem ltS_trans {a b c : ByteArray} (h1 : ltS a b = true) (h2 : ltS b c = true) : ltS a c = true := lt_trans h1 h2
theorem ltS_irrefl (a : ByteArray) : ltS a a = false := lt_irrefl a
theorem ltS_asymm {a b : ByteArray} (h : ltS a b = true) : ltS b a = false := lt_asymm h
theorem ltS_of_le_lt {a b c : ByteArray} (h1 : ltS b a = false) (h2 : ltS b c = true) : ltS a c = true := by
  rcases lt_tri a b with rfl | h | h
  · exact h2
  · exact lt_trans h h2
  · rw [ltS_lt] at h1; rw [h1] at h; cases h
theorem ltS_of_lt_le {a b c : ByteArray} (h1 : ltS a b = true) (h2 : ltS c b = false) : ltS a c = true := by
  rcases lt_tri b c with rfl | h | h
  · exact h1
  · exact lt_trans h1 h
  · rw [ltS_lt] at h2; rw [h2] at h; cases h
theorem le_trans {a b c : ByteArray} (h1 : ltS b a = false) (h2 : ltS c b = false) : ltS c a = false := by
  cases h : ltS c a with
  | false => rfl
  | true => rw [ltS_of_lt_le h h1] at h2; cases h2

def nthS (ss : List ByteArray) (i : Nat) : ByteArray := ss[i]?.getD mt
def prevS (ss : List ByteArray) (i : Nat) : ByteArray := if i = 0 then mt else nthS ss (i - 1)
/-- keys that rise -/
def risB (ss : List ByteArray) : Bool := allB (fun i => keyOk (prevS ss i) (nthS ss i)) ss.length
theorem allB_all {p : Nat → Bool} : ∀ {n : Nat}, allB p n = true → ∀ i, i < n → p i = true
  | 0, _, i, hi => by omega
  | n + 1, h, i, hi => by
    simp only [allB, Bool.and_eq_true] at h
    by_cases e : i = n
    · subst e; exact h.2
    · exact allB_all h.1 i (by omega)
theorem ris_step {ss : List ByteArray} (h : risB ss = true) {i : Nat} (hi : i < ss.length) : ltS (prevS ss i) (nthS ss i) = true := by
  have := allB_all h i hi
  simp only [keyOk, Bool.and_eq_true] at this
  exact this.1
theorem ris_lt {ss : List ByteArray} (h : risB ss = true) : ∀ {j : Nat}, j < ss.length → ∀ i, i < j → ltS (nthS ss i) (nthS ss j) = true
  | 0, hj, i, hi => by omega
  | j + 1, hj, i, hi => by
    have h1 := ris_step h hj
    simp only [prevS, Nat.succ_ne_zero, if_false, Nat.add_sub_cancel] at h1
    by_cases e : i = j
    · subst e; exact h1
    · exact ltS_trans (ris_lt h (by omega) i (by omega)) h1
theorem ris_ne {ss : List ByteArray} (h : risB ss = true) {i : Nat} (hi : i < ss.length) : emS (nthS ss i) = false := by
  cases he : emS (nthS ss i) with
  | false => rfl
  | true =>
    have := ris_step h hi
    rw [(em_iff _).1 he, lt_nil] at this
    cases this

/-- how many of the first n split keys are at or below the key -/
def cntS (ss : List ByteArray) (k : ByteArray) : Nat → Nat
  | 0 => 0
  | n + 1 => cntS ss k n + if ltS k (nthS ss n) then 0 else 1
/-- the shard of a key -/
def ownN (ss : List ByteArray) (k : ByteArray) : Nat := cntS ss k ss.length
theorem cnt_le (ss : List ByteArray) (k : ByteArray) : ∀ n, cntS ss k n ≤ n
  | 0 => by simp [cntS]
  | n + 1 => by have := cnt_le ss k n; rw [cntS]; split <;> omega
theorem own_le (ss : List ByteArray) (k : ByteArray) : ownN ss k ≤ ss.length := cnt_le _ _ _
theorem cnt_is {ss : List ByteArray} (h : risB ss = true) (k : ByteArray) : ∀ n, n ≤ ss.length → ∀ i, i < n → (ltS k (nthS ss i) = false ↔ i < cntS ss k n)
  | 0, _, i, hi => by omega
  | n + 1, hn, i, hi => by
    have ih := cnt_is h k n (by omega)
    have hle := cnt_le ss k n
    rw [cntS]
    cases hk : ltS k (nthS ss n) with
    | true =>
      simp only [if_true, Nat.add_zero]
      by_cases e : i = n
      · subst e; rw [hk]; simp; omega
      · exact ih i (by omega)
    | false =>
      simp only [Bool.false_eq_true, if_false]
      have all : ∀ j, j < n → ltS k (nthS ss j) = false := fun j hj => le_trans (ltS_asymm (ris_lt h (by omega) j hj)) hk
      have hn' : cntS ss k n = n := by
        cases n with
        | zero => rfl
        | succ n => have := (ih n (by omega)).1 (all n (by omega)); omega
      rw [hn']
      constructor
      · intro _; omega
      · intro _
        by_cases e : i = n
        · subst e; exact hk
        · exact all i (by omega)
theorem own_is {ss : List ByteArray} (h : risB ss = true) (k : ByteArray) {i : Nat} (hi : i < ss.length) : ltS k (nthS ss i) = false ↔ i < ownN ss k := cnt_is h k _ (Nat.le_refl _) i hi
theorem own_nil {ss : List ByteArray} (h : risB ss = true) : ownN ss mt = 0 := by
  rcases Nat.eq_zero_or_pos (ownN ss mt) with e | e
  · exact e
  · have hl := own_le ss mt
    have := (own_is h mt (show 0 < ss.length by omega)).2 e
    rw [lt_empty, ris_ne h (by omega)] at this
    cases this
theorem own_split {ss : List ByteArray} (h : risB ss = true) {i : Nat} (hi : i < ss.length) : ownN ss (nthS ss i) = i + 1 := by
  have h1 := (own_is h (nthS ss i) hi).1 (ltS_irrefl _)
  have hl := own_le ss (nthS ss i)
  rcases Nat.lt_or_ge (i + 1) (ownN ss (nthS ss i)) with e | e
  · have := (own_is h (nthS ss i) (show i + 1 < ss.length by omega)).2 e
    rw [ris_lt h (by omega) i (by omega)] at this
    cases this
  · omega
theorem own_mono {ss : List ByteArray} (h : risB ss = true) {k k' : ByteArray} (hk : ltS k' k = false) : ownN ss k ≤ ownN ss k' := by
  rcases Nat.lt_or_ge (ownN ss k') (ownN ss k) with e | e
  · have hl := own_le ss k
    have h1 := (own_is h k (show ownN ss k' < ss.length by omega)).2 e
    have h2 := (own_is h k' (show ownN ss k' < ss.length by omega)).1 (le_trans h1 hk)
    omega
  · exact e

/-- is a text inside a span? -/
def insB (k : ByteArray) (s : T2) : Bool := !ltS k s.1 && (emS s.2 || ltS k s.2)
/-- a shard's range -/
def reachN (ss : List ByteArray) (i : Nat) : T2 := (prevS ss i, nthS ss i)
theorem reach_last (ss : List ByteArray) : nthS ss ss.length = mt := by simp [nthS]
theorem ins_reach {ss : List ByteArray} (h : risB ss = true) (k : ByteArray) {i : Nat} (hi : i ≤ ss.length) : insB k (reachN ss i) = decide (ownN ss k = i) := by
  have hl := own_le ss k
  have h1 : (!ltS k (prevS ss i)) = decide (i ≤ ownN ss k) := by
    unfold prevS
    split
    · rename_i e; subst e; rw [lt_nil]; simp
    · have := own_is h k (show i - 1 < ss.length by omega)
      rw [Bool.eq_iff_iff]; simp only [Bool.not_eq_true', decide_eq_true_eq]
      rw [this]; omega
  have h2 : (emS (nthS ss i) || ltS k (nthS ss i)) = decide (ownN ss k ≤ i) := by
    by_cases e : i = ss.length
    · subst e; rw [reach_last, em_nil, Bool.true_or]; simp [hl]
    · rw [ris_ne h (by omega), Bool.false_or]
      have := own_is h k (show i < ss.length by omega)
      cases hk : ltS k (nthS ss i) with
      | false => have := this.1 hk; symm; simp; omega
      | true =>
        have : ¬ i < ownN ss k := fun hh => by rw [this.2 hh] at hk; cases hk
        symm; simp; omega
  simp only [insB, reachN, h1, h2]
  rw [Bool.eq_iff_iff]; simp only [Bool.and_eq_true, decide_eq_true_eq]; omega

def maxT (a b : ByteArray) : ByteArray := if ltS a b then b else a
def lesH (a b : ByteArray) : ByteArray := if emS a || (!emS b && ltS b a) then b else a
def join (a b : T2) : T2 := (maxT a.1 b.1, lesH a.2 b.2)
def void (s : T2) : Bool := !emS s.2 && !ltS s.1 s.2
def comm (a b : T2) : Option T2 := if void (join a b) then none else some (join a b)
theorem ins_join (k : ByteArray) (a b : T2) : insB k (join a b) = (insB k a && insB k b) := by
  have h1 : (!ltS k (maxT a.1 b.1)) = (!ltS k a.1 && !ltS k b.1) := by
    unfold maxT
    cases h : ltS a.1 b.1 with
    | true =>
      simp only [if_true]
      cases hb : ltS k b.1 with
      | true => simp
      | false => simp [le_trans (ltS_asymm h) hb]
    | false =>
      simp only [Bool.false_eq_true, if_false]
      cases ha : ltS k a.1 with
      | true => simp
      | false => simp [le_trans h ha]
  have h2 : (emS (lesH a.2 b.2) || ltS k (lesH a.2 b.2)) = ((emS a.2 || ltS k a.2) && (emS b.2 || ltS k b.2)) := by
    unfold lesH
    cases ha : emS a.2 with
    | true => simp
    | false =>
      cases hb : emS b.2 with
      | true => simp [ha]
      | false =>
        simp only [Bool.false_or, Bool.not_false, Bool.true_and]
        cases h : ltS b.2 a.2 with
        | true =>
          simp only [if_true, hb, Bool.false_or]
          cases hk : ltS k b.2 with
          | false => simp
          | true => simp [ltS_trans hk h]
        | false =>
          simp only [Bool.false_eq_true, if_false, ha, Bool.false_or]
          cases hk : ltS k a.2 with
          | false => simp
          | true => simp [ltS_of_lt_le hk h]
  simp only [insB, join] at h1 h2 ⊢
  rw [h1, h2]
  cases ltS k a.1 <;> cases ltS k b.1 <;> simp
theorem ins_void {k : ByteArray} {s : T2} (h : void s = true) : insB k s = false := by
  simp only [void, Bool.and_eq_true, Bool.not_eq_true'] at h
  cases hi : insB k s with
  | false => rfl
  | true =>
    simp only [insB, h.1, Bool.false_or, Bool.and_eq_true, Bool.not_eq_true'] at hi
    rw [ltS_of_le_lt hi.1 hi.2] at h
    cases h.2
theorem comm_some {a b s : T2} (h : comm a b = some s) (k : ByteArray) : insB k s = (insB k a && insB k b) := by
  unfold comm at h
  split at h
  · cases h
  · injection h with h; rw [← h, ins_join]
theorem comm_none {a b : T2} (h : comm a b = none) (k : ByteArray) : (insB k a && insB k b) = false := by
  unfold comm at h
  split at h
  · rename_i hv; rw [← ins_join]; exact ins_void hv
  · cases h
theorem comm_void {a b s : T2} (h : comm a b = some s) : void s = false := by
  unfold comm at h
  split at h
  · cases h
  · rename_i hv; injection h with h; rw [← h]; simpa using hv
/-- a part: a shard and a span -/
abbrev Pt := Nat × T2
/-- the parts in the first n shards -/
def cutN (ss : List ByteArray) (s : T2) : Nat → List Pt
  | 0 => []
  | n + 1 => cutN ss s n ++ match comm (reachN ss n) s with
    | none => []
    | some t => [(n, t)]
def cutL (ss : List ByteArray) (s : T2) : List Pt := cutN ss s (ss.length + 1)
theorem cut_len (ss : List ByteArray) (s : T2) : ∀ n, (cutN ss s n).length ≤ n
  | 0 => by simp [cutN]
  | n + 1 => by
    have := cut_len ss s n
    rw [cutN, List.length_append]
    cases comm (reachN ss n) s <;> simp <;> omega
theorem cut_mem {ss : List ByteArray} {s : T2} {p : Pt} : ∀ {n : Nat}, p ∈ cutN ss s n → p.1 < n ∧ comm (reachN ss p.1) s = some p.2
  | 0, h => by simp [cutN] at h
  | n + 1, h => by
    rw [cutN, List.mem_append] at h
    rcases h with h | h
    · have := cut_mem h; exact ⟨by omega, this.2⟩
    · cases hc : comm (reachN ss n) s with
      | none => rw [hc] at h; simp at h
      | some t => rw [hc] at h; simp at h; subst h; exact ⟨by simp, hc⟩
theorem cut_rise (ss : List ByteArray) (s : T2) : ∀ n, (cutN ss s n).Pairwise fun a b => a.1 < b.1
  | 0 => by simp [cutN]
  | n + 1 => by
    rw [cutN, List.pairwise_append]
    refine ⟨cut_rise ss s n, ?_, fun a ha b hb => ?_⟩
    · cases comm (reachN ss n) s <;> simp
    · have := (cut_mem ha).1
      cases hc : comm (reachN ss n) s with
      | none => rw [hc] at hb; simp at hb
      | some t => rw [hc] at hb; simp at hb; subst hb; exact this
/-- how many of the parts have the key -/
def cntP (k : ByteArray) (l : List Pt) : Nat := (l.filter fun p => insB k p.2).length
theorem cntP_snoc (k : ByteArray) (l : List Pt) (p : Pt) : cntP k (l ++ [p]) = cntP k l + if insB k p.2 then 1 else 0 := by
  simp only [cntP, List.filter_append, List.length_append]
  cases h : insB k p.2 <;> simp [List.filter, h]
theorem part_in {ss : List ByteArray} (h : risB ss = true) {s : T2} {k : ByteArray} {p : Pt} (hp : p ∈ cutL ss s) : insB k p.2 = (decide (ownN ss k = p.1) && insB k s) := by
  obtain ⟨h1, h2⟩ := cut_mem hp
  rw [comm_some h2, ins_reach h k (by omega)]
theorem cut_cnt {ss : List ByteArray} (h : risB ss = true) (s : T2) (k : ByteArray) : ∀ n, n ≤ ss.length + 1 → cntP k (cutN ss s n) = if decide (ownN ss k < n) && insB k s then 1 else 0
  | 0, _ => by simp [cutN, cntP]
  | n + 1, hn => by
    have ih := cut_cnt h s k n (by omega)
    have hr := ins_reach h k (show n ≤ ss.length by omega)
    rw [cutN]
    cases hc : comm (reachN ss n) s with
    | none =>
      have := comm_none hc k
      rw [hr] at this
      rw [List.append_nil, ih]
      cases hs : insB k s with
      | false => simp
      | true =>
        rw [hs, Bool.and_true, decide_eq_false_iff_not] at this
        simp only [Bool.and_true, decide_eq_true_eq]
        by_cases hlt : ownN ss k < n
        · rw [if_pos hlt, if_pos (by omega)]
        · rw [if_neg hlt, if_neg (by omega)]
    | some t =>
      have := comm_some hc k
      rw [hr] at this
      rw [cntP_snoc, ih, this]
      cases hs : insB k s with
      | false => simp
      | true =>
        simp only [Bool.and_true, decide_eq_true_eq]
        by_cases hlt : ownN ss k < n
        · rw [if_pos hlt, if_neg (by omega), if_pos (by omega)]
        · by_cases he : ownN ss k = n
          · rw [if_neg hlt, if_pos he, if_pos (by omega)]
          · rw [if_neg hlt, if_neg he, if_neg (by omega)]
theorem cut_one {ss : List ByteArray} (h : risB ss = true) (s : T2) (k : ByteArray) : cntP k (cutL ss s) = if insB k s then 1 else 0 := by
  have hl := own_le ss k
  rw [cutL, cut_cnt h s k _ (Nat.le_refl _)]
  have : decide (ownN ss k < ss.length + 1) = true := by simp; omega
  rw [this, Bool.true_and]
theorem cut_all {ss : List ByteArray} (h : risB ss = true) : ∀ n, n ≤ ss.length + 1 → (cutN ss (mt, mt) n).length = n
  | 0, _ => rfl
  | n + 1, hn => by
    have e : join (reachN ss n) (mt, mt) = reachN ss n := by
      simp only [join, reachN, maxT, lesH, lt_nil, em_nil]
      cases he : emS (nthS ss n) with
      | true => simp [(em_iff _).1 he]
      | false => simp
    have hv : void (reachN ss n) = false := by
      simp only [void, reachN]
      by_cases hl : n = ss.length
      · subst hl; rw [reach_last, em_nil]; rfl
      · rw [ris_step h (by omega)]; simp
    have hc : comm (reachN ss n) (mt, mt) = some (reachN ss n) := by
      unfold comm; rw [e, hv]; rfl
    rw [cutN, hc]
    simp only [List.length_append, List.length_cons, List.length_nil]
    rw [cut_all h n (by omega)]

end Go.Proofs.YthenfioddnkjbaaGreatDoor.Rt
/- The program's small functions: is a configuration valid, whose is a key. -/
namespace Go.Proofs.YthenfioddnkjbaaGreatDoor.Rt
open Go.RowKit Go.Sort
set_option linter.unusedVariables false

/-- a row of texts -/
def RowS (w : World) (a : Option Addr) (ss : List ByteArray) : Prop := ∀ i, i < ss.length → ∃ b off, a = some ⟨b, off, none⟩ ∧ w.cell? ⟨b, off + i, none⟩ = some (.string (nthS ss i))
theorem RowS.later {w w' : World} {a : Option Addr} {ss : List ByteArray} (h : RowS w a ss) (hb : Below w.heap.size w w') : RowS w' a ss := fun i hi => by
  obtain ⟨b, off, e, h0⟩ := h i hi
  exact ⟨b, off, e, cell_later hb h0⟩
/-- a configuration, and where its split keys lie -/
structure Cf where
  sh : Int
  cl : Int
  a : Option Addr
  cp : Nat
  ss : List ByteArray
  ca : Int
  pk : Int
  wi : Int
abbrev Cf.val (c : Cf) : Value := .agg #[.int .i64 c.sh, .int .i64 c.cl, .slice c.a c.ss.length c.cp, .int .i64 c.ca, .int .i64 c.pk, .int .u64 c.wi]
def wiB (n l m : Int) : Bool := decide (l ≤ n) && decide (n ≤ m)
/-- is it valid? -/
def Cf.okB (c : Cf) : Bool := wiB c.sh 1 6 && wiB c.cl 1 6 && wiB c.ca 256 1048576 && wiB c.pk 0 16 && ((c.ss.length : Int) == c.sh - 1) && risB c.ss
/-- its numbers are numbers -/
structure Cf.Ok (c : Cf) (w : World) : Prop where
  row : RowS w c.a c.ss
  len : c.ss.length ≤ 9223372036854775807
  sh : -9223372036854775808 ≤ c.sh ∧ c.sh ≤ 9223372036854775807
theorem Cf.Ok.later {c : Cf} {w w' : World} (h : c.Ok w) (hb : Below w.heap.size w w') : c.Ok w' := ⟨h.row.later hb, h.len, h.sh⟩

theorem within_is {n l m : Int} {u : Bool} (hu : wiB n l m = u) (w : World) :
    Calls Tryz.prog 57 #[.int .i64 n, .int .i64 l, .int .i64 m] w fun e w' => e = .returned (.bool u) ∧ w' = w := by
  subst hu
  unfold wiB
  go_enter Tryz.func57, Tryz.ntmps57
  cases h1 : decide (l ≤ n)
  · go_wp2
    go_ret
    exact ⟨rfl, rfl⟩
  · go_wp2
    go_ret
    exact ⟨rfl, rfl⟩

set_option maxHeartbeats 4000000 in
theorem rising_is {a : Option Addr} {cp : Nat} {ss : List ByteArray} {w : World} (h : RowS w a ss) (hl : ss.length ≤ 9223372036854775807) {u : Bool} (hu : risB ss = u) :
    Calls Tryz.prog 58 #[.slice a ss.length cp] w fun e w' => e = .returned (.bool u) ∧ w' = w := by
  have H := hid h
  have HU := hid hu
  clear h hu
  go_enter Tryz.func58, Tryz.ntmps58
  go_wp2_with fail
  go_loopg [3, 8] ss.length (fun g s3 s8 wr => ∃ k : Nat, k ≤ ss.length ∧ g = ss.length - k ∧ s8 = .int .i64 k ∧ s3 = .string (prevS ss k) ∧ wr = w ∧ Hid (allB (fun i => keyOk (prevS ss i) (nthS ss i)) k = true))
  case atStart => exact ⟨0, by omega, by omega, rfl, rfl, rfl, hid rfl⟩
  case round =>
    obtain ⟨k, hk, rfl, rfl, rfl, rfl, HK⟩ := hrel
    by_cases hlt : k < ss.length
    · obtain ⟨b, off, rfl, c0⟩ := H.out k hlt
      obtain ⟨y, hy⟩ : ∃ y, y = nthS ss k := ⟨_, rfl⟩
      obtain ⟨p, hp⟩ : ∃ p, p = prevS ss k := ⟨_, rfl⟩
      rw [← hy] at c0
      rw [← hp]
      have HY : Hid (y = nthS ss k ∧ p = prevS ss k) := hid ⟨hy, hp⟩
      have hle : (Op.bytesLess y.toList p.toList || y.toList == p.toList) = !ltS p y := leq_less _ _
      clear hy hp
      cases h32 : decide (y.size ≤ 32)
      · have HF : Hid (risB ss = false) := hid (allB_no (k := k) (by rw [← HY.out.1, keyOk, h32, Bool.and_false]) _ hlt)
        have h32' : ¬ y.size ≤ 32 := by simpa using h32
        go_wp2_with fail
        go_ret
        exact ⟨ret_bool (by rw [← HU.out, HF.out]), rfl⟩
      · have h32' : y.size ≤ 32 := by simpa using h32
        cases hlp : ltS p y
        · have HF : Hid (risB ss = false) := hid (allB_no (k := k) (by rw [← HY.out.1, ← HY.out.2, keyOk, hlp, Bool.false_and]) _ hlt)
          rw [hlp, Bool.not_false] at hle
          go_wp2_with fail
          go_ret
          exact ⟨ret_bool (by rw [← HU.out, HF.out]), rfl⟩
        · rw [hlp, Bool.not_true] at hle
          go_wp2_with fail
          go_roundg (ss.length - (k + 1))
          case measure => omega
          case rel => exact ⟨k + 1, by omega, rfl, by go_num, by rw [HY.out.1]; simp [prevS], rfl, hid (allB_yes HK.out (by rw [← HY.out.1, ← HY.out.2, keyOk, hlp, h32]; rfl))⟩
    · obtain rfl : k = ss.length := by omega
      go_wp2_with fail
      go_ret
      exact ⟨ret_bool (by rw [← HU.out, risB, HK.out]), rfl⟩

set_option maxHeartbeats 4000000 in
theorem mayBe_is {c : Cf} {w : World} (h : c.Ok w) {u : Bool} (hu : c.okB = u) :
    Calls Tryz.prog 12 #[c.val] w fun e w' => e = .returned (.bool u) ∧ Below w.heap.size w w' := by
  have H := hid h
  have hs := h.sh
  have hl := h.len
  subst hu
  clear h
  obtain ⟨sh, cl, a, cp, ss, ca, pk, wi⟩ := c
  simp only at hs hl
  go_enter Tryz.func12, Tryz.ntmps12
  go_wp2_with fail
  refine (within_is rfl _).mono ?_
  rintro e w1 ⟨rfl, rfl⟩
  cases h1 : wiB sh 1 6
  · go_wp2_with fail
    go_ret
    exact ⟨ret_bool (by simp [Cf.okB, h1]), by (repeat (first | exact Below.refl _ _ | assumption | refine Below.drew ?_ | refine Below.al ?_ _ | refine Below.setCell ?_ (by first | exact Nat.le_refl _ | (simp; omega) | (simp; done)) _ | refine Below.on ?_ (by assumption)))⟩
  · go_wp2_with fail
    refine (within_is rfl _).mono ?_
    rintro e w2 ⟨rfl, rfl⟩
    cases h2 : wiB cl 1 6
    · go_wp2_with fail
      go_ret
      exact ⟨ret_bool (by simp [Cf.okB, h1, h2]), by (repeat (first | exact Below.refl _ _ | assumption | refine Below.drew ?_ | refine Below.al ?_ _ | refine Below.setCell ?_ (by first | exact Nat.le_refl _ | (simp; omega) | (simp; done)) _ | refine Below.on ?_ (by assumption)))⟩
    · go_wp2_with fail
      refine (within_is rfl _).mono ?_
      rintro e w3 ⟨rfl, rfl⟩
      cases h3 : wiB ca 256 1048576
      · go_wp2_with fail
        go_ret
        exact ⟨ret_bool (by simp [Cf.okB, h1, h2, h3]), by (repeat (first | exact Below.refl _ _ | assumption | refine Below.drew ?_ | refine Below.al ?_ _ | refine Below.setCell ?_ (by first | exact Nat.le_refl _ | (simp; omega) | (simp; done)) _ | refine Below.on ?_ (by assumption)))⟩
      · go_wp2_with fail
        refine (within_is rfl _).mono ?_
        rintro e w4 ⟨rfl, rfl⟩
        cases h4 : wiB pk 0 16
        · go_wp2_with fail
          go_ret
          exact ⟨ret_bool (by simp [Cf.okB, h1, h2, h3, h4]), by (repeat (first | exact Below.refl _ _ | assumption | refine Below.drew ?_ | refine Below.al ?_ _ | refine Below.setCell ?_ (by first | exact Nat.le_refl _ | (simp; omega) | (simp; done)) _ | refine Below.on ?_ (by assumption)))⟩
        · have hsh : 1 ≤ sh ∧ sh ≤ 6 := by simpa [wiB] using h1
          by_cases h5 : (ss.length : Int) = sh - 1
          · have h5' : ((ss.length : Int) == sh - 1) = true := by simpa using h5
            go_wp2_with fail
            refine (rising_is (H.out.row.later (by (repeat (first | exact Below.refl _ _ | assumption | refine Below.drew ?_ | refine Below.al ?_ _ | refine Below.setCell ?_ (by first | exact Nat.le_refl _ | (simp; omega) | (simp; done)) _ | refine Below.on ?_ (by assumption))))) hl rfl).mono ?_
            rintro e w5 ⟨rfl, rfl⟩
            go_wp2_with fail
            go_ret
            exact ⟨ret_bool (by simp [Cf.okB, h1, h2, h3, h4, h5']), by (repeat (first | exact Below.refl _ _ | assumption | refine Below.drew ?_ | refine Below.al ?_ _ | refine Below.setCell ?_ (by first | exact Nat.le_refl _ | (simp; omega) | (simp; done)) _ | refine Below.on ?_ (by assumption)))⟩
          · have h5' : ((ss.length : Int) == sh - 1) = false := by simpa using h5
            go_wp2_with fail
            go_ret
            exact ⟨ret_bool (by simp [Cf.okB, h1, h2, h3, h4, h5']), by (repeat (first | exact Below.refl _ _ | assumption | refine Below.drew ?_ | refine Below.al ?_ _ | refine Below.setCell ?_ (by first | exact Nat.le_refl _ | (simp; omega) | (simp; done)) _ | refine Below.on ?_ (by assumption)))⟩

theorem ok_len {c : Cf} (h : c.okB = true) : c.ss.length ≤ 5 ∧ c.sh = c.ss.length + 1 ∧ risB c.ss = true := by
  simp only [Cf.okB, wiB, Bool.and_eq_true, decide_eq_true_eq, beq_iff_eq] at h
  refine ⟨by omega, by omega, h.2⟩
/-- a configuration in a box -/
structure BoxC (w : World) (p : Nat) (c : Cf) : Prop where
  c0 : w.cell? ⟨p, 0, none⟩ = some (.int .i64 c.sh)
  c1 : w.cell? ⟨p, 1, none⟩ = some (.int .i64 c.cl)
  c2 : w.cell? ⟨p, 2, none⟩ = some (.slice c.a c.ss.length c.cp)
  c3 : w.cell? ⟨p, 3, none⟩ = some (.int .i64 c.ca)
  c4 : w.cell? ⟨p, 4, none⟩ = some (.int .i64 c.pk)
  c5 : w.cell? ⟨p, 5, none⟩ = some (.int .u64 c.wi)
theorem BoxC.later {w w' : World} {p : Nat} {c : Cf} (h : BoxC w p c) (hb : Below w.heap.size w w') : BoxC w' p c := ⟨cell_later hb h.c0, cell_later hb h.c1, cell_later hb h.c2, cell_later hb h.c3, cell_later hb h.c4, cell_later hb h.c5⟩
theorem BoxC.new (w : World) (c : Cf) (t : TypeId) : BoxC (w.alloc (.cells #[.int .i64 c.sh, .int .i64 c.cl, .slice c.a c.ss.length c.cp, .int .i64 c.ca, .int .i64 c.pk, .int .u64 c.wi] t)) w.heap.size c := by
  constructor <;> simp [go_sem]

end Go.Proofs.YthenfioddnkjbaaGreatDoor.Rt
