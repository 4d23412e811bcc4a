import Derived.Test.YtmlacdfdpdkdaaaDoorDOnl
import Derived.Laws.Strings
import Derived.Handy
/- Plain: keys in their order; an index as a rising list; a log of changes and what it says. -/
namespace Go.Proofs.YtmlacdfdpdkdaaaDoor
set_option linter.unusedVariables false

theorem snoc_ind {α : Type} {P : List α → Prop} (nil : P []) (snoc : ∀ l a, P l → P (l ++ [a])) (l : List α) : P l := by
  have h : ∀ r : List α, P r.reverse := fun r => by
    induction r with
    | nil => exact nil
    | cons a r ih => rw [List.reverse_cons]; exact snoc _ _ ih
  have := h l.reverse
  rwa [List.reverse_reverse] at this
abbrev Key := List UInt8
theorem bless_irrefl : ∀ a : Key, Op.bytesLess a a = false
  | [] => rfl
  | a :: x => by
    have ih := bless_irrefl x
    have h : ¬ a < a := by show ¬ a.toNat < a.toNat; omega
    rw [Op.bytesLess, ih]; simp [h]
theorem bless_trans : ∀ a b c : Key, Op.bytesLess a b = true → Op.bytesLess b c = true → Op.bytesLess a c = true
  | _, _, [], _, h => by rw [Op.bytesLess] at h; cases h
  | [], _, _ :: _, _, _ => rfl
  | _ :: _, [], _ :: _, h, _ => by rw [Op.bytesLess] at h; cases h
  | a :: x, b :: y, c :: z, h1, h2 => by
    rw [Op.bytesLess] at h1 h2 ⊢
    simp only [Bool.or_eq_true, Bool.and_eq_true, decide_eq_true_eq, beq_iff_eq] at h1 h2 ⊢
    rcases h1 with h1 | ⟨rfl, h1⟩
    · rcases h2 with h2 | ⟨rfl, h2⟩
      · left
        have e1 : a.toNat < b.toNat := h1
        have e2 : b.toNat < c.toNat := h2
        show a.toNat < c.toNat
        omega
      · exact .inl h1
    · rcases h2 with h2 | ⟨rfl, h2⟩
      · exact .inl h2
      · exact .inr ⟨rfl, bless_trans x y z h1 h2⟩
theorem bless_tri : ∀ a b : Key, a = b ∨ Op.bytesLess a b = true ∨ Op.bytesLess b a = true
  | [], [] => .inl rfl
  | [], _ :: _ => .inr (.inl rfl)
  | _ :: _, [] => .inr (.inr rfl)
  | a :: x, b :: y => by
    rw [Op.bytesLess, Op.bytesLess]
    simp only [Bool.or_eq_true, Bool.and_eq_true, decide_eq_true_eq, beq_iff_eq]
    rcases Nat.lt_trichotomy a.toNat b.toNat with h | h | h
    · exact .inr (.inl (.inl h))
    · obtain rfl : a = b := UInt8.toNat.inj h
      rcases bless_tri x y with h | h | h
      · exact .inl (by rw [h])
      · exact .inr (.inl (.inr ⟨rfl, h⟩))
      · exact .inr (.inr (.inr ⟨rfl, h⟩))
    · exact .inr (.inr (.inl h))
/-- a below b -/
def lt (a b : ByteArray) : Bool := Op.bytesLess a.toList b.toList
theorem bytes_inj {a b : ByteArray} (h : a.toList = b.toList) : a = b := by
  rw [ByteArray.toList_eq, ByteArray.toList_eq] at h
  exact ByteArray.ext (Array.toList_inj.1 h)
theorem lt_irrefl (a : ByteArray) : lt a a = false := bless_irrefl _
theorem lt_trans {a b c : ByteArray} (h1 : lt a b = true) (h2 : lt b c = true) : lt a c = true := bless_trans _ _ _ h1 h2
theorem lt_tri (a b : ByteArray) : a = b ∨ lt a b = true ∨ lt b a = true := (bless_tri a.toList b.toList).imp bytes_inj id
theorem lt_ne {a b : ByteArray} (h : lt a b = true) : a ≠ b := fun e => by subst e; rw [lt_irrefl] at h; cases h
theorem lt_asymm {a b : ByteArray} (h : lt a b = true) : lt b a = false := by
  cases hb : lt b a with
  | false => rfl
  | true => exact absurd (lt_trans h hb) (by rw [lt_irrefl]; decide)

/-- a key and its value -/
abbrev En := ByteArray × Int
def Rising (l : List En) : Prop := l.Pairwise fun x y => lt x.1 y.1 = true
/-- rising lists of the same entries are the same -/
theorem rising_ext : ∀ {l m : List En}, Rising l → Rising m → (∀ e, e ∈ l ↔ e ∈ m) → l = m
  | [], [], _, _, _ => rfl
  | [], y :: m, _, _, h => absurd ((h y).2 (List.mem_cons_self ..)) (by simp)
  | x :: l, [], _, _, h => absurd ((h x).1 (List.mem_cons_self ..)) (by simp)
  | x :: l, y :: m, hl, hm, h => by
    have hl' := List.pairwise_cons.1 hl
    have hm' := List.pairwise_cons.1 hm
    have hxy : x = y := by
      rcases List.mem_cons.1 ((h x).1 (List.mem_cons_self ..)) with e | e
      · exact e
      · rcases List.mem_cons.1 ((h y).2 (List.mem_cons_self ..)) with e' | e'
        · exact e'.symm
        · have h1 := hm'.1 x e
          have h2 := hl'.1 y e'
          exact absurd (lt_trans h1 h2) (by rw [lt_irrefl]; decide)
    subst hxy
    congr 1
    refine rising_ext hl'.2 hm'.2 fun e => ⟨fun he => ?_, fun he => ?_⟩
    · rcases List.mem_cons.1 ((h e).1 (List.mem_cons_of_mem _ he)) with e1 | e1
      · subst e1; exact absurd (hl'.1 _ he) (by rw [lt_irrefl]; decide)
      · exact e1
    · rcases List.mem_cons.1 ((h e).2 (List.mem_cons_of_mem _ he)) with e1 | e1
      · subst e1; exact absurd (hm'.1 _ he) (by rw [lt_irrefl]; decide)
      · exact e1
theorem rising_key {l : List En} (h : Rising l) {k : ByteArray} {v u : Int} (h1 : (k, v) ∈ l) (h2 : (k, u) ∈ l) : v = u := by
  induction l with
  | nil => simp at h1
  | cons x l ih =>
    have h' := List.pairwise_cons.1 h
    rcases List.mem_cons.1 h1 with e1 | e1
    · rcases List.mem_cons.1 h2 with e2 | e2
      · rw [← e1] at e2; injection e2 with _ e; exact e.symm
      · have := h'.1 _ e2; rw [← e1] at this; exact absurd this (by rw [lt_irrefl]; decide)
    · rcases List.mem_cons.1 h2 with e2 | e2
      · have := h'.1 _ e1; rw [← e2] at this; exact absurd this (by rw [lt_irrefl]; decide)
      · exact ih h'.2 e1 e2
theorem rising_filter {l : List En} (h : Rising l) (p : En → Bool) : Rising (l.filter p) := List.Pairwise.filter p h

/-- what an index says -/
def getX (l : List En) (k : ByteArray) : Option Int := (l.find? fun e => decide (e.1 = k)).map (·.2)
/-- one more, or another value -/
def setX : List En → ByteArray → Int → List En
  | [], k, v => [(k, v)]
  | e :: l, k, v => if lt e.1 k then e :: setX l k v else if e.1 = k then (k, v) :: l else (k, v) :: e :: l
def delX (l : List En) (k : ByteArray) : List En := l.filter fun e => !decide (e.1 = k)
/-- is a key in a span? -/
def inS (lo hi k : ByteArray) : Bool := !lt k lo && (hi.toList.isEmpty || lt k hi)
def rangeX (l : List En) (lo hi : ByteArray) : List En := l.filter fun e => inS lo hi e.1
def floorX (l : List En) (k : ByteArray) : Option En := (l.filter fun e => !lt k e.1).getLast?
def ceilX (l : List En) (k : ByteArray) : Option En := (l.filter fun e => !lt e.1 k).head?
theorem getX_some {l : List En} (h : Rising l) {k : ByteArray} {v : Int} : getX l k = some v ↔ (k, v) ∈ l := by
  unfold getX
  constructor
  · intro hg
    obtain ⟨e, he, rfl⟩ := Option.map_eq_some_iff.1 hg
    have h1 := List.find?_some he
    have h2 := List.mem_of_find?_eq_some he
    simp only [decide_eq_true_eq] at h1
    rw [← h1]; exact h2
  · intro hm
    cases hf : l.find? fun e => decide (e.1 = k) with
    | none =>
      have := List.find?_eq_none.1 hf (k, v) hm
      simp at this
    | some e =>
      have h1 := List.find?_some hf
      have h2 := List.mem_of_find?_eq_some hf
      simp only [decide_eq_true_eq] at h1
      obtain ⟨ek, ev⟩ := e
      subst h1
      simp only [Option.map_some]
      rw [rising_key h h2 hm]
theorem getX_none {l : List En} {k : ByteArray} : getX l k = none ↔ ∀ v, (k, v) ∉ l := by
  unfold getX
  rw [Option.map_eq_none_iff, List.find?_eq_none]
  constructor
  · intro h v hm
    have := h (k, v) hm
    simp at this
  · intro h e he hk
    simp only [decide_eq_true_eq] at hk
    obtain ⟨ek, ev⟩ := e
    subst hk
    exact h ev he
theorem setX_mem {l : List En} (h : Rising l) (k : ByteArray) (v : Int) (e : En) : e ∈ setX l k v ↔ e = (k, v) ∨ (e ∈ l ∧ e.1 ≠ k) := by
  induction l with
  | nil => simp [setX]
  | cons x l ih =>
    have h' := List.pairwise_cons.1 h
    unfold setX
    split
    · rename_i hlt
      rw [List.mem_cons, ih h'.2, List.mem_cons]
      constructor
      · rintro (rfl | rfl | ⟨h1, h2⟩)
        · exact .inr ⟨.inl rfl, lt_ne hlt⟩
        · exact .inl rfl
        · exact .inr ⟨.inr h1, h2⟩
      · rintro (rfl | ⟨rfl | h1, h2⟩)
        · exact .inr (.inl rfl)
        · exact .inl rfl
        · exact .inr (.inr ⟨h1, h2⟩)
    · split
      · rename_i hnl heq
        rw [List.mem_cons, List.mem_cons]
        constructor
        · rintro (rfl | h1)
          · exact .inl rfl
          · refine .inr ⟨.inr h1, fun e' => ?_⟩
            have := h'.1 e h1
            rw [heq, e'] at this
            rw [lt_irrefl] at this; cases this
        · rintro (rfl | ⟨rfl | h1, h2⟩)
          · exact .inl rfl
          · exact absurd heq h2
          · exact .inr h1
      · rename_i hnl hne
        rw [List.mem_cons]
        constructor
        · rintro (rfl | h1)
          · exact .inl rfl
          · refine .inr ⟨h1, fun e' => ?_⟩
            rcases List.mem_cons.1 h1 with rfl | h2
            · exact hne e'
            · have h3 := h'.1 e h2
              rcases lt_tri x.1 k with h4 | h4 | h4
              · exact hne h4
              · exact hnl h4
              · rw [e'] at h3; exact hnl h3
        · rintro (rfl | ⟨h1, h2⟩)
          · exact .inl rfl
          · exact .inr h1
theorem setX_rising {l : List En} (h : Rising l) (k : ByteArray) (v : Int) : Rising (setX l k v) := by
  induction l with
  | nil => exact List.pairwise_singleton _ _
  | cons x l ih =>
    have h' := List.pairwise_cons.1 h
    unfold setX
    split
    · rename_i hlt
      refine List.pairwise_cons.2 ⟨fun e he => ?_, ih h'.2⟩
      rcases (setX_mem h'.2 k v e).1 he with rfl | ⟨h1, -⟩
      · exact hlt
      · exact h'.1 e h1
    · rename_i hnl
      split
      · rename_i heq
        refine List.pairwise_cons.2 ⟨fun e he => ?_, h'.2⟩
        have := h'.1 e he
        rw [heq] at this
        exact this
      · rename_i hne
        have hk : lt k x.1 = true := by
          rcases lt_tri x.1 k with h4 | h4 | h4
          · exact absurd h4 hne
          · exact absurd h4 hnl
          · exact h4
        refine List.pairwise_cons.2 ⟨fun e he => ?_, h⟩
        rcases List.mem_cons.1 he with rfl | h1
        · exact hk
        · exact lt_trans hk (h'.1 e h1)
theorem delX_mem (l : List En) (k : ByteArray) (e : En) : e ∈ delX l k ↔ e ∈ l ∧ e.1 ≠ k := by simp [delX, List.mem_filter]
theorem delX_rising {l : List En} (h : Rising l) (k : ByteArray) : Rising (delX l k) := rising_filter h _
theorem rangeX_rising {l : List En} (h : Rising l) (lo hi : ByteArray) : Rising (rangeX l lo hi) := rising_filter h _
theorem getX_set {l : List En} (h : Rising l) (k : ByteArray) (v : Int) : getX (setX l k v) k = some v := (getX_some (setX_rising h k v)).2 ((setX_mem h k v _).2 (.inl rfl))

/-- a change: a key set, or gone -/
structure Ch where
  key : ByteArray
  v : Int
  gone : Bool
/-- what the last word on a key is -/
def getL : List Ch → ByteArray → Option Int
  | log, k => log.foldl (fun a c => if c.key = k then (if c.gone then none else some c.v) else a) none
theorem getL_snoc (log : List Ch) (c : Ch) (k : ByteArray) : getL (log ++ [c]) k = if c.key = k then (if c.gone then none else some c.v) else getL log k := by
  simp [getL, List.foldl_append]
theorem getL_key {log : List Ch} {k : ByteArray} {v : Int} (h : getL log k = some v) : ∃ c ∈ log, c.key = k := by
  induction log using snoc_ind with
  | nil => simp [getL] at h
  | snoc log c ih =>
    rw [getL_snoc] at h
    by_cases e : c.key = k
    · exact ⟨c, by simp, e⟩
    · rw [if_neg e] at h
      obtain ⟨c', h1, h2⟩ := ih h
      exact ⟨c', by simp [h1], h2⟩
/-- the index that a log says -/
def ixL (log : List Ch) : List En := log.foldl (fun l c => if c.gone then delX l c.key else setX l c.key c.v) []
theorem ixL_snoc (log : List Ch) (c : Ch) : ixL (log ++ [c]) = if c.gone then delX (ixL log) c.key else setX (ixL log) c.key c.v := by
  simp [ixL, List.foldl_append]
theorem ixL_rising (log : List Ch) : Rising (ixL log) := by
  induction log using snoc_ind with
  | nil => exact List.Pairwise.nil
  | snoc log c ih =>
    rw [ixL_snoc]
    split
    · exact delX_rising ih _
    · exact setX_rising ih _ _
theorem ixL_mem (log : List Ch) (k : ByteArray) (v : Int) : (k, v) ∈ ixL log ↔ getL log k = some v := by
  induction log using snoc_ind generalizing k v with
  | nil => simp [ixL, getL]
  | snoc log c ih =>
    rw [ixL_snoc, getL_snoc]
    by_cases hg : c.gone = true
    · rw [if_pos hg, delX_mem, if_pos hg, ih]
      by_cases e : c.key = k
      · rw [if_pos e]; simp [e]
      · rw [if_neg e]; simp [Ne.symm e]
    · rw [if_neg hg, setX_mem (ixL_rising log), if_neg hg, ih]
      by_cases e : c.key = k
      · rw [if_pos e]
        subst e
        simp [eq_comm]
      · rw [if_neg e]
        constructor
        · rintro (h | ⟨h, -⟩)
          · injection h with h1 _; exact absurd h1.symm e
          · exact h
        · intro h; exact .inr ⟨h, Ne.symm e⟩
theorem ixL_get (log : List Ch) (k : ByteArray) : getX (ixL log) k = getL log k := by
  cases h : getL log k with
  | none => exact getX_none.2 fun v hv => by rw [ixL_mem, h] at hv; cases hv
  | some v => exact (getX_some (ixL_rising log)).2 ((ixL_mem log k v).2 h)

/-- the document's list, change by change -/
def laidL (l : List En) (e : En) : List En := setX l e.1 e.2
def entriesK (log : List Ch) (lo hi : ByteArray) : List Ch → List En
  | cs => cs.foldl (fun l c => match getL log c.key with
    | some v => if l.any (fun e => decide (e.1 = c.key)) then l else if inS lo hi c.key then setX l c.key v else l
    | none => l) []
theorem entriesK_snoc (log : List Ch) (lo hi : ByteArray) (cs : List Ch) (c : Ch) : entriesK log lo hi (cs ++ [c]) = match getL log c.key with
    | some v => if (entriesK log lo hi cs).any (fun e => decide (e.1 = c.key)) then entriesK log lo hi cs else if inS lo hi c.key then setX (entriesK log lo hi cs) c.key v else entriesK log lo hi cs
    | none => entriesK log lo hi cs := by
  unfold entriesK
  rw [List.foldl_append]
  rfl
theorem entriesK_is (log : List Ch) (lo hi : ByteArray) (cs : List Ch) : Rising (entriesK log lo hi cs) ∧ ∀ k v, (k, v) ∈ entriesK log lo hi cs ↔ getL log k = some v ∧ inS lo hi k = true ∧ ∃ c ∈ cs, c.key = k := by
  induction cs using snoc_ind with
  | nil => exact ⟨List.Pairwise.nil, fun k v => by simp [entriesK]⟩
  | snoc cs c ih =>
    obtain ⟨ih1, ih2⟩ := ih
    have hex : ∀ k, (∃ c' ∈ cs ++ [c], c'.key = k) ↔ (∃ c' ∈ cs, c'.key = k) ∨ c.key = k := fun k => by
      constructor
      · rintro ⟨c', h1, h2⟩
        rcases List.mem_append.1 h1 with h3 | h3
        · exact .inl ⟨c', h3, h2⟩
        · simp at h3; subst h3; exact .inr h2
      · rintro (⟨c', h1, h2⟩ | h)
        · exact ⟨c', by simp [h1], h2⟩
        · exact ⟨c, by simp, h⟩
    rw [entriesK_snoc]
    cases hg : getL log c.key with
    | none =>
      refine ⟨ih1, fun k v => ?_⟩
      simp only
      rw [ih2, hex]
      constructor
      · rintro ⟨h1, h2, h3⟩; exact ⟨h1, h2, .inl h3⟩
      · rintro ⟨h1, h2, h3 | h3⟩
        · exact ⟨h1, h2, h3⟩
        · rw [← h3, hg] at h1; cases h1
    | some u =>
      simp only
      by_cases ha : (entriesK log lo hi cs).any (fun e => decide (e.1 = c.key)) = true
      · rw [if_pos ha]
        refine ⟨ih1, fun k v => ?_⟩
        rw [ih2, hex]
        constructor
        · rintro ⟨h1, h2, h3⟩; exact ⟨h1, h2, .inl h3⟩
        · rintro ⟨h1, h2, h3 | h3⟩
          · exact ⟨h1, h2, h3⟩
          · obtain ⟨e, he, hk⟩ := List.any_eq_true.1 ha
            simp only [decide_eq_true_eq] at hk
            obtain ⟨ek, ev⟩ := e
            have := (ih2 ek ev).1 he
            refine ⟨h1, h2, ?_⟩
            rw [← h3, ← hk]
            exact this.2.2
      · rw [if_neg ha]
        by_cases hi' : inS lo hi c.key = true
        · rw [if_pos hi']
          refine ⟨setX_rising ih1 _ _, fun k v => ?_⟩
          rw [setX_mem ih1, ih2, hex]
          constructor
          · rintro (h | ⟨⟨h1, h2, h3⟩, -⟩)
            · injection h with e1 e2; subst e1 e2; exact ⟨hg, hi', .inr rfl⟩
            · exact ⟨h1, h2, .inl h3⟩
          · rintro ⟨h1, h2, h3⟩
            by_cases e : k = c.key
            · subst e
              rw [hg] at h1
              injection h1 with h1
              exact .inl (by rw [h1])
            · rcases h3 with h3 | h3
              · exact .inr ⟨⟨h1, h2, h3⟩, e⟩
              · exact absurd h3.symm e
        · rw [if_neg hi']
          refine ⟨ih1, fun k v => ?_⟩
          rw [ih2, hex]
          constructor
          · rintro ⟨h1, h2, h3⟩; exact ⟨h1, h2, .inl h3⟩
          · rintro ⟨h1, h2, h3 | h3⟩
            · exact ⟨h1, h2, h3⟩
            · rw [← h3] at h2; exact absurd h2 hi'
/-- the document's entries are the index's in the span -/
theorem entries_is (log : List Ch) (lo hi : ByteArray) : entriesK log lo hi log = rangeX (ixL log) lo hi := by
  obtain ⟨h1, h2⟩ := entriesK_is log lo hi log
  refine rising_ext h1 (rangeX_rising (ixL_rising log) _ _) fun e => ?_
  obtain ⟨k, v⟩ := e
  rw [h2, rangeX, List.mem_filter, ixL_mem]
  constructor
  · rintro ⟨a, b, -⟩; exact ⟨a, b⟩
  · rintro ⟨a, b⟩; exact ⟨a, b, getL_key a⟩
theorem rangeX_all (l : List En) : rangeX l ⟨#[]⟩ ⟨#[]⟩ = l := by
  unfold rangeX
  refine List.filter_eq_self.2 fun e _ => ?_
  have h1 : (ByteArray.mk #[]).toList = ([] : List UInt8) := by rw [ByteArray.toList_eq]
  have h2 : ∀ a : List UInt8, Op.bytesLess a [] = false := fun a => by cases a <;> rfl
  simp [inS, lt, h1, h2]

end Go.Proofs.YtmlacdfdpdkdaaaDoor
