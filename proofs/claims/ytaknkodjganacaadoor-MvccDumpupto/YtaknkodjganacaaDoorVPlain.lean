import Derived.Test.YtaknkodjganacaaDoorIPlain
/- Plain: an index of chains as a rising list. -/
namespace Go.Proofs.YtaknkodjganacaaDoor.Vs
set_option linter.unusedVariables false

/-- a stamp -/
structure Sp where
  a : Int
  b : Int
  c : Int
/-- a version of a key: its stamp, is it a tombstone, its value -/
structure Ver where
  s : Sp
  del : Bool
  val : ByteArray
/-- a chain: its block, how many versions, the room, the versions -/
structure Hd where
  g : Nat
  n : Nat
  cap : Nat
  vs : List Ver
abbrev En := ByteArray × Hd
variable {β : Type}
/-- a key and its value -/
def Rising (l : List (ByteArray × β)) : Prop := l.Pairwise fun x y => lt x.1 y.1 = true
/-- rising lists of the same entries are the same -/
theorem rising_ext : ∀ {l m : List (ByteArray × β)}, Rising l → Rising m → (∀ e, e ∈ l ↔ e ∈ m) → l = m
  | [], [], _, _, _ => rfl
  | [], y :: m, _, _, h => absurd ((h y).2 (List.mem_cons_self ..)) (by simp)
  | x :: l, [], _, _, h => absurd ((h x).1 (List.mem_cons_self ..)) (by simp)
  | x :: l, y :: m, hl, hm, h => by
    have hl' := List.pairwise_cons.1 hl
    have hm' := List.pairwise_cons.1 hm
    have hxy : x = y := by
      rcases List.mem_cons.1 ((h x).1 (List.mem_cons_self ..)) with e | e
      · exact e
      · rcases List.mem_cons.1 ((h y).2 (List.mem_cons_self ..)) with e' | e'
        · exact e'.symm
        · have h1 := hm'.1 x e
          have h2 := hl'.1 y e'
          exact absurd (lt_trans h1 h2) (by rw [lt_irrefl]; decide)
    subst hxy
    congr 1
    refine rising_ext hl'.2 hm'.2 fun e => ⟨fun he => ?_, fun he => ?_⟩
    · rcases List.mem_cons.1 ((h e).1 (List.mem_cons_of_mem _ he)) with e1 | e1
      · subst e1; exact absurd (hl'.1 _ he) (by rw [lt_irrefl]; decide)
      · exact e1
    · rcases List.mem_cons.1 ((h e).2 (List.mem_cons_of_mem _ he)) with e1 | e1
      · subst e1; exact absurd (hm'.1 _ he) (by rw [lt_irrefl]; decide)
      · exact e1
theorem rising_key {l : List (ByteArray × β)} (h : Rising l) {k : ByteArray} {v u : β} (h1 : (k, v) ∈ l) (h2 : (k, u) ∈ l) : v = u := by
  induction l with
  | nil => simp at h1
  | cons x l ih =>
    have h' := List.pairwise_cons.1 h
    rcases List.mem_cons.1 h1 with e1 | e1
    · rcases List.mem_cons.1 h2 with e2 | e2
      · rw [← e1] at e2; injection e2 with _ e; exact e.symm
      · have := h'.1 _ e2; rw [← e1] at this; exact absurd this (by rw [lt_irrefl]; decide)
    · rcases List.mem_cons.1 h2 with e2 | e2
      · have := h'.1 _ e1; rw [← e2] at this; exact absurd this (by rw [lt_irrefl]; decide)
      · exact ih h'.2 e1 e2
theorem rising_filter {l : List (ByteArray × β)} (h : Rising l) (p : (ByteArray × β) → Bool) : Rising (l.filter p) := List.Pairwise.filter p h

/-- what an index says -/
def getX (l : List (ByteArray × β)) (k : ByteArray) : Option β := (l.find? fun e => decide (e.1 = k)).map (·.2)
/-- one more, or another value -/
def setX : List (ByteArray × β) → ByteArray → β → List (ByteArray × β)
  | [], k, v => [(k, v)]
  | e :: l, k, v => if lt e.1 k then e :: setX l k v else if e.1 = k then (k, v) :: l else (k, v) :: e :: l
def delX (l : List (ByteArray × β)) (k : ByteArray) : List (ByteArray × β) := l.filter fun e => !decide (e.1 = k)
def rangeX (l : List (ByteArray × β)) (lo hi : ByteArray) : List (ByteArray × β) := l.filter fun e => inS lo hi e.1
def floorX (l : List (ByteArray × β)) (k : ByteArray) : Option (ByteArray × β) := (l.filter fun e => !lt k e.1).getLast?
def ceilX (l : List (ByteArray × β)) (k : ByteArray) : Option (ByteArray × β) := (l.filter fun e => !lt e.1 k).head?
theorem getX_some {l : List (ByteArray × β)} (h : Rising l) {k : ByteArray} {v : β} : getX l k = some v ↔ (k, v) ∈ l := by
  unfold getX
  constructor
  · intro hg
    obtain ⟨e, he, rfl⟩ := Option.map_eq_some_iff.1 hg
    have h1 := List.find?_some he
    have h2 := List.mem_of_find?_eq_some he
    simp only [decide_eq_true_eq] at h1
    rw [← h1]; exact h2
  · intro hm
    cases hf : l.find? fun e => decide (e.1 = k) with
    | none =>
      have := List.find?_eq_none.1 hf (k, v) hm
      simp at this
    | some e =>
      have h1 := List.find?_some hf
      have h2 := List.mem_of_find?_eq_some hf
      simp only [decide_eq_true_eq] at h1
      obtain ⟨ek, ev⟩ := e
      subst h1
      simp only [Option.map_some]
      rw [rising_key h h2 hm]
theorem getX_none {l : List (ByteArray × β)} {k : ByteArray} : getX l k = none ↔ ∀ v, (k, v) ∉ l := by
  unfold getX
  rw [Option.map_eq_none_iff, List.find?_eq_none]
  constructor
  · intro h v hm
    have := h (k, v) hm
    simp at this
  · intro h e he hk
    simp only [decide_eq_true_eq] at hk
    obtain ⟨ek, ev⟩ := e
    subst hk
    exact h ev he
theorem setX_mem {l : List (ByteArray × β)} (h : Rising l) (k : ByteArray) (v : β) (e : (ByteArray × β)) : e ∈ setX l k v ↔ e = (k, v) ∨ (e ∈ l ∧ e.1 ≠ k) := by
  induction l with
  | nil => simp [setX]
  | cons x l ih =>
    have h' := List.pairwise_cons.1 h
    unfold setX
    split
    · rename_i hlt
      rw [List.mem_cons, ih h'.2, List.mem_cons]
      constructor
      · rintro (rfl | rfl | ⟨h1, h2⟩)
        · exact .inr ⟨.inl rfl, lt_ne hlt⟩
        · exact .inl rfl
        · exact .inr ⟨.inr h1, h2⟩
      · rintro (rfl | ⟨rfl | h1, h2⟩)
        · exact .inr (.inl rfl)
        · exact .inl rfl
        · exact .inr (.inr ⟨h1, h2⟩)
    · split
      · rename_i hnl heq
        rw [List.mem_cons, List.mem_cons]
        constructor
        · rintro (rfl | h1)
          · exact .inl rfl
          · refine .inr ⟨.inr h1, fun e' => ?_⟩
            have := h'.1 e h1
            rw [heq, e'] at this
            rw [lt_irrefl] at this; cases this
        · rintro (rfl | ⟨rfl | h1, h2⟩)
          · exact .inl rfl
          · exact absurd heq h2
          · exact .inr h1
      · rename_i hnl hne
        rw [List.mem_cons]
        constructor
        · rintro (rfl | h1)
          · exact .inl rfl
          · refine .inr ⟨h1, fun e' => ?_⟩
            rcases List.mem_cons.1 h1 with rfl | h2
            · exact hne e'
            · have h3 := h'.1 e h2
              rcases lt_tri x.1 k with h4 | h4 | h4
              · exact hne h4
              · exact hnl h4
              · rw [e'] at h3; exact hnl h3
        · rintro (rfl | ⟨h1, h2⟩)
          · exact .inl rfl
          · exact .inr h1
theorem setX_rising {l : List (ByteArray × β)} (h : Rising l) (k : ByteArray) (v : β) : Rising (setX l k v) := by
  induction l with
  | nil => exact List.pairwise_singleton _ _
  | cons x l ih =>
    have h' := List.pairwise_cons.1 h
    unfold setX
    split
    · rename_i hlt
      refine List.pairwise_cons.2 ⟨fun e he => ?_, ih h'.2⟩
      rcases (setX_mem h'.2 k v e).1 he with rfl | ⟨h1, -⟩
      · exact hlt
      · exact h'.1 e h1
    · rename_i hnl
      split
      · rename_i heq
        refine List.pairwise_cons.2 ⟨fun e he => ?_, h'.2⟩
        have := h'.1 e he
        rw [heq] at this
        exact this
      · rename_i hne
        have hk : lt k x.1 = true := by
          rcases lt_tri x.1 k with h4 | h4 | h4
          · exact absurd h4 hne
          · exact absurd h4 hnl
          · exact h4
        refine List.pairwise_cons.2 ⟨fun e he => ?_, h⟩
        rcases List.mem_cons.1 he with rfl | h1
        · exact hk
        · exact lt_trans hk (h'.1 e h1)
theorem delX_mem (l : List (ByteArray × β)) (k : ByteArray) (e : (ByteArray × β)) : e ∈ delX l k ↔ e ∈ l ∧ e.1 ≠ k := by simp [delX, List.mem_filter]
theorem delX_rising {l : List (ByteArray × β)} (h : Rising l) (k : ByteArray) : Rising (delX l k) := rising_filter h _
theorem rangeX_rising {l : List (ByteArray × β)} (h : Rising l) (lo hi : ByteArray) : Rising (rangeX l lo hi) := rising_filter h _
theorem getX_set {l : List (ByteArray × β)} (h : Rising l) (k : ByteArray) (v : β) : getX (setX l k v) k = some v := (getX_some (setX_rising h k v)).2 ((setX_mem h k v _).2 (.inl rfl))

theorem rangeX_all (l : List (ByteArray × β)) : rangeX l ⟨#[]⟩ ⟨#[]⟩ = l := by
  unfold rangeX
  refine List.filter_eq_self.2 fun e _ => ?_
  have h1 : (ByteArray.mk #[]).toList = ([] : List UInt8) := by rw [ByteArray.toList_eq]
  have h2 : ∀ a : List UInt8, Op.bytesLess a [] = false := fun a => by cases a <;> rfl
  simp [inS, lt, h1, h2]

end Go.Proofs.YtaknkodjganacaaDoor.Vs
