import Derived.Test.YtmbmagfdeadibaaDAlike
/- Six disks apart from each other: three of the program's, three of the document's, and the two arrays that hold them. -/
namespace Go.Proofs.Ytmbmagfdeadibaa
open Go.RowKit Go.Sort
set_option linter.unusedVariables false
variable {R : World → (Nat → Prop) → Nat → Dk → Prop}

def Side (R : World → (Nat → Prop) → Nat → Dk → Prop) (b : Bool) : World → (Nat → Prop) → Nat → Dk → Prop := match b with
  | true => R
  | false => RD
theorem Side.lt (I : Face R) {b : Bool} {w : World} {F : Nat → Prop} {p : Nat} {d : Dk} (h : Side R b w F p d) : ∀ k, F k → k < w.heap.size := by
  cases b
  · exact RD.lt h
  · exact I.lt h
theorem Side.keep (I : Face R) {b : Bool} {w w' : World} {F G : Nat → Prop} {p : Nat} {d : Dk} (h : Side R b w F p d) (ho : Onl G w w') (hF : ∀ k, F k → ¬ G k) : Side R b w' F p d := by
  cases b
  · exact RD.keep h ho hF
  · exact I.keep h ho hF
def up2 {α : Type} (f : Bool → Nat → α) (b : Bool) (i : Nat) (a : α) : Bool → Nat → α := fun b' i' => if b' = b ∧ i' = i then a else f b' i'
theorem up2_same {α : Type} (f : Bool → Nat → α) (b : Bool) (i : Nat) (a : α) : up2 f b i a b i = a := by simp [up2]
theorem up2_other {α : Type} (f : Bool → Nat → α) {b b' : Bool} {i i' : Nat} (a : α) (h : b' ≠ b ∨ i' ≠ i) : up2 f b i a b' i' = f b' i' := by
  unfold up2
  rw [if_neg]
  rintro ⟨h1, h2⟩
  rcases h with h | h
  · exact h h1
  · exact h h2
theorem either (b b' : Bool) (i i' : Nat) : (b' = b ∧ i' = i) ∨ (b' ≠ b ∨ i' ≠ i) := by
  by_cases h1 : b' = b
  · by_cases h2 : i' = i
    · exact .inl ⟨h1, h2⟩
    · exact .inr (.inr h2)
  · exact .inr (.inl h1)

structure St (R : World → (Nat → Prop) → Nat → Dk → Prop) (n : Bool → Nat) (wb wr : World) (A : Bool → Nat) (F : Bool → Nat → Nat → Prop) (p : Bool → Nat → Nat) (d : Bool → Nat → Dk) : Prop where
  at' : ∀ b i, i < n b → Side R b wr (F b i) (p b i) (d b i)
  ap : ∀ b i b' i', i < n b → i' < n b' → (b' ≠ b ∨ i' ≠ i) → ∀ k, F b i k → ¬ F b' i' k
  low : ∀ b i, i < n b → ∀ k, F b i k → wb.heap.size ≤ k
  na : ∀ b i, i < n b → ∀ b', ¬ F b i (A b')
  la : ∀ b, wb.heap.size ≤ A b
  aa : ∀ b b', b' ≠ b → A b' ≠ A b
  any : ∀ b i, i < 3 → ∃ q, wr.cell? ⟨A b, i, none⟩ = some (.pointer q)
  cell : ∀ b i, i < n b → wr.cell? ⟨A b, i, none⟩ = some (ptr (p b i))
  loose : ∀ b, Loose wr (A b)
  bl : Below wb.heap.size wb wr
variable {n : Bool → Nat} {wb wr : World} {A : Bool → Nat} {F : Bool → Nat → Nat → Prop} {p : Bool → Nat → Nat} {d : Bool → Nat → Dk}
theorem St.lta (h : St R n wb wr A F p d) (b : Bool) : A b < wr.heap.size := by
  obtain ⟨q, hq⟩ := h.any b 0 (by omega)
  exact World.block_lt_of_cell? _ _ hq
theorem St.later (I : Face R) {w' : World} (h : St R n wb wr A F p d) (hb : Below wr.heap.size wr w') : St R n wb w' A F p d :=
  ⟨fun b i hi => (h.at' b i hi).keep I (G := fun _ => False) (Onl.of_below hb) (fun _ _ => id), h.ap, h.low, h.na, h.la, h.aa, fun b i hi => (h.any b i hi).imp fun q hq => cell_later hb hq, fun b i hi => cell_later hb (h.cell b i hi), fun b => (h.loose b).later hb (h.lta b), Below.on h.bl hb⟩
/-- one of them is moved -/
theorem St.move (I : Face R) {w' : World} {b : Bool} {i : Nat} {d' : Dk} (h : St R n wb wr A F p d) (hi : i < n b) (m : Moved (Side R b) wr w' (F b i) (p b i) d') :
    ∃ F', St R n wb w' A (up2 F b i F') p (up2 d b i d') := by
  obtain ⟨F', h1, h2, h3, h4, h5⟩ := Moved.new m h.bl (h.low b i hi)
  refine ⟨F', ?_, ?_, ?_, ?_, h.la, h.aa, ?_, ?_, fun b' => h4.loose (h.na b i hi b') (h.lta b') (h.loose b'), h3⟩
  · intro b' i' hi'
    rcases either b b' i i' with ⟨rfl, rfl⟩ | he
    · rw [up2_same, up2_same]; exact h1
    · rw [up2_other _ _ he, up2_other _ _ he]
      exact (h.at' b' i' hi').keep I h4 (fun k hk => fun hf => h.ap b i b' i' hi hi' he k hf hk)
  · intro b1 i1 b2 i2 hi1 hi2 hne k hk
    rcases either b b1 i i1 with ⟨rfl, rfl⟩ | he1
    · rw [up2_same] at hk
      rw [up2_other _ _ hne]
      rcases h5 k hk with h6 | h6
      · exact h.ap b1 i1 b2 i2 hi1 hi2 hne k h6
      · intro hk2
        have := (h.at' b2 i2 hi2).lt I k hk2
        omega
    · rw [up2_other _ _ he1] at hk
      rcases either b b2 i i2 with ⟨rfl, rfl⟩ | he2
      · rw [up2_same]
        intro hk2
        rcases h5 k hk2 with h6 | h6
        · exact h.ap b1 i1 b2 i2 hi1 hi2 hne k hk h6
        · have := (h.at' b1 i1 hi1).lt I k hk
          omega
      · rw [up2_other _ _ he2]
        exact h.ap b1 i1 b2 i2 hi1 hi2 hne k hk
  · intro b' i' hi'
    rcases either b b' i i' with ⟨rfl, rfl⟩ | he
    · rw [up2_same]; exact h2
    · rw [up2_other _ _ he]; exact h.low b' i' hi'
  · intro b' i' hi' b2 hk
    rcases either b b' i i' with ⟨rfl, rfl⟩ | he
    · rw [up2_same] at hk
      rcases h5 _ hk with h6 | h6
      · exact h.na b' i' hi' b2 h6
      · have := h.lta b2; omega
    · rw [up2_other _ _ he] at hk; exact h.na b' i' hi' b2 hk
  · exact fun b' i' hi' => (h.any b' i' hi').imp fun q hq => h4.cell (h.na b i hi b') hq
  · exact fun b' i' hi' => h4.cell (h.na b i hi b') (h.cell b' i' hi')
/-- one of them is another one now -/
theorem St.put (I : Face R) {n' : Bool → Nat} {w' : World} {b : Bool} {i p' : Nat} {F' : Nat → Prop} {d' : Dk} (h : St R n wb wr A F p d) (hi : i < 3) (hn : ∀ b' j, j < n' b' → (b' = b ∧ j = i) ∨ (j < n b' ∧ (b' ≠ b ∨ j ≠ i)))
    (hb : Below wr.heap.size wr w') (hp : Side R b w' F' p' d') (hF : ∀ k, F' k → wr.heap.size ≤ k) :
    St R n' wb (w'.setCell ⟨A b, i, none⟩ (ptr p')) A (up2 F b i F') (up2 p b i p') (up2 d b i d') := by
  have hl := h.later I hb
  have hsz := h.bl.size
  have ho : Onl (fun k => k = A b) w' (w'.setCell ⟨A b, i, none⟩ (ptr p')) := (Onl.refl (fun k => k = A b) w').set (p := A b) rfl _ _
  have hlt := h.lta b
  refine ⟨?_, ?_, ?_, ?_, h.la, h.aa, ?_, ?_, fun b' => (hl.loose b').setc _ _, hl.bl.trans (ho.below (fun k e => e ▸ h.la b) hl.bl.size)⟩
  · intro b' i' hi'
    rcases hn b' i' hi' with ⟨rfl, rfl⟩ | ⟨hi2, he⟩
    · rw [up2_same, up2_same, up2_same]
      exact hp.keep I ho (fun k hk e => by have := hF k hk; omega)
    · rw [up2_other _ _ he, up2_other _ _ he, up2_other _ _ he]
      exact (hl.at' b' i' hi2).keep I ho (fun k hk e => h.na b' i' hi2 b (e ▸ hk))
  · intro b1 i1 b2 i2 hi1 hi2 hne k hk
    rcases hn b1 i1 hi1 with ⟨rfl, rfl⟩ | ⟨hj1, he1⟩
    · rw [up2_same] at hk
      rcases hn b2 i2 hi2 with ⟨rfl, rfl⟩ | ⟨hj2, he2⟩
      · rcases hne with h1 | h1 <;> exact absurd rfl h1
      · rw [up2_other _ _ he2]
        intro hk2
        have h1 := (h.at' b2 i2 hj2).lt I k hk2
        have h2 := hF k hk
        omega
    · rw [up2_other _ _ he1] at hk
      rcases hn b2 i2 hi2 with ⟨rfl, rfl⟩ | ⟨hj2, he2⟩
      · rw [up2_same]
        intro hk2
        have h1 := (h.at' b1 i1 hj1).lt I k hk
        have h2 := hF k hk2
        omega
      · rw [up2_other _ _ he2]
        exact h.ap b1 i1 b2 i2 hj1 hj2 hne k hk
  · intro b' i' hi' k hk
    rcases hn b' i' hi' with ⟨rfl, rfl⟩ | ⟨hj, he⟩
    · rw [up2_same] at hk; exact Nat.le_trans hsz (hF k hk)
    · rw [up2_other _ _ he] at hk; exact h.low b' i' hj k hk
  · intro b' i' hi' b2 hk
    rcases hn b' i' hi' with ⟨rfl, rfl⟩ | ⟨hj, he⟩
    · rw [up2_same] at hk
      have h1 := hF _ hk
      have h2 := h.lta b2
      omega
    · rw [up2_other _ _ he] at hk; exact h.na b' i' hj b2 hk
  · intro b' i' hi'
    rcases either b b' i i' with ⟨rfl, rfl⟩ | he
    · obtain ⟨q, hq⟩ := hl.any b' i' hi'
      exact ⟨_, World.cell?_setCell_same _ _ _ hq⟩
    · obtain ⟨q, hq⟩ := hl.any b' i' hi'
      refine ⟨q, cell_setc (fun e => ?_) hq⟩
      injection e with e1 e2
      rcases he with h1 | h1
      · exact h.aa b b' h1 e1
      · exact h1 e2
  · intro b' i' hi'
    rcases hn b' i' hi' with ⟨rfl, rfl⟩ | ⟨hj, he⟩
    · rw [up2_same]
      obtain ⟨q, hq⟩ := hl.any b' i' hi
      exact World.cell?_setCell_same _ _ _ hq
    · rw [up2_other _ _ he]
      refine cell_setc (fun e => ?_) (hl.cell b' i' hj)
      injection e with e1 e2
      rcases he with h1 | h1
      · exact h.aa b b' h1 e1
      · exact h1 e2
def n3 : Bool → Nat := fun _ => 3
theorem n3_put (b : Bool) (i : Nat) : ∀ b' j, j < n3 b' → (b' = b ∧ j = i) ∨ (j < n3 b' ∧ (b' ≠ b ∨ j ≠ i)) := fun b' j hj => (either b b' i j).imp id (fun h => ⟨hj, h⟩)

end Go.Proofs.Ytmbmagfdeadibaa
