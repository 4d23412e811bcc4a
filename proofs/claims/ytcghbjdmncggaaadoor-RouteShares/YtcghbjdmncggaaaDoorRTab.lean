import Derived.Test.YtcghbjdmncggaaaDoorRHome
import Derived.Deep.AppendLies
/- A table of shares: every list in it a row of its own. -/
namespace Go.Proofs.YtcghbjdmncggaaaDoor.Rt
open Go.RowKit Go.Sort
set_option linter.unusedVariables false

/-- rows of different types lie apart -/
theorem rows_apart {w : World} {b1 b2 n1 n2 s1 s2 : Nat} {e1 e2 : TypeId} {v1 v2 : Value} {xs ys : List Value} (h1 : w.ownsRow b1 e1 s1 v1 n1 xs) (h2 : w.ownsRow b2 e2 s2 v2 n2 ys) (hne : e1 ≠ e2) : v1.ownBlock = none ∨ v1.ownBlock ≠ v2.ownBlock := by
  obtain ⟨_, ⟨rfl, _⟩ | ⟨g, cap, cur, rfl, _, hg, _⟩⟩ := h1
  · exact .inl rfl
  · right
    obtain ⟨_, ⟨rfl, _⟩ | ⟨g', cap', cur', rfl, _, hg', _⟩⟩ := h2
    · simp [Value.ownBlock]
    · simp only [Value.ownBlock]
      intro e
      injection e with e
      subst e
      rw [hg] at hg'
      injection hg' with hg'
      injection hg' with _ e _
      exact hne e
abbrev OwR (w : World) (G : Nat) (v : Value) (l : List T2) : Prop := w.ownsRow (G + 1) 37 2 v l.length (flat2 l)
abbrev OwW (w : World) (G : Nat) (v : Value) (l : List Wr) : Prop := w.ownsRow (G + 1) 51 3 v l.length (flatW l)
structure Tb (w : World) (G N : Nat) (vr vw : Nat → Value) (R : Nat → List T2) (V : Nat → List Wr) : Prop where
  cells : ∀ i, i < N → w.cell? ⟨G, i * 3, none⟩ = some (.int .u32 0) ∧ w.cell? ⟨G, i * 3 + 1, none⟩ = some (vr i) ∧ w.cell? ⟨G, i * 3 + 2, none⟩ = some (vw i)
  reads : ∀ i, i < N → OwR w G (vr i) (R i)
  writes : ∀ i, i < N → OwW w G (vw i) (V i)
  aR : ∀ i j, i < N → j < N → i ≠ j → (vr i).ownBlock = none ∨ (vr i).ownBlock ≠ (vr j).ownBlock
  aW : ∀ i j, i < N → j < N → i ≠ j → (vw i).ownBlock = none ∨ (vw i).ownBlock ≠ (vw j).ownBlock
  loose : LooseR w G
  lt : G < w.heap.size
theorem owns_on {w w' : World} {B size n : Nat} {e : TypeId} {v : Value} {xs : List Value} (h : w.ownsRow B e size v n xs) (hb : Below w.heap.size w w') : w'.ownsRow B e size v n xs := owns_keep h fun g hg => hb.block g (World.ownsRow.lt h g hg).2
theorem Tb.later {w w' : World} {G N : Nat} {vr vw : Nat → Value} {R : Nat → List T2} {V : Nat → List Wr} (h : Tb w G N vr vw R V) (hb : Below w.heap.size w w') : Tb w' G N vr vw R V :=
  ⟨fun i hi => ⟨cell_later hb (h.cells i hi).1, cell_later hb (h.cells i hi).2.1, cell_later hb (h.cells i hi).2.2⟩, fun i hi => owns_on (h.reads i hi) hb, fun i hi => owns_on (h.writes i hi) hb, h.aR, h.aW, h.loose.later hb h.lt, Nat.lt_of_lt_of_le h.lt hb.size⟩
theorem owns_put {w : World} {G size n : Nat} {e : TypeId} {v : Value} {xs : List Value} (h : w.ownsRow (G + 1) e size v n xs) (o : Nat) (u : Value) : (w.setCell ⟨G, o, none⟩ u).ownsRow (G + 1) e size v n xs := owns_keep h fun g hg => by
  have := (World.ownsRow.lt h g hg).1
  exact Below.heap_setCell _ _ _ _ (by simp; omega)
theorem Tb.putR {w w1 : World} {G N j g cap : Nat} {vr vw : Nat → Value} {R : Nat → List T2} {V : Nat → List Wr} {t : T2} (h : Tb w G N vr vw R V) (hj : j < N) (hg : w.grownBy w1 (vr j).ownBlock)
    (ho : w1.ownsRow (G + 1) 37 2 (.slice (some ⟨g, 0, none⟩) ((R j).length + 1) cap) ((R j).length + 1) (flat2 (R j) ++ [.string t.1, .string t.2])) (hat : (vr j).ownBlock = some g ∨ g = w.heap.size) :
    Tb (w1.setCell ⟨G, j * 3 + 1, none⟩ (.slice (some ⟨g, 0, none⟩) ((R j).length + 1) cap)) G N (putN vr j (.slice (some ⟨g, 0, none⟩) ((R j).length + 1) cap)) vw (putN R j (R j ++ [t])) V := by
  have hGo : (vr j).ownBlock ≠ some G := fun e => by have := (World.ownsRow.lt (h.reads j hj) G e).1; omega
  have hcell : ∀ o v, w.cell? ⟨G, o, none⟩ = some v → w1.cell? ⟨G, o, none⟩ = some v := fun o v hc => by
    have hb := hg.block G h.lt (fun e => hGo e.symm)
    simp only [World.cell?, hb] at hc ⊢
    exact hc
  refine ⟨fun i hi => ?_, fun i hi => ?_, fun i hi => ?_, fun i k hi hk hne => ?_, h.aW, ?_, ?_⟩
  · obtain ⟨c0, c1, c2⟩ := h.cells i hi
    refine ⟨cell_setc (by simp only [ne_eq, Addr.mk.injEq]; omega) (hcell _ _ c0), ?_, cell_setc (by simp only [ne_eq, Addr.mk.injEq]; omega) (hcell _ _ c2)⟩
    by_cases e : i = j
    · subst e; rw [putN_same]; exact World.cell?_setCell_same _ _ _ (hcell _ _ c1)
    · rw [putN_other _ _ e]; exact cell_setc (by simp only [ne_eq, Addr.mk.injEq]; omega) (hcell _ _ c1)
  · by_cases e : i = j
    · subst e
      rw [putN_same, putN_same]
      refine owns_put ?_ _ _
      have e1 : (R i ++ [t]).length = (R i).length + 1 := by simp
      have e2 : flat2 (R i ++ [t]) = flat2 (R i) ++ [.string t.1, .string t.2] := by simp [flat2]
      show w1.ownsRow _ _ _ _ (R i ++ [t]).length (flat2 (R i ++ [t]))
      rw [e1, e2]; exact ho
    · rw [putN_other _ _ e, putN_other _ _ e]
      exact owns_put ((h.reads i hi).kept hg (h.aR i j hi hj e)) _ _
  · exact owns_put ((h.writes i hi).kept hg (rows_apart (h.writes i hi) (h.reads j hj) (by decide))) _ _
  · by_cases e : i = j
    · subst e
      rw [putN_same, putN_other _ _ (Ne.symm hne)]
      right
      rcases hat with ha | ha
      · rcases h.aR i k hi hk hne with h1 | h1
        · rw [ha] at h1; cases h1
        · rw [ha] at h1; exact h1
      · intro e2
        have := (World.ownsRow.lt (h.reads k hk) g e2.symm).2
        omega
    · by_cases e2 : k = j
      · subst e2
        rw [putN_same, putN_other _ _ e]
        rcases hat with ha | ha
        · have := h.aR i k hi hk hne
          rw [ha] at this; exact this
        · cases hb : (vr i).ownBlock with
          | none => exact .inl rfl
          | some b =>
            right
            have := (World.ownsRow.lt (h.reads i hi) b hb).2
            simp only [Value.ownBlock, ne_eq, Option.some.injEq]
            omega
      · rw [putN_other _ _ e, putN_other _ _ e2]; exact h.aR i k hi hk hne
  · have hb := hg.block G h.lt (fun e => hGo e.symm)
    have hl : LooseR w1 G := fun o => by
      have := h.loose o
      simp only [World.frozen?, hb] at this ⊢
      exact this
    exact hl.setc _ _
  · simpa using Nat.lt_of_lt_of_le h.lt hg.size
theorem Tb.putW {w w1 : World} {G N j g cap : Nat} {vr vw : Nat → Value} {R : Nat → List T2} {V : Nat → List Wr} {t : Wr} (h : Tb w G N vr vw R V) (hj : j < N) (hg : w.grownBy w1 (vw j).ownBlock)
    (ho : w1.ownsRow (G + 1) 51 3 (.slice (some ⟨g, 0, none⟩) ((V j).length + 1) cap) ((V j).length + 1) (flatW (V j) ++ [.string t.key, .bool t.del, .string t.val])) (hat : (vw j).ownBlock = some g ∨ g = w.heap.size) :
    Tb (w1.setCell ⟨G, j * 3 + 2, none⟩ (.slice (some ⟨g, 0, none⟩) ((V j).length + 1) cap)) G N vr (putN vw j (.slice (some ⟨g, 0, none⟩) ((V j).length + 1) cap)) R (putN V j (V j ++ [t])) := by
  have hGo : (vw j).ownBlock ≠ some G := fun e => by have := (World.ownsRow.lt (h.writes j hj) G e).1; omega
  have hcell : ∀ o v, w.cell? ⟨G, o, none⟩ = some v → w1.cell? ⟨G, o, none⟩ = some v := fun o v hc => by
    have hb := hg.block G h.lt (fun e => hGo e.symm)
    simp only [World.cell?, hb] at hc ⊢
    exact hc
  refine ⟨fun i hi => ?_, fun i hi => ?_, fun i hi => ?_, h.aR, fun i k hi hk hne => ?_, ?_, ?_⟩
  · obtain ⟨c0, c1, c2⟩ := h.cells i hi
    refine ⟨cell_setc (by simp only [ne_eq, Addr.mk.injEq]; omega) (hcell _ _ c0), cell_setc (by simp only [ne_eq, Addr.mk.injEq]; omega) (hcell _ _ c1), ?_⟩
    by_cases e : i = j
    · subst e; rw [putN_same]; exact World.cell?_setCell_same _ _ _ (hcell _ _ c2)
    · rw [putN_other _ _ e]; exact cell_setc (by simp only [ne_eq, Addr.mk.injEq]; omega) (hcell _ _ c2)
  · exact owns_put ((h.reads i hi).kept hg (rows_apart (h.reads i hi) (h.writes j hj) (by decide))) _ _
  · by_cases e : i = j
    · subst e
      rw [putN_same, putN_same]
      refine owns_put ?_ _ _
      have e1 : (V i ++ [t]).length = (V i).length + 1 := by simp
      have e2 : flatW (V i ++ [t]) = flatW (V i) ++ [.string t.key, .bool t.del, .string t.val] := by simp [flatW]
      show w1.ownsRow _ _ _ _ (V i ++ [t]).length (flatW (V i ++ [t]))
      rw [e1, e2]; exact ho
    · rw [putN_other _ _ e, putN_other _ _ e]
      exact owns_put ((h.writes i hi).kept hg (h.aW i j hi hj e)) _ _
  · by_cases e : i = j
    · subst e
      rw [putN_same, putN_other _ _ (Ne.symm hne)]
      right
      rcases hat with ha | ha
      · rcases h.aW i k hi hk hne with h1 | h1
        · rw [ha] at h1; cases h1
        · rw [ha] at h1; exact h1
      · intro e2
        have := (World.ownsRow.lt (h.writes k hk) g e2.symm).2
        omega
    · by_cases e2 : k = j
      · subst e2
        rw [putN_same, putN_other _ _ e]
        rcases hat with ha | ha
        · have := h.aW i k hi hk hne
          rw [ha] at this; exact this
        · cases hb : (vw i).ownBlock with
          | none => exact .inl rfl
          | some b =>
            right
            have := (World.ownsRow.lt (h.writes i hi) b hb).2
            simp only [Value.ownBlock, ne_eq, Option.some.injEq]
            omega
      · rw [putN_other _ _ e, putN_other _ _ e2]; exact h.aW i k hi hk hne
  · have hb := hg.block G h.lt (fun e => hGo e.symm)
    have hl : LooseR w1 G := fun o => by
      have := h.loose o
      simp only [World.frozen?, hb] at this ⊢
      exact this
    exact hl.setc _ _
  · simpa using Nat.lt_of_lt_of_le h.lt hg.size

end Go.Proofs.YtcghbjdmncggaaaDoor.Rt
