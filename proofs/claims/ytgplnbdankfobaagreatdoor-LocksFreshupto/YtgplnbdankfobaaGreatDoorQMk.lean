import Derived.Test.YtgplnbdankfobaaGreatDoorQFlat
import Derived.Test.YtgplnbdankfobaaGreatDoorQFamC
import Derived.Laws.OwnMore
/- Spans and writes laid into rows. -/
namespace Go.Proofs.YtgplnbdankfobaaGreatDoor.Lk
open Go.RowKit Go.Sort
set_option linter.unusedVariables false

theorem flat2_append (X Y : List T2) : flat2 (X ++ Y) = flat2 X ++ flat2 Y := by simp [flat2]
theorem flatW_append (X Y : List Wr) : flatW (X ++ Y) = flatW X ++ flatW Y := by simp [flatW]
theorem split_at {α : Type} {X : List α} {j : Nat} (h : j < X.length) : ∃ A x C, X = A ++ x :: C ∧ A.length = j := by
  refine ⟨X.take j, X[j], X.drop (j + 1), ?_, by rw [List.length_take]; omega⟩
  rw [← List.drop_eq_getElem_cons h, List.take_append_drop]
theorem flat2_set {X : List T2} {j : Nat} (h : j < X.length) (x : T2) : ((flat2 X).set (j * 2) (.string x.1)).set (j * 2 + 1) (.string x.2) = flat2 (X.set j x) := by
  obtain ⟨A, y, C, rfl, rfl⟩ := split_at h
  have hr : (A ++ y :: C).set A.length x = A ++ x :: C := by rw [List.set_append_right _ _ (Nat.le_refl _)]; simp
  have hs0 : ∀ (P Q : List Value) (v : Value), (P ++ Q).set P.length v = P ++ Q.set 0 v := fun P Q v => by
    rw [List.set_append_right _ _ (Nat.le_refl _)]; simp
  have hs : ∀ (P Q : List Value) (j : Nat) (v : Value), (P ++ Q).set (P.length + j) v = P ++ Q.set j v := fun P Q j v => by
    rw [List.set_append_right _ _ (by omega)]; simp
  rw [hr, flat2_append, flat2_append, ← flat2_len A, hs0, hs]
  rfl
theorem flatW_set {X : List Wr} {j : Nat} (h : j < X.length) (x : Wr) : (((flatW X).set (j * 3) (.string x.key)).set (j * 3 + 1) (.bool x.del)).set (j * 3 + 2) (.string x.val) = flatW (X.set j x) := by
  obtain ⟨A, y, C, rfl, rfl⟩ := split_at h
  have hr : (A ++ y :: C).set A.length x = A ++ x :: C := by rw [List.set_append_right _ _ (Nat.le_refl _)]; simp
  have hs0 : ∀ (P Q : List Value) (v : Value), (P ++ Q).set P.length v = P ++ Q.set 0 v := fun P Q v => by
    rw [List.set_append_right _ _ (Nat.le_refl _)]; simp
  have hs : ∀ (P Q : List Value) (j : Nat) (v : Value), (P ++ Q).set (P.length + j) v = P ++ Q.set j v := fun P Q j v => by
    rw [List.set_append_right _ _ (by omega)]; simp
  rw [hr, flatW_append, flatW_append, ← flatW_len A, hs0, hs, hs]
  rfl
abbrev putS (w : World) (g o : Nat) (x : T2) : World := (w.setCell ⟨g, o, none⟩ (.string x.1)).setCell ⟨g, o + 1, none⟩ (.string x.2)
abbrev putW (w : World) (g o : Nat) (x : Wr) : World := ((w.setCell ⟨g, o, none⟩ (.string x.key)).setCell ⟨g, o + 1, none⟩ (.bool x.del)).setCell ⟨g, o + 2, none⟩ (.string x.val)
theorem own_putS {w : World} {B g n c : Nat} {X : List T2} (h : w.ownsRow B 34 2 (.slice (some ⟨g, 0, none⟩) n c) n (flat2 X)) (hn : X.length = n) {j : Nat} (hj : j < n) (x : T2) :
    (putS w g (j * 2) x).ownsRow B 34 2 (.slice (some ⟨g, 0, none⟩) n c) n (flat2 (X.set j x)) ∧ w.grownBy (putS w g (j * 2) x) (some g) := by
  have h0 := World.ownsRow.stored h (j * 2) (.string x.1)
  have h1 := World.ownsRow.stored h0.1 (j * 2 + 1) (.string x.2)
  rw [flat2_set (by omega)] at h1
  exact ⟨h1.1, Fam.grow_trans h0.2 h1.2 (.inl rfl)⟩
theorem own_putW {w : World} {B g n c : Nat} {X : List Wr} (h : w.ownsRow B 64 3 (.slice (some ⟨g, 0, none⟩) n c) n (flatW X)) (hn : X.length = n) {j : Nat} (hj : j < n) (x : Wr) :
    (putW w g (j * 3) x).ownsRow B 64 3 (.slice (some ⟨g, 0, none⟩) n c) n (flatW (X.set j x)) ∧ w.grownBy (putW w g (j * 3) x) (some g) := by
  have h0 := World.ownsRow.stored h (j * 3) (.string x.key)
  have h1 := World.ownsRow.stored h0.1 (j * 3 + 1) (.bool x.del)
  have h2 := World.ownsRow.stored h1.1 (j * 3 + 2) (.string x.val)
  rw [flatW_set (by omega)] at h2
  exact ⟨h2.1, Fam.grow_trans h0.2 (Fam.grow_trans h1.2 h2.2 (.inl rfl)) (.inl rfl)⟩
theorem cells_S {w : World} {B g n c : Nat} {X : List T2} (h : w.ownsRow B 34 2 (.slice (some ⟨g, 0, none⟩) n c) n (flat2 X)) (hn : X.length = n) {j : Nat} (hj : j < n) :
    w.cell? ⟨g, j * 2, none⟩ = some (.string (nth2 X j).1) ∧ w.cell? ⟨g, j * 2 + 1, none⟩ = some (.string (nth2 X j).2) := by
  obtain ⟨g', e, _, hc⟩ := own_cells h (by omega)
  injection e with e
  injection e with e _ _
  subst e
  have h0 := flat2_get X j 0 (by omega) (by omega)
  have h1 := flat2_get X j 1 (by omega) (by omega)
  exact ⟨hc _ _ h0, hc _ _ h1⟩
theorem cells_W {w : World} {B g n c : Nat} {X : List Wr} (h : w.ownsRow B 64 3 (.slice (some ⟨g, 0, none⟩) n c) n (flatW X)) (hn : X.length = n) {j : Nat} (hj : j < n) :
    w.cell? ⟨g, j * 3, none⟩ = some (.string (nthW X j).key) ∧ w.cell? ⟨g, j * 3 + 1, none⟩ = some (.bool (nthW X j).del) ∧ w.cell? ⟨g, j * 3 + 2, none⟩ = some (.string (nthW X j).val) := by
  obtain ⟨g', e, _, hc⟩ := own_cells h (by omega)
  injection e with e
  injection e with e _ _
  subst e
  have h0 := flatW_get X j 0 (by omega) (by omega)
  have h1 := flatW_get X j 1 (by omega) (by omega)
  have h2 := flatW_get X j 2 (by omega) (by omega)
  exact ⟨hc _ _ h0, hc _ _ h1, hc _ _ h2⟩
/-- the lists of n rows, each in a block of its own -/
structure Mk (B : Nat) (w : World) (n : Nat) (rv wv : Nat → Value) (R : Nat → List T2) (S : Nat → List Wr) : Prop where
  r : Fam.Fm 34 2 B w n rv (fun i => (R i).length) (fun i => flat2 (R i))
  s : Fam.Fm 64 3 B w n wv (fun i => (S i).length) (fun i => flatW (S i))
section
variable {B : Nat} {w w' : World} {n : Nat} {rv wv : Nat → Value} {R : Nat → List T2} {S : Nat → List Wr}
theorem Mk.later (h : Mk B w n rv wv R S) (hb : Below w.heap.size w w') : Mk B w' n rv wv R S := ⟨h.r.later hb, h.s.later hb⟩
/-- a row of another type grows -/
theorem Mk.other (h : Mk B w n rv wv R S) {B' size k : Nat} {e : TypeId} {v : Value} {zs : List Value} (hv : w.ownsRow B' e size v k zs) (h1 : 34 ≠ e) (h2 : 64 ≠ e) (hg : w.grownBy w' v.ownBlock) : Mk B w' n rv wv R S :=
  ⟨h.r.other hv h1 hg, h.s.other hv h2 hg⟩
theorem Mk.putR (h : Mk B w n rv wv R S) {i : Nat} (hi : i < n) {j : Nat} (hj : j < (R i).length) (x : T2) :
    ∃ g c, rv i = .slice (some ⟨g, 0, none⟩) (R i).length c ∧ w.cell? ⟨g, j * 2, none⟩ = some (.string (nth2 (R i) j).1) ∧ w.cell? ⟨g, j * 2 + 1, none⟩ = some (.string (nth2 (R i) j).2) ∧ (∀ o, w.frozen? ⟨g, o, none⟩ = false) ∧
      Mk B (putS w g (j * 2) x) n rv wv (Fam.up R i ((R i).set j x)) S ∧ w.grownBy (putS w g (j * 2) x) (rv i).ownBlock := by
  have ho := h.r.own i hi
  obtain ⟨g, c, e, _⟩ := Fam.row_block ho (by omega)
  have ho2 := ho
  rw [e] at ho2
  obtain ⟨p1, p2⟩ := own_putS ho2 rfl hj x
  obtain ⟨c0, c1⟩ := cells_S ho2 rfl hj
  have hb : (rv i).ownBlock = some g := by rw [e]; rfl
  rw [← e] at p1
  rw [← hb] at p2
  refine ⟨g, c, e, c0, c1, fun o => World.ownsRow.frozenAt ho2 o, ⟨?_, h.s.other ho (by decide) p2⟩, p2⟩
  have := h.r.one hi p2 p1
  refine ⟨fun k hk => ?_, this.ap⟩
  have h3 := this.own k hk
  by_cases e2 : k = i
  · subst e2
    rw [Fam.up_same] at h3 ⊢
    rw [List.length_set]; exact h3
  · rw [Fam.up_other _ _ e2] at h3 ⊢
    exact h3
theorem Mk.putW (h : Mk B w n rv wv R S) {i : Nat} (hi : i < n) {j : Nat} (hj : j < (S i).length) (x : Wr) :
    ∃ g c, wv i = .slice (some ⟨g, 0, none⟩) (S i).length c ∧ w.cell? ⟨g, j * 3, none⟩ = some (.string (nthW (S i) j).key) ∧ w.cell? ⟨g, j * 3 + 1, none⟩ = some (.bool (nthW (S i) j).del) ∧ w.cell? ⟨g, j * 3 + 2, none⟩ = some (.string (nthW (S i) j).val) ∧ (∀ o, w.frozen? ⟨g, o, none⟩ = false) ∧
      Mk B (Lk.putW w g (j * 3) x) n rv wv R (Fam.up S i ((S i).set j x)) ∧ w.grownBy (Lk.putW w g (j * 3) x) (wv i).ownBlock := by
  have ho := h.s.own i hi
  obtain ⟨g, c, e, _⟩ := Fam.row_block ho (by omega)
  have ho2 := ho
  rw [e] at ho2
  obtain ⟨p1, p2⟩ := own_putW ho2 rfl hj x
  obtain ⟨c0, c1, c2⟩ := cells_W ho2 rfl hj
  have hb : (wv i).ownBlock = some g := by rw [e]; rfl
  rw [← e] at p1
  rw [← hb] at p2
  refine ⟨g, c, e, c0, c1, c2, fun o => World.ownsRow.frozenAt ho2 o, ⟨h.r.other ho (by decide) p2, ?_⟩, p2⟩
  have := h.s.one hi p2 p1
  refine ⟨fun k hk => ?_, this.ap⟩
  have h3 := this.own k hk
  by_cases e2 : k = i
  · subst e2
    rw [Fam.up_same] at h3 ⊢
    rw [List.length_set]; exact h3
  · rw [Fam.up_other _ _ e2] at h3 ⊢
    exact h3
end
end Go.Proofs.YtgplnbdankfobaaGreatDoor.Lk
