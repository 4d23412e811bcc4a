import Derived.Test.YtneojeidpfjpbaaGreatDoorB39
set_option linter.unusedVariables false
namespace Go.Proofs.YtneojeidpfjpbaaGreatDoor.Fam
open Go.RowKit
section
variable {α : Type}
def ct (M X : Nat → List α) (i k j : Nat) : List α := if j < i then M j else if j = i then (M i).take k ++ (X i).drop k else X j
theorem ct_zero (M X : Nat → List α) (j : Nat) : ct M X 0 0 j = X j := by
 unfold ct; rw [if_neg (by omega)]; by_cases e : j = 0
 ·rw [if_pos e, e]; simp
 ·rw [if_neg e]
theorem ct_next (M X : Nat → List α) {i : Nat} (hl : (M i).length = (X i).length) (j : Nat) : ct M X i (X i).length j = ct M X (i + 1) 0 j := by
 unfold ct; by_cases h1 : j < i
 ·rw [if_pos h1, if_pos (by omega)]
 ·rw [if_neg h1]; by_cases h2 : j = i
  ·subst h2; rw [if_pos rfl, if_pos (by omega), ← hl, List.take_length, hl, List.drop_length, List.append_nil]
  ·rw [if_neg h2, if_neg (by omega)]; by_cases h3 : j = i + 1
   ·rw [if_pos h3, h3]; simp
   ·rw [if_neg h3]
theorem ct_len (M X : Nat → List α) (hl : ∀ j, (M j).length = (X j).length) {i k : Nat} (hk : k ≤ (X i).length) (j : Nat) : (ct M X i k j).length = (X j).length := by
 unfold ct; by_cases h1 : j < i
 ·rw [if_pos h1, hl]
 ·rw [if_neg h1]; by_cases h2 : j = i
  ·subst h2; rw [if_pos rfl, List.length_append, List.length_take, List.length_drop, hl]; omega
  ·rw [if_neg h2]
theorem ct_set (M X : Nat → List α) {i k : Nat} (hl : (M i).length = (X i).length) (hk : k < (X i).length) {x : α} (hx : (M i)[k]? = some x) : (ct M X i k i).set k x = ct M X i (k + 1) i := by
 unfold ct; rw [if_neg (by omega), if_pos rfl, if_neg (by omega), if_pos rfl]; have h1 : ((M i).take k).length = k := by rw [List.length_take]; omega
 have h2 : (X i).drop k = (X i)[k] :: (X i).drop (k + 1) := List.drop_eq_getElem_cons hk; have h3 : (M i).take (k + 1) = (M i).take k ++ [x] := by rw [List.take_add_one, hx]; rfl
 rw [h2, h3, List.set_append_right _ _ (by omega), h1, Nat.sub_self, List.set_cons_zero, List.append_assoc]; rfl
theorem ct_other (M X : Nat → List α) {i k k' j : Nat} (h : j ≠ i) : ct M X i k j = ct M X i k' j := by
 unfold ct; by_cases h1 : j < i
 ·rw [if_pos h1, if_pos h1]
 ·rw [if_neg h1, if_neg h1, if_neg h, if_neg h]
theorem ct_done (M X : Nat → List α) {n j : Nat} (h : j < n) : ct M X n 0 j = M j := by unfold ct; rw [if_pos h]
end
end Go.Proofs.YtneojeidpfjpbaaGreatDoor.Fam
namespace Go.Proofs.YtneojeidpfjpbaaGreatDoor.Lk
open Go.RowKit Go.Sort
theorem flat2_append (X Y : List T2) : flat2 (X ++ Y) = flat2 X ++ flat2 Y := by simp [flat2]
theorem flatW_append (X Y : List Wr) : flatW (X ++ Y) = flatW X ++ flatW Y := by simp [flatW]
theorem split_at {α : Type} {X : List α} {j : Nat} (h : j < X.length) : ∃ A x C, X = A ++ x :: C ∧ A.length = j := by
 refine ⟨X.take j, X[j], X.drop (j + 1), ?_, by rw [List.length_take]; omega⟩; rw [← List.drop_eq_getElem_cons h, List.take_append_drop]
theorem flat2_set {X : List T2} {j : Nat} (h : j < X.length) (x : T2) : ((flat2 X).set (j * 2) (.string x.1)).set (j * 2 + 1) (.string x.2) = flat2 (X.set j x) := by
 obtain ⟨A, y, C, rfl, rfl⟩ := split_at h; have hr : (A ++ y :: C).set A.length x = A ++ x :: C := by rw [List.set_append_right _ _ (Nat.le_refl _)]; simp
 have hs0 : ∀ (P Q : List Value) (v : Value), (P ++ Q).set P.length v = P ++ Q.set 0 v := fun P Q v => by
  rw [List.set_append_right _ _ (Nat.le_refl _)]; simp
 have hs : ∀ (P Q : List Value) (j : Nat) (v : Value), (P ++ Q).set (P.length + j) v = P ++ Q.set j v := fun P Q j v => by
  rw [List.set_append_right _ _ (by omega)]; simp
 rw [hr, flat2_append, flat2_append, ← flat2_len A, hs0, hs]; rfl
theorem flatW_set {X : List Wr} {j : Nat} (h : j < X.length) (x : Wr) : (((flatW X).set (j * 3) (.string x.key)).set (j * 3 + 1) (.bool x.del)).set (j * 3 + 2) (.string x.val) = flatW (X.set j x) := by
 obtain ⟨A, y, C, rfl, rfl⟩ := split_at h; have hr : (A ++ y :: C).set A.length x = A ++ x :: C := by rw [List.set_append_right _ _ (Nat.le_refl _)]; simp
 have hs0 : ∀ (P Q : List Value) (v : Value), (P ++ Q).set P.length v = P ++ Q.set 0 v := fun P Q v => by
  rw [List.set_append_right _ _ (Nat.le_refl _)]; simp
 have hs : ∀ (P Q : List Value) (j : Nat) (v : Value), (P ++ Q).set (P.length + j) v = P ++ Q.set j v := fun P Q j v => by
  rw [List.set_append_right _ _ (by omega)]; simp
 rw [hr, flatW_append, flatW_append, ← flatW_len A, hs0, hs, hs]; rfl
abbrev putS (w : World) (g o : Nat) (x : T2) : World := (w.setCell ⟨g, o, none⟩ (.string x.1)).setCell ⟨g, o + 1, none⟩ (.string x.2)
abbrev putW (w : World) (g o : Nat) (x : Wr) : World := ((w.setCell ⟨g, o, none⟩ (.string x.key)).setCell ⟨g, o + 1, none⟩ (.bool x.del)).setCell ⟨g, o + 2, none⟩ (.string x.val)
theorem own_putS {w : World} {B g n c : Nat} {X : List T2} (h : w.ownsRow B 25 2 (.slice (some ⟨g, 0, none⟩) n c) n (flat2 X)) (hn : X.length = n) {j : Nat} (hj : j < n) (x : T2) :
  (putS w g (j * 2) x).ownsRow B 25 2 (.slice (some ⟨g, 0, none⟩) n c) n (flat2 (X.set j x)) ∧ w.grownBy (putS w g (j * 2) x) (some g) := by
 have h0 := World.ownsRow.stored h (j * 2) (.string x.1); have h1 := World.ownsRow.stored h0.1 (j * 2 + 1) (.string x.2); rw [flat2_set (by omega)] at h1; exact ⟨h1.1, Fam.grow_trans h0.2 h1.2 (.inl rfl)⟩
theorem own_putW {w : World} {B g n c : Nat} {X : List Wr} (h : w.ownsRow B 103 3 (.slice (some ⟨g, 0, none⟩) n c) n (flatW X)) (hn : X.length = n) {j : Nat} (hj : j < n) (x : Wr) :
  (putW w g (j * 3) x).ownsRow B 103 3 (.slice (some ⟨g, 0, none⟩) n c) n (flatW (X.set j x)) ∧ w.grownBy (putW w g (j * 3) x) (some g) := by
 have h0 := World.ownsRow.stored h (j * 3) (.string x.key); have h1 := World.ownsRow.stored h0.1 (j * 3 + 1) (.bool x.del); have h2 := World.ownsRow.stored h1.1 (j * 3 + 2) (.string x.val); rw [flatW_set (by omega)] at h2; exact ⟨h2.1, Fam.grow_trans h0.2 (Fam.grow_trans h1.2 h2.2 (.inl rfl)) (.inl rfl)⟩
theorem cells_S {w : World} {B g n c : Nat} {X : List T2} (h : w.ownsRow B 25 2 (.slice (some ⟨g, 0, none⟩) n c) n (flat2 X)) (hn : X.length = n) {j : Nat} (hj : j < n) :
  w.cell? ⟨g, j * 2, none⟩ = some (.string (nth2 X j).1) ∧ w.cell? ⟨g, j * 2 + 1, none⟩ = some (.string (nth2 X j).2) := by
 obtain ⟨g', e, _, hc⟩ := own_cells h (by omega); injection e with e
 injection e with e _ _
 subst e; have h0 := flat2_get X j 0 (by omega) (by omega); have h1 := flat2_get X j 1 (by omega) (by omega); exact ⟨hc _ _ h0, hc _ _ h1⟩
theorem cells_W {w : World} {B g n c : Nat} {X : List Wr} (h : w.ownsRow B 103 3 (.slice (some ⟨g, 0, none⟩) n c) n (flatW X)) (hn : X.length = n) {j : Nat} (hj : j < n) :
  w.cell? ⟨g, j * 3, none⟩ = some (.string (nthW X j).key) ∧ w.cell? ⟨g, j * 3 + 1, none⟩ = some (.bool (nthW X j).del) ∧ w.cell? ⟨g, j * 3 + 2, none⟩ = some (.string (nthW X j).val) := by
 obtain ⟨g', e, _, hc⟩ := own_cells h (by omega); injection e with e
 injection e with e _ _
 subst e; have h0 := flatW_get X j 0 (by omega) (by omega); have h1 := flatW_get X j 1 (by omega) (by omega); have h2 := flatW_get X j 2 (by omega) (by omega); exact ⟨hc _ _ h0, hc _ _ h1, hc _ _ h2⟩
structure Mk (B : Nat) (w : World) (n : Nat) (rv wv : Nat → Value) (R : Nat → List T2) (S : Nat → List Wr) : Prop where
 r : Fam.Fm 25 2 B w n rv (fun i => (R i).length) (fun i => flat2 (R i))
 s : Fam.Fm 103 3 B w n wv (fun i => (S i).length) (fun i => flatW (S i))
section
variable {B : Nat} {w w' : World} {n : Nat} {rv wv : Nat → Value} {R : Nat → List T2} {S : Nat → List Wr}
theorem Mk.later (h : Mk B w n rv wv R S) (hb : Below w.heap.size w w') : Mk B w' n rv wv R S := ⟨h.r.later hb, h.s.later hb⟩
theorem Mk.putR (h : Mk B w n rv wv R S) {i : Nat} (hi : i < n) {j : Nat} (hj : j < (R i).length) (x : T2) :
  ∃ g c, rv i = .slice (some ⟨g, 0, none⟩) (R i).length c ∧ w.cell? ⟨g, j * 2, none⟩ = some (.string (nth2 (R i) j).1) ∧ w.cell? ⟨g, j * 2 + 1, none⟩ = some (.string (nth2 (R i) j).2) ∧ (∀ o, w.frozen? ⟨g, o, none⟩ = false) ∧
   Mk B (putS w g (j * 2) x) n rv wv (Fam.up R i ((R i).set j x)) S ∧ w.grownBy (putS w g (j * 2) x) (rv i).ownBlock := by
 have ho := h.r.own i hi; obtain ⟨g, c, e, _⟩ := Fam.row_block ho (by omega); have ho2 := ho; rw [e] at ho2; obtain ⟨p1, p2⟩ := own_putS ho2 rfl hj x; obtain ⟨c0, c1⟩ := cells_S ho2 rfl hj; have hb : (rv i).ownBlock = some g := by rw [e]; rfl
 rw [← e] at p1; rw [← hb] at p2; refine ⟨g, c, e, c0, c1, fun o => World.ownsRow.frozenAt ho2 o, ⟨?_, h.s.other ho (by decide) p2⟩, p2⟩; have := h.r.one hi p2 p1; refine ⟨fun k hk => ?_, this.ap⟩; have h3 := this.own k hk; by_cases e2 : k = i
 ·subst e2; rw [Fam.up_same] at h3 ⊢; rw [List.length_set]; exact h3
 ·rw [Fam.up_other _ _ e2] at h3 ⊢; exact h3
theorem Mk.putW (h : Mk B w n rv wv R S) {i : Nat} (hi : i < n) {j : Nat} (hj : j < (S i).length) (x : Wr) :
  ∃ g c, wv i = .slice (some ⟨g, 0, none⟩) (S i).length c ∧ w.cell? ⟨g, j * 3, none⟩ = some (.string (nthW (S i) j).key) ∧ w.cell? ⟨g, j * 3 + 1, none⟩ = some (.bool (nthW (S i) j).del) ∧ w.cell? ⟨g, j * 3 + 2, none⟩ = some (.string (nthW (S i) j).val) ∧ (∀ o, w.frozen? ⟨g, o, none⟩ = false) ∧
   Mk B (Lk.putW w g (j * 3) x) n rv wv R (Fam.up S i ((S i).set j x)) ∧ w.grownBy (Lk.putW w g (j * 3) x) (wv i).ownBlock := by
 have ho := h.s.own i hi; obtain ⟨g, c, e, _⟩ := Fam.row_block ho (by omega); have ho2 := ho; rw [e] at ho2; obtain ⟨p1, p2⟩ := own_putW ho2 rfl hj x; obtain ⟨c0, c1, c2⟩ := cells_W ho2 rfl hj; have hb : (wv i).ownBlock = some g := by rw [e]; rfl
 rw [← e] at p1; rw [← hb] at p2; refine ⟨g, c, e, c0, c1, c2, fun o => World.ownsRow.frozenAt ho2 o, ⟨h.r.other ho (by decide) p2, ?_⟩, p2⟩; have := h.s.one hi p2 p1; refine ⟨fun k hk => ?_, this.ap⟩; have h3 := this.own k hk; by_cases e2 : k = i
 ·subst e2; rw [Fam.up_same] at h3 ⊢; rw [List.length_set]; exact h3
 ·rw [Fam.up_other _ _ e2] at h3 ⊢; exact h3
end
theorem row_onl {w w' : World} {B n size : Nat} {e : TypeId} {v : Value} {xs : List Value} {F : Nat → Prop} (h : w.ownsRow B e size v n xs) (ho : Onl F w w') (hF : ∀ k, v.ownBlock = some k → ¬ F k) : w'.ownsRow B e size v n xs := by
 obtain ⟨h1, h2 | ⟨g, cap, cur, e1, hB, hg, h3⟩⟩ := h
 ·exact ⟨h1, .inl h2⟩
 ·exact ⟨h1, .inr ⟨g, cap, cur, e1, hB, (ho.block g (Array.getElem?_eq_some_iff.1 hg).1 (hF g (by rw [e1]; rfl))).trans hg, h3⟩⟩
theorem ap_ne {v u : Value} (h : Fam.Ap v u) {k : Nat} (hv : v.ownBlock = some k) : u.ownBlock ≠ some k := fun hu => by
 rcases h with h | h
 ·rw [hv] at h; cases h
 ·exact h (hv.trans hu.symm)
structure Lg2 (wi wr : World) (B : Nat) (v u a b : Value) (X : List T2) (Y : List Wr) (P : List T2) (Q : List Wr) : Prop where
 ra : wr.ownsRow B 25 2 a (X.length + P.length) (flat2 X ++ flat2 P)
 ro : wr.ownsRow B 25 2 v X.length (flat2 X)
 rn : Fam.Near wi v a
 wa : wr.ownsRow B 103 3 b (Y.length + Q.length) (flatW Y ++ flatW Q)
 wo : wr.ownsRow B 103 3 u Y.length (flatW Y)
 wn : Fam.Near wi u b
 on : Onl (fun k => v.ownBlock = some k ∨ u.ownBlock = some k) wi wr
section
variable {wi wr wr' : World} {B : Nat} {v u a b a' b' : Value} {X P : List T2} {Y Q : List Wr}
theorem Lg2.start (hr : wi.ownsRow B 25 2 v X.length (flat2 X)) (hw : wi.ownsRow B 103 3 u Y.length (flatW Y)) : Lg2 wi wi B v u v u X Y [] [] :=
 ⟨by simpa [flat2] using hr, hr, .inl rfl, by simpa [flatW] using hw, hw, .inl rfl, Onl.refl _ _⟩
theorem Lg2.later (h : Lg2 wi wr B v u a b X Y P Q) (hb : Below wr.heap.size wr wr') : Lg2 wi wr' B v u a b X Y P Q :=
 ⟨Fam.row_later h.ra hb, Fam.row_later h.ro hb, h.rn, Fam.row_later h.wa hb, Fam.row_later h.wo hb, h.wn, h.on.on hb⟩
theorem near_step {wi wr : World} {v a a' : Value} (hs : wi.heap.size ≤ wr.heap.size) (h : Fam.Near wi v a) (hn : a'.ownBlock = a.ownBlock ∨ ∃ k, a'.ownBlock = some k ∧ wr.heap.size ≤ k) : Fam.Near wi v a' := by
 rcases hn with e | ⟨k, e, hk⟩
 ·rcases h with e' | ⟨k, e', hk⟩
  ·exact .inl (e.trans e')
  ·exact .inr ⟨k, e.trans e', hk⟩
 ·exact .inr ⟨k, e, by omega⟩
theorem Lg2.stepR (h : Lg2 wi wr B v u a b X Y P Q) (x : T2) (ho : wr'.ownsRow B 25 2 a' (X.length + P.length + 1) (flat2 X ++ flat2 P ++ encS x)) (hgr : wr.grownBy wr' a.ownBlock) (hk : wr'.ownsRow B 25 2 a (X.length + P.length) (flat2 X ++ flat2 P)) (hn : a'.ownBlock = a.ownBlock ∨ ∃ k, a'.ownBlock = some k ∧ wr.heap.size ≤ k) : Lg2 wi wr' B v u a' b X Y (P ++ [x]) Q := by
 refine ⟨?_, ?_, near_step h.on.size h.rn hn, World.ownsRow.kept h.wa hgr (Fam.Ap.types h.wa h.ra (by decide)), World.ownsRow.kept h.wo hgr (Fam.Ap.types h.wo h.ra (by decide)), h.wn, ?_⟩
 ·rw [List.length_append, flat2_append, ← List.append_assoc]; simpa [flat2, Nat.add_assoc] using ho
 ·by_cases e : a.ownBlock = v.ownBlock
  ·exact owns_head (by decide) h.ro h.ra hk e
  ·exact World.ownsRow.kept h.ro hgr (.inr fun e' => e e'.symm)
 ·refine Onl.fresh h.on (grown_onl hgr) fun k hk => ?_
  rcases h.rn with e | ⟨k', e, hk'⟩
  ·exact .inl (.inl (e.symm.trans hk))
  ·have hk : a.ownBlock = some k := hk; rw [e] at hk; injection hk with hk; subst hk; exact .inr hk'
theorem Lg2.stepW (h : Lg2 wi wr B v u a b X Y P Q) (x : Wr) (ho : wr'.ownsRow B 103 3 b' (Y.length + Q.length + 1) (flatW Y ++ flatW Q ++ encW x)) (hgr : wr.grownBy wr' b.ownBlock) (hk : wr'.ownsRow B 103 3 b (Y.length + Q.length) (flatW Y ++ flatW Q)) (hn : b'.ownBlock = b.ownBlock ∨ ∃ k, b'.ownBlock = some k ∧ wr.heap.size ≤ k) : Lg2 wi wr' B v u a b' X Y P (Q ++ [x]) := by
 refine ⟨World.ownsRow.kept h.ra hgr (Fam.Ap.types h.ra h.wa (by decide)), World.ownsRow.kept h.ro hgr (Fam.Ap.types h.ro h.wa (by decide)), h.rn, ?_, ?_, near_step h.on.size h.wn hn, ?_⟩
 ·rw [List.length_append, flatW_append, ← List.append_assoc]; simpa [flatW, Nat.add_assoc] using ho
 ·by_cases e : b.ownBlock = u.ownBlock
  ·exact owns_head (by decide) h.wo h.wa hk e
  ·exact World.ownsRow.kept h.wo hgr (.inr fun e' => e e'.symm)
 ·refine Onl.fresh h.on (grown_onl hgr) fun k hk => ?_
  rcases h.wn with e | ⟨k', e, hk'⟩
  ·exact .inl (.inr (e.symm.trans hk))
  ·have hk : b.ownBlock = some k := hk; rw [e] at hk; injection hk with hk; subst hk; exact .inr hk'
end
def mS (sg : Nat → Nat → ByteArray) (i len m : Nat) : List T2 := (List.range m).map fun j => (sg i (len + j), ⟨#[114]⟩)
def mW (sg : Nat → Nat → ByteArray) (i len m : Nat) : List Wr := (List.range m).map fun j => ⟨sg i (len + j), false, ⟨#[119]⟩⟩
theorem mS_succ (sg : Nat → Nat → ByteArray) (i len m : Nat) : mS sg i len (m + 1) = mS sg i len m ++ [(sg i (len + m), ⟨#[114]⟩)] := by simp [mS, List.range_succ]
theorem mW_succ (sg : Nat → Nat → ByteArray) (i len m : Nat) : mW sg i len (m + 1) = mW sg i len m ++ [⟨sg i (len + m), false, ⟨#[119]⟩⟩] := by simp [mW, List.range_succ]
theorem mS_len (sg : Nat → Nat → ByteArray) (i len m : Nat) : (mS sg i len m).length = m := by simp [mS]
theorem mW_len (sg : Nat → Nat → ByteArray) (i len m : Nat) : (mW sg i len m).length = m := by simp [mW]
def nthY (l : List Value) (i : Nat) : Value := (l[i]?).getD (.slice none 0 0)
structure Gw (W wr : World) (B n : Nat) (rv wv : Nat → Value) (R : Nat → List T2) (S : Nat → List Wr) (lv : Value) (hs : List Value) (sg : Nat → Nat → ByteArray) (i : Nat) (x y : Value) (SV TV : List Value) : Prop where
 mr : Mk B wr n rv wv R S
 l : wr.ownsRow B 52 8 lv n hs
 sx : wr.ownsRow W.heap.size 40 1 x i SV
 sy : wr.ownsRow W.heap.size 41 1 y i TV
 rs : ∀ q, q < i → wr.ownsRow B 25 2 (nthY SV q) ((R q).length + 70) (flat2 (R q) ++ flat2 (mS sg q (R q).length 70)) ∧ Fam.Near W (rv q) (nthY SV q)
 ws : ∀ q, q < i → wr.ownsRow B 103 3 (nthY TV q) ((S q).length + 70) (flatW (S q) ++ flatW (mW sg q (S q).length 70)) ∧ Fam.Near W (wv q) (nthY TV q)
 on : Onl (fun k => ∃ q, q < n ∧ ((rv q).ownBlock = some k ∨ (wv q).ownBlock = some k)) W wr
 old : ∀ q, q < n → ∀ k, ((rv q).ownBlock = some k ∨ (wv q).ownBlock = some k) → k < W.heap.size
 bB : B ≤ W.heap.size
section
variable {W wr wr' : World} {B n : Nat} {rv wv : Nat → Value} {R : Nat → List T2} {S : Nat → List Wr} {lv : Value} {hs : List Value} {sg : Nat → Nat → ByteArray} {i : Nat} {x y : Value} {SV TV : List Value}
theorem Gw.start (h : Mk B W n rv wv R S) (hl : W.ownsRow B 52 8 lv n hs) (hB : B ≤ W.heap.size) : Gw W W B n rv wv R S lv hs sg 0 (.slice none 0 0) (.slice none 0 0) [] [] :=
 ⟨h, hl, World.ownsRow_nil _ _ _ _, World.ownsRow_nil _ _ _ _, fun q hq => by omega, fun q hq => by omega, Onl.refl _ _, fun q hq k hk => by
  rcases hk with hk | hk
  ·exact ((h.r.own q hq).lt k hk).2
  ·exact ((h.s.own q hq).lt k hk).2, hB⟩
theorem Gw.inner (h : Gw W wr B n rv wv R S lv hs sg i x y SV TV) (hi : i < n) {a b : Value} {P : List T2} {Q : List Wr} (g : Lg2 wr wr' B (rv i) (wv i) a b (R i) (S i) P Q) : Gw W wr' B n rv wv R S lv hs sg i x y SV TV := by
 have hoR : ∀ {B' m size : Nat} {e : TypeId} {v : Value} {zs : List Value}, wr.ownsRow B' e size v m zs → 25 ≠ e → 103 ≠ e → wr'.ownsRow B' e size v m zs := fun hv h1 h2 => row_onl hv g.on fun k hk hf => by
  rcases hf with hf | hf
  ·exact ap_ne (Fam.Ap.types (h.mr.r.own i hi) hv h1) hf hk
  ·exact ap_ne (Fam.Ap.types (h.mr.s.own i hi) hv h2) hf hk
 refine ⟨⟨⟨fun q hq => ?_, h.mr.r.ap⟩, ⟨fun q hq => ?_, h.mr.s.ap⟩⟩, hoR h.l (by decide) (by decide), hoR h.sx (by decide) (by decide), hoR h.sy (by decide) (by decide), fun q hq => ⟨row_onl (h.rs q hq).1 g.on fun k hk hf => ?_, (h.rs q hq).2⟩, fun q hq => ⟨row_onl (h.ws q hq).1 g.on fun k hk hf => ?_, (h.ws q hq).2⟩, h.on.trans (g.on.mono fun k hk => ⟨i, hi, hk⟩), h.old, h.bB⟩
 ·by_cases e : q = i
  ·subst e; exact g.ro
  ·refine row_onl (h.mr.r.own q hq) g.on fun k hk hf => ?_
   rcases hf with hf | hf
   ·exact ap_ne (h.mr.r.ap q i hq hi e) hk hf
   ·exact ap_ne (Fam.Ap.types (h.mr.r.own q hq) (h.mr.s.own i hi) (by decide)) hk hf
 ·by_cases e : q = i
  ·subst e; exact g.wo
  ·refine row_onl (h.mr.s.own q hq) g.on fun k hk hf => ?_
   rcases hf with hf | hf
   ·exact ap_ne (Fam.Ap.types (h.mr.s.own q hq) (h.mr.r.own i hi) (by decide)) hk hf
   ·exact ap_ne (h.mr.s.ap q i hq hi e) hk hf
 ·rcases hf with hf | hf
  ·rcases (h.rs q hq).2 with e | ⟨k', e, hk'⟩
   ·exact ap_ne (h.mr.r.ap q i (by omega) hi (by omega)) (e.symm.trans hk) hf
   ·rw [e] at hk; injection hk with hk; subst hk
    have := h.old i hi _ (.inl hf); omega
  ·exact ap_ne (Fam.Ap.types (h.rs q hq).1 (h.mr.s.own i hi) (by decide)) hk hf
 ·rcases hf with hf | hf
  ·exact ap_ne (Fam.Ap.types (h.ws q hq).1 (h.mr.r.own i hi) (by decide)) hk hf
  ·rcases (h.ws q hq).2 with e | ⟨k', e, hk'⟩
   ·exact ap_ne (h.mr.s.ap q i (by omega) hi (by omega)) (e.symm.trans hk) hf
   ·rw [e] at hk; injection hk with hk; subst hk
    have := h.old i hi _ (.inr hf); omega
theorem nthY_snoc (l : List Value) (v : Value) {q : Nat} (h : q < l.length) : nthY (l ++ [v]) q = nthY l q := by unfold nthY; rw [List.getElem?_append_left h]
theorem nthY_last (l : List Value) (v : Value) {q : Nat} (h : q = l.length) : nthY (l ++ [v]) q = v := by subst h; simp [nthY]
theorem near_mono {W w : World} {v a : Value} (hs : W.heap.size ≤ w.heap.size) (h : Fam.Near w v a) : Fam.Near W v a := h.imp id fun ⟨k, e, hk⟩ => ⟨k, e, by omega⟩
theorem Gw.next (h : Gw W wr B n rv wv R S lv hs sg i x y SV TV) {a b x' y' : Value} {w1 w2 w3 w4 : World} (ra : wr.ownsRow B 25 2 a ((R i).length + 70) (flat2 (R i) ++ flat2 (mS sg i (R i).length 70))) (rn : Fam.Near W (rv i) a)
  (wa : wr.ownsRow B 103 3 b ((S i).length + 70) (flatW (S i) ++ flatW (mW sg i (S i).length 70))) (wn : Fam.Near W (wv i) b) (hb1 : Below wr.heap.size wr w1) (hg1 : w1.grownBy w2 x.ownBlock) (ho1 : w2.ownsRow W.heap.size 40 1 x' (i + 1) (SV ++ [a]))
  (hb2 : Below w2.heap.size w2 w3) (hg2 : w3.grownBy w4 y.ownBlock) (ho2 : w4.ownsRow W.heap.size 41 1 y' (i + 1) (TV ++ [b])) : Gw W w4 B n rv wv R S lv hs sg (i + 1) x' y' (SV ++ [a]) (TV ++ [b]) := by
 have sx1 := Fam.row_later h.sx hb1; have k1 : ∀ {B' m size : Nat} {e : TypeId} {v : Value} {zs : List Value}, wr.ownsRow B' e size v m zs → e ≠ 40 → w3.ownsRow B' e size v m zs := fun hv hne => Fam.row_later (World.ownsRow.kept (Fam.row_later hv hb1) hg1 (Fam.Ap.types (Fam.row_later hv hb1) sx1 hne)) hb2
 have sy3 := k1 h.sy (by decide); have k2 : ∀ {B' m size : Nat} {e : TypeId} {v : Value} {zs : List Value}, wr.ownsRow B' e size v m zs → e ≠ 40 → e ≠ 41 → w4.ownsRow B' e size v m zs := fun hv h1 h2 => World.ownsRow.kept (k1 hv h1) hg2 (Fam.Ap.types (k1 hv h1) sy3 h2)
 have ho13 := Fam.row_later ho1 hb2; have lS : SV.length = i := by have := h.sx.1; omega
 have lT : TV.length = i := by have := h.sy.1; omega
 refine ⟨⟨⟨fun q hq => k2 (h.mr.r.own q hq) (by decide) (by decide), h.mr.r.ap⟩, ⟨fun q hq => k2 (h.mr.s.own q hq) (by decide) (by decide), h.mr.s.ap⟩⟩, k2 h.l (by decide) (by decide), World.ownsRow.kept ho13 hg2 (Fam.Ap.types ho13 sy3 (by decide)), ho2, fun q hq => ?_, fun q hq => ?_, ?_, h.old, h.bB⟩
 ·by_cases e : q = i
  ·subst e; rw [nthY_last _ _ lS.symm]; exact ⟨k2 ra (by decide) (by decide), rn⟩
  ·rw [nthY_snoc _ _ (by omega)]; exact ⟨k2 (h.rs q (by omega)).1 (by decide) (by decide), (h.rs q (by omega)).2⟩
 ·by_cases e : q = i
  ·subst e; rw [nthY_last _ _ lT.symm]; exact ⟨k2 wa (by decide) (by decide), wn⟩
  ·rw [nthY_snoc _ _ (by omega)]; exact ⟨k2 (h.ws q (by omega)).1 (by decide) (by decide), (h.ws q (by omega)).2⟩
 ·have o1 := Onl.fresh (h.on.on hb1) (grown_onl hg1) fun k hk => .inr (h.sx.lt k hk).1
  exact Onl.fresh (o1.on hb2) (grown_onl hg2) fun k hk => .inr (h.sy.lt k hk).1
end
end Go.Proofs.YtneojeidpfjpbaaGreatDoor.Lk
