import Derived.Test.YthenfioddnkjbaaGreatDoorRzTxN
import Derived.Test.YthenfioddnkjbaaGreatDoorRzShA
import Derived.Test.YthenfioddnkjbaaGreatDoorRzTx0
import Derived.Test.YthenfioddnkjbaaGreatDoorRzTnS
/- The shares that were handed out, list by list, on their way into the book. -/
namespace Go.Proofs.YthenfioddnkjbaaGreatDoor.Bg
open Go.RowKit Go.Sort Go.Proofs.YthenfioddnkjbaaGreatDoor Go.Proofs.YthenfioddnkjbaaGreatDoor.Rt
set_option linter.unusedVariables false

structure Ls (W w0 wr : World) (c0 ci : Nat → Nat) (b : Nat) (x : B4v) (m : Nat) (L : List Sh) (f : Nat → Value) (p : Nat) : Prop where
  b4 : B4 W wr ci b x (m + p)
  s0 : ∀ j, j < L.length → p ≤ 4 * j → RwC elS wr W.heap.size ci (32 + 4 * j) (f (4 * j)) (nthSh L j).2.1
  s1 : ∀ j, j < L.length → p ≤ 4 * j + 1 → RwC elS wr W.heap.size ci (32 + (4 * j + 1)) (f (4 * j + 1)) (nthSh L j).2.1
  v2 : ∀ j, j < L.length → p ≤ 4 * j + 2 → RwC elW wr W.heap.size ci (32 + (4 * j + 2)) (f (4 * j + 2)) (nthSh L j).2.2
  v3 : ∀ j, j < L.length → p ≤ 4 * j + 3 → RwC elW wr W.heap.size ci (32 + (4 * j + 3)) (f (4 * j + 3)) (nthSh L j).2.2
  z : ∀ k, k < w0.heap.size → c0 k = 0 → ci k = 0 ∧ wr.heap[k]? = w0.heap[k]?
  sz : w0.heap.size ≤ wr.heap.size
def Lq (W w0 wr : World) (c0 : Nat → Nat) (b m : Nat) (L : List Sh) (f : Nat → Value) (p : Nat) : Prop := ∃ ci x, Ls W w0 wr c0 ci b x m L f p
section
variable {W w0 wr w' : World} {c0 ci c' : Nat → Nat} {b m p : Nat} {x x' : B4v} {L : List Sh} {f : Nat → Value}
theorem Ls.later (h : Ls W w0 wr c0 ci b x m L f p) (hb : Below wr.heap.size wr w') : Ls W w0 w' c0 ci b x m L f p := by
  have ho : Onl (fun k => (fun _ => False) (ci k)) wr w' := Onl.of_below hb
  exact ⟨h.b4.later hb (fun _ _ => rfl), fun j h1 h2 => (h.s0 j h1 h2).onl (S := fun _ => False) ho (fun h => h) (fun _ _ e => e), fun j h1 h2 => (h.s1 j h1 h2).onl (S := fun _ => False) ho (fun h => h) (fun _ _ e => e), fun j h1 h2 => (h.v2 j h1 h2).onl (S := fun _ => False) ho (fun h => h) (fun _ _ e => e), fun j h1 h2 => (h.v3 j h1 h2).onl (S := fun _ => False) ho (fun h => h) (fun _ _ e => e), fun k h1 h2 => ⟨(h.z k h1 h2).1, (hb.block k (Nat.lt_of_lt_of_le h1 h.sz)).trans (h.z k h1 h2).2⟩, Nat.le_trans h.sz hb.size⟩
theorem Ls.next (h : Ls W w0 wr c0 ci b x m L f p) (k : Kept wr w' ci c' (32 + p)) (hb : B4 W w' c' b x' (m + p + 1)) : Ls W w0 w' c0 c' b x' m L f (p + 1) :=
  ⟨hb, fun j h1 h2 => k.row (h.s0 j h1 (by omega)) (by omega) (by omega), fun j h1 h2 => k.row (h.s1 j h1 (by omega)) (by omega) (by omega), fun j h1 h2 => k.row (h.v2 j h1 (by omega)) (by omega) (by omega), fun j h1 h2 => k.row (h.v3 j h1 (by omega)) (by omega) (by omega), fun j h1 h2 => by
    obtain ⟨e1, e2⟩ := h.z j h1 h2
    have hl := Nat.lt_of_lt_of_le h1 h.sz
    exact ⟨(k.col j hl (by omega)).trans e1, (k.onl.block j hl (by omega)).trans e2⟩, Nat.le_trans h.sz k.onl.size⟩
theorem Lq.cell (h : Lq W w0 wr c0 b m L f p) {g o : Nat} {v : Value} (hg : g < w0.heap.size) (hc : c0 g = 0) (hv : w0.cell? ⟨g, o, none⟩ = some v) : wr.cell? ⟨g, o, none⟩ = some v := by
  obtain ⟨ci, x, h⟩ := h
  exact (World.cell?_of_block (a := ⟨g, o, none⟩) (h.z g hg hc).2).trans hv
theorem Lq.later (h : Lq W w0 wr c0 b m L f p) (hb : Below wr.heap.size wr w') : Lq W w0 w' c0 b m L f p := by
  obtain ⟨ci, x, h⟩ := h
  exact ⟨ci, x, h.later hb⟩
theorem Lq.keep0 {i : Nat} (h : Lq W w0 wr c0 b m L f (4 * i)) (hi : i < L.length) (hL : L.length ≤ 6) (hm : m + 24 ≤ 1073741824) (hn : (nthSh L i).2.1.length ≤ 1073741824) : Calls Tryz.prog 39 #[.pointer (some ⟨b, 8, none⟩), f (4 * i)] wr fun e w' => e = .returned (.tuple #[]) ∧ Hid (Lq W w0 w' c0 b m L f (4 * i + 1)) := by
  obtain ⟨ci, x, h⟩ := h
  refine (h.b4.keepS (h.s0 i hi (Nat.le_refl _)) (by omega) (by omega) hn).mono ?_
  rintro e w' ⟨rfl, c', x', hb, hk⟩
  exact ⟨rfl, c', x', h.next hk hb⟩
theorem Lq.keep1 {i : Nat} (h : Lq W w0 wr c0 b m L f (4 * i + 1)) (hi : i < L.length) (hL : L.length ≤ 6) (hm : m + 24 ≤ 1073741824) (hn : (nthSh L i).2.1.length ≤ 1073741824) : Calls Tryz.prog 39 #[.pointer (some ⟨b, 8, none⟩), f (4 * i + 1)] wr fun e w' => e = .returned (.tuple #[]) ∧ Hid (Lq W w0 w' c0 b m L f (4 * i + 2)) := by
  obtain ⟨ci, x, h⟩ := h
  refine (h.b4.keepS (h.s1 i hi (Nat.le_refl _)) (by omega) (by omega) hn).mono ?_
  rintro e w' ⟨rfl, c', x', hb, hk⟩
  exact ⟨rfl, c', x', h.next hk hb⟩
theorem Lq.keep2 {i : Nat} (h : Lq W w0 wr c0 b m L f (4 * i + 2)) (hi : i < L.length) (hL : L.length ≤ 6) (hm : m + 24 ≤ 1073741824) (hn : (nthSh L i).2.2.length ≤ 1073741824) : Calls Tryz.prog 40 #[.pointer (some ⟨b, 12, none⟩), f (4 * i + 2)] wr fun e w' => e = .returned (.tuple #[]) ∧ Hid (Lq W w0 w' c0 b m L f (4 * i + 3)) := by
  obtain ⟨ci, x, h⟩ := h
  refine (h.b4.keepW (h.v2 i hi (Nat.le_refl _)) (by omega) (by omega) hn).mono ?_
  rintro e w' ⟨rfl, c', x', hb, hk⟩
  exact ⟨rfl, c', x', h.next hk hb⟩
theorem Lq.keep3 {i : Nat} (h : Lq W w0 wr c0 b m L f (4 * i + 3)) (hi : i < L.length) (hL : L.length ≤ 6) (hm : m + 24 ≤ 1073741824) (hn : (nthSh L i).2.2.length ≤ 1073741824) : Calls Tryz.prog 40 #[.pointer (some ⟨b, 12, none⟩), f (4 * i + 3)] wr fun e w' => e = .returned (.tuple #[]) ∧ Hid (Lq W w0 w' c0 b m L f (4 * (i + 1))) := by
  obtain ⟨ci, x, h⟩ := h
  refine (h.b4.keepW (h.v3 i hi (Nat.le_refl _)) (by omega) (by omega) hn).mono ?_
  rintro e w' ⟨rfl, c', x', hb, hk⟩
  exact ⟨rfl, c', x', h.next hk hb⟩
theorem Lq.done (h : Lq W w0 wr c0 b m L f p) (hp : p ≤ 24) : ∃ c' x', B4 W wr c' b x' (m + 24) := by
  obtain ⟨ci, x, h⟩ := h
  exact ⟨ci, x, h.b4.mono (by omega)⟩
end
/-- colours for a family of lists that lie apart -/
theorem colours (n : Nat) (c : Nat → Nat) (D : Nat → Prop) (f : Nat → Value) (ha : ∀ p q, D p → D q → p ≠ q → (f p).ownBlock = none ∨ (f p).ownBlock ≠ (f q).ownBlock) (hn : ∀ q, D q → ∀ g, (f q).ownBlock = some g → n ≤ g) :
    ∃ c' : Nat → Nat, (∀ k, k < n → c' k = c k) ∧ (∀ q, D q → ∀ g, (f q).ownBlock = some g → c' g = 32 + q) ∧ ∀ k, n ≤ k → (∀ q, D q → (f q).ownBlock ≠ some k) → c' k = 0 := by
  refine ⟨fun k => if k < n then c k else haveI := Classical.propDecidable (∃ q, D q ∧ (f q).ownBlock = some k); if h : ∃ q, D q ∧ (f q).ownBlock = some k then 32 + h.choose else 0, fun k hk => by simp [hk], fun q hq g hg => ?_, fun k hk hno => ?_⟩
  · have h : ∃ q, D q ∧ (f q).ownBlock = some g := ⟨q, hq, hg⟩
    have hs := h.choose_spec
    have e : h.choose = q := by
      haveI := Classical.propDecidable (h.choose = q)
      by_cases e : h.choose = q
      · exact e
      · rcases ha _ q hs.1 hq e with h1 | h1
        · rw [hs.2] at h1; cases h1
        · exact absurd (hs.2.trans hg.symm) h1
    have hl := hn q hq g hg
    simp only [show ¬ g < n by omega, if_false]
    rw [dif_pos h, e]
  · simp only [show ¬ k < n by omega, if_false]
    rw [dif_neg]
    rintro ⟨q, h1, h2⟩
    exact hno q h1 h2
def fam (r r' v v' : Nat → Value) (q : Nat) : Value := if q % 4 = 0 then r (q / 4) else if q % 4 = 1 then r' (q / 4) else if q % 4 = 2 then v (q / 4) else v' (q / 4)
theorem fam0 (r r' v v' : Nat → Value) (j : Nat) : fam r r' v v' (4 * j) = r j := by
  unfold fam; rw [if_pos (by omega), show 4 * j / 4 = j by omega]
theorem fam1 (r r' v v' : Nat → Value) (j : Nat) : fam r r' v v' (4 * j + 1) = r' j := by
  unfold fam; rw [if_neg (by omega), if_pos (by omega), show (4 * j + 1) / 4 = j by omega]
theorem fam2 (r r' v v' : Nat → Value) (j : Nat) : fam r r' v v' (4 * j + 2) = v j := by
  unfold fam; rw [if_neg (by omega), if_neg (by omega), if_pos (by omega), show (4 * j + 2) / 4 = j by omega]
theorem fam3 (r r' v v' : Nat → Value) (j : Nat) : fam r r' v v' (4 * j + 3) = v' j := by
  unfold fam; rw [if_neg (by omega), if_neg (by omega), if_neg (by omega), show (4 * j + 3) / 4 = j by omega]
theorem fam_cases (q : Nat) : ∃ j, q = 4 * j ∨ q = 4 * j + 1 ∨ q = 4 * j + 2 ∨ q = 4 * j + 3 := ⟨q / 4, by omega⟩
theorem ne_of_rows {w : World} {b1 b2 n1 n2 s1 s2 : Nat} {e1 e2 : TypeId} {v1 v2 : Value} {xs ys : List Value} (h1 : w.ownsRow b1 e1 s1 v1 n1 xs) (h2 : w.ownsRow b2 e2 s2 v2 n2 ys) (hne : e1 ≠ e2) : v1.ownBlock = none ∨ v1.ownBlock ≠ v2.ownBlock := rows_apart h1 h2 hne
theorem ne_of_lt {v1 v2 : Value} {n : Nat} (h1 : ∀ g, v1.ownBlock = some g → g < n) (h2 : ∀ g, v2.ownBlock = some g → n ≤ g) : v1.ownBlock ≠ v2.ownBlock ∨ v1.ownBlock = none := by
  cases h : v1.ownBlock with
  | none => exact .inr rfl
  | some g =>
    left
    intro e
    have := h1 g h
    have := h2 g e.symm
    omega
/-- two answers of Shares, in hand -/
theorem Lq.start {W w w3 w4 w9 w10 w12 : World} {c : Nat → Nat} {b m : Nat} {y : B4v} {L : List Sh} {a4 a10 : Option Addr} {vr vw vr' vw' : Nat → Value} (h : B4 W w c b y m) (hb : Below w.heap.size w w12) (h4 : ShO w4 w3.heap.size a4 L vr vw) (h410 : Below w4.heap.size w4 w10) (h10 : ShO w10 w9.heap.size a10 L vr' vw') (h1012 : Below w10.heap.size w10 w12) (hw3 : w.heap.size ≤ w3.heap.size) (h34 : w3.heap.size ≤ w4.heap.size) (h49 : w4.heap.size ≤ w9.heap.size) :
    ∃ c9, Lq W w12 w12 c9 b m L (fam vr vr' vw vw') 0 ∧ (∀ k, w.heap.size ≤ k → k < w3.heap.size → c9 k = 0) ∧ (∀ i, i < L.length → ∃ g, a4 = some ⟨g, 0, none⟩ ∧ g < w12.heap.size ∧ c9 g = 0) ∧ (∀ i, i < L.length → ∃ g, a10 = some ⟨g, 0, none⟩ ∧ g < w12.heap.size ∧ c9 g = 0) := by
  have H := h4.later h410
  have lo4 : ∀ {g}, w3.heap.size ≤ g → w.heap.size ≤ g := fun h => Nat.le_trans hw3 h
  have r_lt : ∀ j, j < L.length → ∀ g, (vr j).ownBlock = some g → w3.heap.size ≤ g ∧ g < w4.heap.size := fun j hj g hg => World.ownsRow.lt (h4.reads j hj) g hg
  have v_lt : ∀ j, j < L.length → ∀ g, (vw j).ownBlock = some g → w3.heap.size ≤ g ∧ g < w4.heap.size := fun j hj g hg => World.ownsRow.lt (h4.writes j hj) g hg
  have r_lt' : ∀ j, j < L.length → ∀ g, (vr' j).ownBlock = some g → w9.heap.size ≤ g ∧ g < w10.heap.size := fun j hj g hg => World.ownsRow.lt (h10.reads j hj) g hg
  have v_lt' : ∀ j, j < L.length → ∀ g, (vw' j).ownBlock = some g → w9.heap.size ≤ g ∧ g < w10.heap.size := fun j hj g hg => World.ownsRow.lt (h10.writes j hj) g hg
  have far : ∀ {v1 v2 : Value}, (∀ g, v1.ownBlock = some g → w3.heap.size ≤ g ∧ g < w4.heap.size) → (∀ g, v2.ownBlock = some g → w9.heap.size ≤ g ∧ g < w10.heap.size) → (v1.ownBlock = none ∨ v1.ownBlock ≠ v2.ownBlock) ∧ (v2.ownBlock = none ∨ v2.ownBlock ≠ v1.ownBlock) := fun h1 h2 => by
    refine ⟨(ne_of_lt (n := w4.heap.size) (fun g hg => (h1 g hg).2) (fun g hg => Nat.le_trans h49 (h2 g hg).1)).symm, ?_⟩
    rcases ne_of_lt (n := w4.heap.size) (fun g hg => (h1 g hg).2) (fun g hg => Nat.le_trans h49 (h2 g hg).1) with e | e
    · exact .inr (Ne.symm e)
    · rw [e]
      rename_i v1 v2
      cases h : v2.ownBlock with
      | none => exact .inl rfl
      | some g => exact .inr (by simp)
  obtain ⟨c9, hc1, hc2, hc3⟩ := colours w.heap.size c (fun q => q / 4 < L.length) (fam vr vr' vw vw') (fun p q hp hq hne => by
    obtain ⟨i, hi⟩ := fam_cases p
    obtain ⟨j, hj⟩ := fam_cases q
    have dS : (49 : TypeId) ≠ 135 := by decide
    rcases hi with rfl | rfl | rfl | rfl <;> rcases hj with rfl | rfl | rfl | rfl <;> simp only [fam0, fam1, fam2, fam3]
    all_goals (have hil : i < L.length := by omega)
    all_goals (have hjl : j < L.length := by omega)
    · exact H.aR i j hil hjl (by omega)
    · exact (far (r_lt i hil) (r_lt' j hjl)).1
    · exact rows_apart (H.reads i hil) (H.writes j hjl) dS
    · exact (far (r_lt i hil) (v_lt' j hjl)).1
    · exact (far (r_lt j hjl) (r_lt' i hil)).2
    · exact h10.aR i j hil hjl (by omega)
    · exact (far (v_lt j hjl) (r_lt' i hil)).2
    · exact rows_apart (h10.reads i hil) (h10.writes j hjl) dS
    · exact rows_apart (H.writes i hil) (H.reads j hjl) dS.symm
    · exact (far (v_lt i hil) (r_lt' j hjl)).1
    · exact H.aW i j hil hjl (by omega)
    · exact (far (v_lt i hil) (v_lt' j hjl)).1
    · exact (far (r_lt j hjl) (v_lt' i hil)).2
    · exact rows_apart (h10.writes i hil) (h10.reads j hjl) dS.symm
    · exact (far (v_lt j hjl) (v_lt' i hil)).2
    · exact h10.aW i j hil hjl (by omega)) (fun q hq g hg => by
    obtain ⟨i, hi⟩ := fam_cases q
    rcases hi with rfl | rfl | rfl | rfl <;> simp only [fam0, fam1, fam2, fam3] at hg
    · have := r_lt i (by omega) g hg; omega
    · have := r_lt' i (by omega) g hg; omega
    · have := v_lt i (by omega) g hg; omega
    · have := v_lt' i (by omega) g hg; omega)
  have hB : B4 W w12 c9 b y (m + 0) := h.later hb hc1
  have hlow : W.heap.size ≤ w.heap.size := h.bl.size
  have F := H.later h1012
  have G := h10.later h1012
  have rw_ : ∀ {α : Type} {E : El α} (hE : E.Ok) {B : Nat} {v : Value} {xs : List α} (q : Nat), q / 4 < L.length → fam vr vr' vw vw' q = v → W.heap.size ≤ B → w12.ownsRow B E.ty E.k v xs.length (E.flat xs) → RwC E w12 W.heap.size c9 (32 + q) v xs := by
    intro α E hE B v xs q hq e hBW ho
    exact ⟨(owns_rowF hE ho).low hBW, fun g hg => hc2 q hq g (by rw [e]; exact hg)⟩
  have tab : ∀ {w' : World} {B : Nat} {a : Option Addr} {r v : Nat → Value}, ShO w' B a L r v → w.heap.size ≤ B → Below w'.heap.size w' w12 → ∀ i, i < L.length → ∃ g, a = some ⟨g, 0, none⟩ ∧ g < w12.heap.size ∧ c9 g = 0 := fun hs hBw hbw i hi => by
    obtain ⟨g, e, hg, hl, _, _, _, cs, hcs⟩ := hs.cells i hi
    have hcs' := (hbw.block g hl).trans hcs
    refine ⟨g, e, Nat.lt_of_lt_of_le hl hbw.size, hc3 g (by omega) (fun q hq hn => ?_)⟩
    have ty : ∀ {T : TypeId} {B s n : Nat} {v : Value} {xs : List Value}, w12.ownsRow B T s v n xs → v.ownBlock = some g → T = 84 := fun ho hv => by
      obtain ⟨_, ⟨rfl, _⟩ | ⟨g', cap, cur, rfl, _, hg', _⟩⟩ := ho
      · cases hv
      · have e1 : g' = g := by simpa [Value.ownBlock] using hv
        subst e1
        rw [hcs'] at hg'
        injection hg' with hg'
        injection hg' with _ h2 _
        exact h2.symm
    obtain ⟨j, hj⟩ := fam_cases q
    rcases hj with rfl | rfl | rfl | rfl <;> simp only [fam0, fam1, fam2, fam3] at hn
    · exact absurd (ty (F.reads j (by omega)) hn) (by decide)
    · exact absurd (ty (G.reads j (by omega)) hn) (by decide)
    · exact absurd (ty (F.writes j (by omega)) hn) (by decide)
    · exact absurd (ty (G.writes j (by omega)) hn) (by decide)
  refine ⟨c9, ⟨c9, y, hB, fun j hj _ => ?_, fun j hj _ => ?_, fun j hj _ => ?_, fun j hj _ => ?_, fun k _ e => ⟨e, rfl⟩, Nat.le_refl _⟩, fun k h1 h2 => hc3 k h1 (fun q hq hn => ?_), tab H hw3 h1012, tab h10 (by omega) h1012⟩
  · rw [fam0]; exact rw_ okS (4 * j) (by omega) (fam0 _ _ _ _ j) (by omega) (F.reads j hj)
  · rw [fam1]; exact rw_ okS (4 * j + 1) (by omega) (fam1 _ _ _ _ j) (by omega) (G.reads j hj)
  · rw [fam2]; exact rw_ okW (4 * j + 2) (by omega) (fam2 _ _ _ _ j) (by omega) (F.writes j hj)
  · rw [fam3]; exact rw_ okW (4 * j + 3) (by omega) (fam3 _ _ _ _ j) (by omega) (G.writes j hj)
  · obtain ⟨j, hj⟩ := fam_cases q
    rcases hj with rfl | rfl | rfl | rfl <;> simp only [fam0, fam1, fam2, fam3] at hn
    · have := r_lt j (by omega) k hn; omega
    · have := r_lt' j (by omega) k hn; omega
    · have := v_lt j (by omega) k hn; omega
    · have := v_lt' j (by omega) k hn; omega
end Go.Proofs.YthenfioddnkjbaaGreatDoor.Bg
/- shards: one kind of call. -/
namespace Go.Proofs.YthenfioddnkjbaaGreatDoor.Bg
open Go.RowKit Go.Sort Go.Stop Go.Proofs.YthenfioddnkjbaaGreatDoor Go.Proofs.YthenfioddnkjbaaGreatDoor.Rt
set_option linter.unusedVariables false

set_option maxRecDepth 16000 in
set_option maxHeartbeats 8000000 in
theorem shards_shares {W w : World} {x : Sx} {c : Nat → Nat} {b m : Nat} {y : B4v} (hP : PowTab W) (hx : x.Ok W) (h : B4 W w c b y m) (hk : x.kd = 7) (hm : m + 24 ≤ 1073741824) :
    Calls Tryz.prog 7 #[.agg x.cells, .pointer (some ⟨b, 0, none⟩)] w (After W b (m + 24)) := by
  have hxw := hx.later h.bl
  have hPw := hP.later h.bl
  obtain ⟨kd, t, ⟨sh, cl, a, cp, ss, ca, pk, wi⟩, ⟨lo, hi⟩, ra, rc, rs, wa, wc, ws⟩ := x
  have hk : kd = 7 := hk
  subst hk
  have hsl : ss.length ≤ 1048576 := hx.cl
  have hrl : rs.length ≤ 1048576 := hx.rl
  have hwl : ws.length ≤ 1048576 := hx.wl
  obtain ⟨wA, hwA⟩ : ∃ wA, wA = w.alloc (.cells #[.int .i64 7, .string t, .int .i64 sh, .int .i64 cl, .slice a ss.length cp, .int .i64 ca, .int .i64 pk, .int .u64 wi, .string lo, .string hi, .slice ra rs.length rc, .slice wa ws.length wc] 53) := ⟨_, rfl⟩
  have hbA : Below w.heap.size w wA := by rw [hwA]; (repeat (first | with_reducible exact Below.refl _ _ | with_reducible assumption | with_reducible refine Below.drew ?_ | with_reducible refine Below.al ?_ _ | with_reducible refine Below.setCell ?_ (by first | exact Nat.le_refl _ | (simp; omega) | (simp; done)) _ | with_reducible refine Below.on ?_ (by assumption)))
  have HS0 : BoxX wA w.heap.size ⟨7, t, ⟨sh, cl, a, cp, ss, ca, pk, wi⟩, ⟨lo, hi⟩, ra, rc, rs, wa, wc, ws⟩ := by rw [hwA]; exact BoxX.new w ⟨7, t, ⟨sh, cl, a, cp, ss, ca, pk, wi⟩, ⟨lo, hi⟩, ra, rc, rs, wa, wc, ws⟩ _
  have TW := hid (twinX_is (hxw.c.later hbA) (show ss.length ≤ 8796093022208 by omega) (hPw.later hbA))
  have HXW := hid hx; have HPW := hid hP
  have HX := hid hxw; have HP := hid hPw; have HB := hid h; have HBA := hid hbA; have HS0 := hid HS0
  clear hx h hP hxw hPw hbA
  go_enter Tryz.func7, Tryz.ntmps7
  go_wp2_with fail
  rw [← hwA]
  clear hwA
  refine TW.out.mono ?_
  rintro e w1 ⟨g, rfl, hrm, hg, hb1⟩
  obtain ⟨wB, hwB⟩ : ∃ wB, wB = w1.alloc (.cells #[.int .i64 sh, .int .i64 cl, .slice (some ⟨g, 0, none⟩) ss.length (ss.length + 2), .int .i64 ca, .int .i64 pk, .int .u64 wi] 26) := ⟨_, rfl⟩
  have hbB : Below w1.heap.size w1 wB := by rw [hwB]; (repeat (first | with_reducible exact Below.refl _ _ | with_reducible assumption | with_reducible refine Below.drew ?_ | with_reducible refine Below.al ?_ _ | with_reducible refine Below.setCell ?_ (by first | exact Nat.le_refl _ | (simp; omega) | (simp; done)) _ | with_reducible refine Below.on ?_ (by assumption)))
  have HC1 : Hid (BoxC wB w1.heap.size ⟨sh, cl, some ⟨g, 0, none⟩, ss.length + 2, ss, ca, pk, wi⟩) := hid (by rw [hwB]; exact BoxC.new w1 ⟨sh, cl, some ⟨g, 0, none⟩, ss.length + 2, ss, ca, pk, wi⟩ _)
  have HRM := hid (hrm.later hbB)
  have HWB : Hid (Below w.heap.size w wB) := hid (Below.on (Below.on HBA.out hb1) hbB)
  have HG : Hid (w.heap.size ≤ g) := hid (Nat.le_trans HBA.out.size hg)
  have HSB := hid ((HS0.out.later hb1).later hbB)
  have HOK : Hid (Cf.Ok ⟨sh, cl, some ⟨g, 0, none⟩, ss.length + 2, ss, ca, pk, wi⟩ wB) := hid ⟨HRM.out.row (xs := ss) (fun i hi => by unfold roomS; rw [if_pos hi]) (by omega), by simp; omega, HX.out.c.sh⟩
  have TC : Hid (∀ z, Below wB.heap.size wB z → Calls Tryz.prog 20 #[.agg #[.int .i64 sh, .int .i64 cl, .slice (some ⟨g, 0, none⟩) ss.length (ss.length + 2), .int .i64 ca, .int .i64 pk, .int .u64 wi], .agg #[.int .i64 7, .string t, .int .i64 sh, .int .i64 cl, .slice a ss.length cp, .int .i64 ca, .int .i64 pk, .int .u64 wi, .string lo, .string hi, .slice ra rs.length rc, .slice wa ws.length wc]] z fun e w' => e = .returned (.bool true) ∧ Below z.heap.size z w') := hid (fun z hb => by
    have := turnedC_is HX.out (Below.on HWB.out hb) HP.out (HRM.out.later hb) HG.out
    simp only [Cf.val, Sx.cells] at this
    exact this)
  have UC : Hid (∀ z, Below wB.heap.size wB z → Calls Tryz.prog 21 #[.agg #[.int .i64 sh, .int .i64 cl, .slice (some ⟨g, 0, none⟩) ss.length (ss.length + 2), .int .i64 ca, .int .i64 pk, .int .u64 wi], .agg #[.int .i64 sh, .int .i64 cl, .slice a ss.length cp, .int .i64 ca, .int .i64 pk, .int .u64 wi]] z fun e w' => e = .returned (.bool true) ∧ Below z.heap.size z w') := hid (fun z hb => by
    have := untC_is (c := ⟨sh, cl, a, cp, ss, ca, pk, wi⟩) (HRM.out.later hb) (HX.out.c.later (Below.on HWB.out hb)) (by show ss.length ≤ _; omega) (HP.out.later (Below.on HWB.out hb))
    simp only [Cf.val] at this
    exact this)
  clear hrm hg hb1 hbB TW
  obtain ⟨L, hL⟩ : ∃ L, L = Cf.shA ⟨sh, cl, a, cp, ss, ca, pk, wi⟩ rs ws := ⟨_, rfl⟩
  have hL6 : L.length ≤ 6 := by rw [hL]; exact shA_len _ _ _
  have HIN : Hid (∀ i, i < L.length → (nthSh L i).2.1.length ≤ 1073741824 ∧ (nthSh L i).2.2.length ≤ 1073741824) := hid (fun i hi => by
    rw [hL] at hi ⊢
    have := shA_in ⟨sh, cl, a, cp, ss, ca, pk, wi⟩ rs ws i hi
    omega)
  have RR := hid (roomX2_is (c := rc) (HX.out.r.later HWB.out) (show rs.length + 3 ≤ 8796093022208 by omega) (HP.out.later HWB.out))
  have RW : Hid (∀ z, Below wB.heap.size wB z → _) := hid (fun z hb => roomXW_is (c := wc) (HX.out.wr.later (Below.on HWB.out hb)) (show ws.length + 3 ≤ 7036874417766 by omega) (HP.out.later (Below.on HWB.out hb)))
  have S1 : Hid (∀ z gr gw, Below wB.heap.size wB z → Rm2 z gr (room2 rs) (rs.length + 3) → RmW z gw (roomW ws) (ws.length + 3) → Calls Tryz.prog 33 #[.agg #[.int .i64 sh, .int .i64 cl, .slice (some ⟨g, 0, none⟩) ss.length (ss.length + 2), .int .i64 ca, .int .i64 pk, .int .u64 wi], .slice (some ⟨gr, 0, none⟩) rs.length (rs.length + 3), .slice (some ⟨gw, 0, none⟩) ws.length (ws.length + 3)] z fun e w' => ∃ a cp, e = .returned (.slice a L.length cp) ∧ Hid (∃ vr vw, ShO w' z.heap.size a L vr vw) ∧ Below z.heap.size z w') := hid (fun z gr gw hb h1 h2 => by
    have := Shares_any (c := ⟨sh, cl, some ⟨g, 0, none⟩, ss.length + 2, ss, ca, pk, wi⟩) (rc := rs.length + 3) (wc := ws.length + 3) (HOK.out.later hb) (h1.row (xs := rs) (fun i hi => by unfold room2; rw [if_pos hi]) (by omega)) (h2.row (xs := ws) (fun i hi => by unfold roomW; rw [if_pos hi]) (by omega)) (by omega) (by omega)
    rw [show Cf.shA ⟨sh, cl, some ⟨g, 0, none⟩, ss.length + 2, ss, ca, pk, wi⟩ rs ws = L by rw [hL]; rfl] at this
    exact this)
  have S2 : Hid (∀ z, Below wB.heap.size wB z → Calls Tryz.prog 35 #[.agg #[.int .i64 sh, .int .i64 cl, .slice a ss.length cp, .int .i64 ca, .int .i64 pk, .int .u64 wi], .slice ra rs.length rc, .slice wa ws.length wc] z fun e w' => ∃ b k, e = .returned (.slice b L.length k) ∧ Hid (RowSh w' b L) ∧ Below z.heap.size z w') := hid (fun z hb => by
    have := rShares_any (c := ⟨sh, cl, a, cp, ss, ca, pk, wi⟩) (rc := rc) (wc := wc) (HX.out.c.later (Below.on HWB.out hb)) (HX.out.r.later (Below.on HWB.out hb)) (HX.out.wr.later (Below.on HWB.out hb)) (show rs.length ≤ 4398046511104 by omega) (show ws.length ≤ 3518437208883 by omega)
    rw [← hL] at this
    refine this.mono ?_
    rintro e w' ⟨⟨b, k, rfl, hr⟩, hb⟩
    exact ⟨b, k, rfl, hid hr, hb⟩)
  have S3 : Hid (∀ z (b1 b2 : Option Addr) (k1 k2 : Nat), RowSh z b1 L → RowSh z b2 L → Calls Tryz.prog 34 #[.slice b1 L.length k1, .slice b2 L.length k2] z fun e w' => e = .returned (.bool true) ∧ Below z.heap.size z w') := hid (fun z b1 b2 k1 k2 h1 h2 => by
    rw [hL] at h1 h2 ⊢
    exact sameShA h1 h2 hrl hwl)
  have TS : Hid (∀ z gr gw, Below wB.heap.size wB z → Rm2 z gr (room2 rs) (rs.length + 3) → RmW z gw (roomW ws) (ws.length + 3) → wB.heap.size ≤ gr → wB.heap.size ≤ gw → Calls Tryz.prog 38 #[.agg #[.int .i64 sh, .int .i64 cl, .slice (some ⟨g, 0, none⟩) ss.length (ss.length + 2), .int .i64 ca, .int .i64 pk, .int .u64 wi], .slice (some ⟨gr, 0, none⟩) rs.length (rs.length + 3), .slice (some ⟨gw, 0, none⟩) ws.length (ws.length + 3), .agg #[.int .i64 7, .string t, .int .i64 sh, .int .i64 cl, .slice a ss.length cp, .int .i64 ca, .int .i64 pk, .int .u64 wi, .string lo, .string hi, .slice ra rs.length rc, .slice wa ws.length wc]] z fun e w' => e = .returned (.bool true) ∧ Below z.heap.size z w') := hid (fun z gr gw hb h1 h2 h3 h4 => by
    have := turnedS_is HX.out (Below.on HWB.out hb) (HRM.out.later hb) h1 h2 (Nat.le_trans HWB.out.size h3) (Nat.le_trans HWB.out.size h4)
    simp only [Cf.val, Sx.cells] at this
    exact this)
  have UR : Hid (∀ z gr, Below W.heap.size W z → Rm2 z gr (room2 rs) (rs.length + 3) → Calls Tryz.prog 36 #[.slice (some ⟨gr, 0, none⟩) rs.length (rs.length + 3), .slice ra rs.length rc] z fun e w' => e = .returned (.bool true) ∧ Below z.heap.size z w') := hid (fun z gr hb hr => unt2_is (c := rc) hr (HXW.out.r.later hb) (show rs.length ≤ 1073741824 by omega) (HPW.out.later hb))
  have UW : Hid (∀ z gw, Below W.heap.size W z → RmW z gw (roomW ws) (ws.length + 3) → Calls Tryz.prog 37 #[.slice (some ⟨gw, 0, none⟩) ws.length (ws.length + 3), .slice wa ws.length wc] z fun e w' => e = .returned (.bool true) ∧ Below z.heap.size z w') := hid (fun z gw hb hr => untW_is (c := wc) hr (HXW.out.wr.later hb) (show ws.length ≤ 1073741824 by omega) (HPW.out.later hb))
  have HBLW := hid HB.out.bl
  clear hL
  obtain ⟨c0, c1, c2, c3, c4, c5⟩ := HC1.out
  obtain ⟨s0, s1, s2, s3, s4, s5, s6, s7, s8, s9, s10, s11⟩ := HSB.out
  simp only at c0 c1 c2 c3 c4 c5 s0 s1 s2 s3 s4 s5 s6 s7 s8 s9 s10 s11
  have HL0 : Hid (w.heap.size < wB.heap.size) := hid (World.block_lt_of_cell? _ _ s0)
  rw [hwB] at s0 s10
  go_wp2_with fail
  rw [← hwB] at s0 s10 ⊢
  clear hwB
  refine RR.out.mono ?_
  rintro e w2 ⟨gr, rfl, hr2, hgr, hb2⟩
  replace c0 := cell_later hb2 c0; replace c1 := cell_later hb2 c1; replace c2 := cell_later hb2 c2; replace c3 := cell_later hb2 c3; replace c4 := cell_later hb2 c4; replace c5 := cell_later hb2 c5; replace s0 := cell_later hb2 s0; replace s1 := cell_later hb2 s1; replace s2 := cell_later hb2 s2; replace s3 := cell_later hb2 s3; replace s4 := cell_later hb2 s4; replace s5 := cell_later hb2 s5; replace s6 := cell_later hb2 s6; replace s7 := cell_later hb2 s7; replace s8 := cell_later hb2 s8; replace s9 := cell_later hb2 s9; replace s10 := cell_later hb2 s10; replace s11 := cell_later hb2 s11
  have RW2 := hid (RW.out w2 hb2)
  have HR2 := hid hr2; have HB2 := hid hb2; have HGR := hid hgr
  clear hr2 hb2 hgr RR RW
  go_wp2_with fail
  refine RW2.out.mono ?_
  rintro e w3 ⟨gw, rfl, hw3, hgw, hb3⟩
  replace c0 := cell_later hb3 c0; replace c1 := cell_later hb3 c1; replace c2 := cell_later hb3 c2; replace c3 := cell_later hb3 c3; replace c4 := cell_later hb3 c4; replace c5 := cell_later hb3 c5; replace s0 := cell_later hb3 s0; replace s1 := cell_later hb3 s1; replace s2 := cell_later hb3 s2; replace s3 := cell_later hb3 s3; replace s4 := cell_later hb3 s4; replace s5 := cell_later hb3 s5; replace s6 := cell_later hb3 s6; replace s7 := cell_later hb3 s7; replace s8 := cell_later hb3 s8; replace s9 := cell_later hb3 s9; replace s10 := cell_later hb3 s10; replace s11 := cell_later hb3 s11
  have HB3 := hid (Below.on HB2.out hb3)
  have HR3 := hid (HR2.out.later hb3); have HW3 := hid hw3
  have HGW : Hid (wB.heap.size ≤ gw) := hid (Nat.le_trans HB2.out.size hgw)
  have S13 := hid (S1.out w3 gr gw HB3.out HR3.out HW3.out)
  clear hw3 hgw hb3 RW2
  go_wp2_with fail
  refine S13.out.mono ?_
  rintro e w4 ⟨a4, k4, rfl, HS4, hb4⟩
  replace c0 := cell_later hb4 c0; replace c1 := cell_later hb4 c1; replace c2 := cell_later hb4 c2; replace c3 := cell_later hb4 c3; replace c4 := cell_later hb4 c4; replace c5 := cell_later hb4 c5; replace s0 := cell_later hb4 s0; replace s1 := cell_later hb4 s1; replace s2 := cell_later hb4 s2; replace s3 := cell_later hb4 s3; replace s4 := cell_later hb4 s4; replace s5 := cell_later hb4 s5; replace s6 := cell_later hb4 s6; replace s7 := cell_later hb4 s7; replace s8 := cell_later hb4 s8; replace s9 := cell_later hb4 s9; replace s10 := cell_later hb4 s10; replace s11 := cell_later hb4 s11
  obtain ⟨vr, vw, hs4⟩ := HS4.out
  have HS4 := hid hs4
  have HB4 := hid (Below.on HB3.out hb4); have H34 := hid hb4
  have S24 := hid (S2.out w4 HB4.out)
  clear hb4 S13 hs4
  go_wp2_with (first
    | (go_at_call 35; refine S24.out.mono ?_; rintro e w5 ⟨b5, k5, rfl, HR5, hb5⟩; replace c0 := cell_later hb5 c0; replace c1 := cell_later hb5 c1; replace c2 := cell_later hb5 c2; replace c3 := cell_later hb5 c3; replace c4 := cell_later hb5 c4; replace c5 := cell_later hb5 c5; replace s0 := cell_later hb5 s0; replace s1 := cell_later hb5 s1; replace s2 := cell_later hb5 s2; replace s3 := cell_later hb5 s3; replace s4 := cell_later hb5 s4; replace s5 := cell_later hb5 s5; replace s6 := cell_later hb5 s6; replace s7 := cell_later hb5 s7; replace s8 := cell_later hb5 s8; replace s9 := cell_later hb5 s9; replace s10 := cell_later hb5 s10; replace s11 := cell_later hb5 s11; have H45 := hid hb5; have HB5 := hid (Below.on HB4.out hb5); have S35 := hid (S3.out w5 a4 b5 k4 k5 (HS4.out.row.later hb5) HR5.out); clear hb5)
    | (go_at_call 34; refine S35.out.mono ?_; rintro e w6 ⟨rfl, hb6⟩; replace c0 := cell_later hb6 c0; replace c1 := cell_later hb6 c1; replace c2 := cell_later hb6 c2; replace c3 := cell_later hb6 c3; replace c4 := cell_later hb6 c4; replace c5 := cell_later hb6 c5; replace s0 := cell_later hb6 s0; replace s1 := cell_later hb6 s1; replace s2 := cell_later hb6 s2; replace s3 := cell_later hb6 s3; replace s4 := cell_later hb6 s4; replace s5 := cell_later hb6 s5; replace s6 := cell_later hb6 s6; replace s7 := cell_later hb6 s7; replace s8 := cell_later hb6 s8; replace s9 := cell_later hb6 s9; replace s10 := cell_later hb6 s10; replace s11 := cell_later hb6 s11; have H46 := hid (Below.on H45.out hb6); have HB6 := hid (Below.on HB5.out hb6); have UC6 := hid (UC.out w6 HB6.out); clear hb6)
    | (go_at_call 21; refine UC6.out.mono ?_; rintro e w7 ⟨rfl, hb7⟩; replace c0 := cell_later hb7 c0; replace c1 := cell_later hb7 c1; replace c2 := cell_later hb7 c2; replace c3 := cell_later hb7 c3; replace c4 := cell_later hb7 c4; replace c5 := cell_later hb7 c5; replace s0 := cell_later hb7 s0; replace s1 := cell_later hb7 s1; replace s2 := cell_later hb7 s2; replace s3 := cell_later hb7 s3; replace s4 := cell_later hb7 s4; replace s5 := cell_later hb7 s5; replace s6 := cell_later hb7 s6; replace s7 := cell_later hb7 s7; replace s8 := cell_later hb7 s8; replace s9 := cell_later hb7 s9; replace s10 := cell_later hb7 s10; replace s11 := cell_later hb7 s11; have H47 := hid (Below.on H46.out hb7); have HB7 := hid (Below.on HB6.out hb7); have UR7 := hid (UR.out w7 gr (Below.on HBLW.out (Below.on HWB.out HB7.out)) (HR3.out.later (Below.on H34.out H47.out))); clear hb7)
    | (go_at_call 36; refine UR7.out.mono ?_; rintro e w8 ⟨rfl, hb8⟩; replace c0 := cell_later hb8 c0; replace c1 := cell_later hb8 c1; replace c2 := cell_later hb8 c2; replace c3 := cell_later hb8 c3; replace c4 := cell_later hb8 c4; replace c5 := cell_later hb8 c5; replace s0 := cell_later hb8 s0; replace s1 := cell_later hb8 s1; replace s2 := cell_later hb8 s2; replace s3 := cell_later hb8 s3; replace s4 := cell_later hb8 s4; replace s5 := cell_later hb8 s5; replace s6 := cell_later hb8 s6; replace s7 := cell_later hb8 s7; replace s8 := cell_later hb8 s8; replace s9 := cell_later hb8 s9; replace s10 := cell_later hb8 s10; replace s11 := cell_later hb8 s11; have H48 := hid (Below.on H47.out hb8); have HB8 := hid (Below.on HB7.out hb8); have UW8 := hid (UW.out w8 gw (Below.on HBLW.out (Below.on HWB.out HB8.out)) (HW3.out.later (Below.on H34.out H48.out))); clear hb8)
    | (go_at_call 37; refine UW8.out.mono ?_; rintro e w9 ⟨rfl, hb9⟩; replace c0 := cell_later hb9 c0; replace c1 := cell_later hb9 c1; replace c2 := cell_later hb9 c2; replace c3 := cell_later hb9 c3; replace c4 := cell_later hb9 c4; replace c5 := cell_later hb9 c5; replace s0 := cell_later hb9 s0; replace s1 := cell_later hb9 s1; replace s2 := cell_later hb9 s2; replace s3 := cell_later hb9 s3; replace s4 := cell_later hb9 s4; replace s5 := cell_later hb9 s5; replace s6 := cell_later hb9 s6; replace s7 := cell_later hb9 s7; replace s8 := cell_later hb9 s8; replace s9 := cell_later hb9 s9; replace s10 := cell_later hb9 s10; replace s11 := cell_later hb9 s11; have H49 := hid (Below.on H48.out hb9); have HB9 := hid (Below.on HB8.out hb9); have S19 := hid (S1.out w9 gr gw HB9.out (HR3.out.later (Below.on H34.out H49.out)) (HW3.out.later (Below.on H34.out H49.out))); clear hb9))
  refine S19.out.mono ?_
  rintro e w10 ⟨a10, k10, rfl, HS10, hb10⟩
  replace c0 := cell_later hb10 c0; replace c1 := cell_later hb10 c1; replace c2 := cell_later hb10 c2; replace c3 := cell_later hb10 c3; replace c4 := cell_later hb10 c4; replace c5 := cell_later hb10 c5; replace s0 := cell_later hb10 s0; replace s1 := cell_later hb10 s1; replace s2 := cell_later hb10 s2; replace s3 := cell_later hb10 s3; replace s4 := cell_later hb10 s4; replace s5 := cell_later hb10 s5; replace s6 := cell_later hb10 s6; replace s7 := cell_later hb10 s7; replace s8 := cell_later hb10 s8; replace s9 := cell_later hb10 s9; replace s10 := cell_later hb10 s10; replace s11 := cell_later hb10 s11
  obtain ⟨vr', vw', hs10⟩ := HS10.out
  have HS10 := hid hs10
  have HB10 := hid (Below.on HB9.out hb10); have H410 := hid (Below.on H49.out hb10)
  have S310 := hid (S3.out w10 a10 a4 k10 k4 HS10.out.row (HS4.out.row.later H410.out))
  clear hb10 hs10 S19
  go_wp2_with (first
    | (go_at_call 34; refine S310.out.mono ?_; rintro e w11 ⟨rfl, hb11⟩; replace c0 := cell_later hb11 c0; replace c1 := cell_later hb11 c1; replace c2 := cell_later hb11 c2; replace c3 := cell_later hb11 c3; replace c4 := cell_later hb11 c4; replace c5 := cell_later hb11 c5; replace s0 := cell_later hb11 s0; replace s1 := cell_later hb11 s1; replace s2 := cell_later hb11 s2; replace s3 := cell_later hb11 s3; replace s4 := cell_later hb11 s4; replace s5 := cell_later hb11 s5; replace s6 := cell_later hb11 s6; replace s7 := cell_later hb11 s7; replace s8 := cell_later hb11 s8; replace s9 := cell_later hb11 s9; replace s10 := cell_later hb11 s10; replace s11 := cell_later hb11 s11; have H1011 := hid hb11; have HB11 := hid (Below.on HB10.out hb11); have TS11 := hid (TS.out w11 gr gw HB11.out (HR3.out.later (Below.on (Below.on H34.out H410.out) hb11)) (HW3.out.later (Below.on (Below.on H34.out H410.out) hb11)) HGR.out HGW.out); clear hb11)
    | (go_at_call 38; refine TS11.out.mono ?_; rintro e w12 ⟨rfl, hb12⟩; replace c0 := cell_later hb12 c0; replace c1 := cell_later hb12 c1; replace c2 := cell_later hb12 c2; replace c3 := cell_later hb12 c3; replace c4 := cell_later hb12 c4; replace c5 := cell_later hb12 c5; replace s0 := cell_later hb12 s0; replace s1 := cell_later hb12 s1; replace s2 := cell_later hb12 s2; replace s3 := cell_later hb12 s3; replace s4 := cell_later hb12 s4; replace s5 := cell_later hb12 s5; replace s6 := cell_later hb12 s6; replace s7 := cell_later hb12 s7; replace s8 := cell_later hb12 s8; replace s9 := cell_later hb12 s9; replace s10 := cell_later hb12 s10; replace s11 := cell_later hb12 s11; have H1012 := hid (Below.on H1011.out hb12); have HB12 := hid (Below.on HB11.out hb12); clear hb12))
  obtain ⟨F, hF⟩ : ∃ F, F = fam vr vr' vw vw' := ⟨_, rfl⟩
  obtain ⟨c9, hq9, hz9, ht4, ht10⟩ := Lq.start HB.out (Below.on HWB.out HB12.out) HS4.out H410.out HS10.out H1012.out (Nat.le_trans HWB.out.size HB3.out.size) H34.out.size H49.out.size
  rw [← hF] at hq9
  have LQ0 := hid hq9
  have HT4 := hid ht4; have HT10 := hid ht10
  have H412 : Hid (Below w4.heap.size w4 w12) := hid (Below.on H410.out H1012.out)
  have HR12 : Hid (Rm2 w12 gr (room2 rs) (rs.length + 3)) := hid (HR3.out.later (Below.on H34.out H412.out))
  have HW12 : Hid (RmW w12 gw (roomW ws) (ws.length + 3)) := hid (HW3.out.later (Below.on H34.out H412.out))
  have hz3 : w3.heap.size ≤ w12.heap.size := Nat.le_trans H34.out.size H412.out.size
  have ZR : Hid (gr < w12.heap.size ∧ c9 gr = 0) := hid ⟨HR12.out.blk.lt, hz9 gr (Nat.le_trans HWB.out.size HGR.out) HR3.out.blk.lt⟩
  have ZW : Hid (gw < w12.heap.size ∧ c9 gw = 0) := hid ⟨HW12.out.blk.lt, hz9 gw (Nat.le_trans HWB.out.size HGW.out) HW3.out.blk.lt⟩
  have ZS : Hid (w.heap.size < w12.heap.size ∧ c9 w.heap.size = 0) := hid ⟨by have := HL0.out; have := HB3.out.size; omega, hz9 _ (Nat.le_refl _) (by have := HL0.out; have := HB3.out.size; omega)⟩
  have Y10 := hid s10; have Y11 := hid s11
  have HF0 : Hid (∀ j, F (4 * j) = vr j ∧ F (4 * j + 1) = vr' j ∧ F (4 * j + 2) = vw j ∧ F (4 * j + 3) = vw' j) := hid (fun j => by rw [hF]; exact ⟨fam0 _ _ _ _ j, fam1 _ _ _ _ j, fam2 _ _ _ _ j, fam3 _ _ _ _ j⟩)
  clear hF hq9 hz9 ht4 ht10 hz3 c0 c1 c2 c3 c4 c5 s0 s1 s2 s3 s4 s5 s6 s7 s8 s9 s10 s11
  go_loopg [12] L.length (fun gg s12 wr => ∃ i : Nat, i ≤ L.length ∧ gg = L.length - i ∧ s12 = .int .i64 i ∧ Hid (Lq W w12 wr c9 b m L F (4 * i)))
  case atStart => exact ⟨0, by omega, by omega, rfl, LQ0⟩
  case round =>
    obtain ⟨i, hi, rfl, rfl, LQ⟩ := hrel
    clear LQ0
    by_cases hlt : i < L.length
    · obtain ⟨g4, rfl, hl4, hz4⟩ := HT4.out i hlt
      obtain ⟨g10, rfl, hl10, hz10⟩ := HT10.out i hlt
      obtain ⟨q4, e4, -, -, -, u41, u42, -⟩ := (HS4.out.later H412.out).cells i hlt
      obtain ⟨q10, e10, -, -, -, u101, u102, -⟩ := (HS10.out.later H1012.out).cells i hlt
      obtain rfl : g4 = q4 := congrArg Addr.block (Option.some.inj e4)
      obtain rfl : g10 = q10 := congrArg Addr.block (Option.some.inj e10)
      obtain ⟨r0a, r0c, f0⟩ := owns_slice (HS4.out.reads i hlt)
      obtain ⟨r1a, r1c, f1⟩ := owns_slice (HS10.out.reads i hlt)
      obtain ⟨r2a, r2c, f2⟩ := owns_slice (HS4.out.writes i hlt)
      obtain ⟨r3a, r3c, f3⟩ := owns_slice (HS10.out.writes i hlt)
      obtain ⟨v0, v1, v2, v3⟩ := HF0.out i
      rw [f0] at u41 v0
      rw [f1] at u101 v1
      rw [f2] at u42 v2
      rw [f3] at u102 v3
      obtain ⟨hn1, hn2⟩ := HIN.out i hlt
      have hdr : Below wr.heap.size wr wr.drew := Below.drew (Below.refl _ _)
      have K0 := (LQ.out.later hdr).keep0 hlt hL6 hm hn1
      rw [v0] at K0
      have y0 := (LQ.out.later hdr).cell hl4 hz4 u41
      have U1 := hid u101; have U2 := hid u42; have U3 := hid u102; have U0 := hid u41
      have V1 := hid v1; have V2 := hid v2; have V3 := hid v3
      have Z4 : Hid (g4 < w12.heap.size ∧ c9 g4 = 0) := hid ⟨hl4, hz4⟩
      have Z10 : Hid (g10 < w12.heap.size ∧ c9 g10 = 0) := hid ⟨hl10, hz10⟩
      have HN1 := hid hn1; have HN2 := hid hn2
      generalize (nthSh L i).2.1.length = n1 at K0 y0 U0 U1 V1
      generalize (nthSh L i).2.2.length = n2 at U2 U3 V2 V3
      have K0 := hid K0
      have hI : (i : Int) < (L.length : Int) := by omega
      clear e4 e10 u41 u101 u42 u102 f0 f1 f2 f3 v0 v1 v2 v3 hl4 hz4 hl10 hz10 hn1 hn2 hdr
      go_upto_region 26 with fail
      go_region_held3 (fun z => z.cell? ⟨g4, i * 3 + 1, none⟩ = some (.slice r0a n1 r0c))
        ((first | exact y0 | exact y0b))
        ((go_at_call 39; refine K0.out.mono ?_; rintro e wk0 ⟨rfl, LQ1⟩; have y0b := LQ1.out.cell Z4.out.1 Z4.out.2 U0.out))
      have hdr : Below wk0.heap.size wk0 wk0.drew := Below.drew (Below.refl _ _)
      have K1 := (LQ1.out.later hdr).keep1 hlt hL6 hm HN1.out
      rw [V1.out] at K1
      have K1 := hid K1
      have y1 := (LQ1.out.later hdr).cell Z10.out.1 Z10.out.2 U1.out
      clear hdr y0 y0b K0
      go_upto_region 27 with fail
      go_region_held3 (fun z => z.cell? ⟨g10, i * 3 + 1, none⟩ = some (.slice r1a n1 r1c))
        ((first | exact y1 | exact y1b))
        ((go_at_call 39; refine K1.out.mono ?_; rintro e wk1 ⟨rfl, LQ2⟩; have y1b := LQ2.out.cell Z10.out.1 Z10.out.2 U1.out))
      have hdr : Below wk1.heap.size wk1 wk1.drew := Below.drew (Below.refl _ _)
      have K2 := (LQ2.out.later hdr).keep2 hlt hL6 hm HN2.out
      rw [V2.out] at K2
      have K2 := hid K2
      have y2 := (LQ2.out.later hdr).cell Z4.out.1 Z4.out.2 U2.out
      clear hdr y1 y1b K1
      go_upto_region 28 with fail
      go_region_held3 (fun z => z.cell? ⟨g4, i * 3 + 2, none⟩ = some (.slice r2a n2 r2c))
        ((first | exact y2 | exact y2b))
        ((go_at_call 40; refine K2.out.mono ?_; rintro e wk2 ⟨rfl, LQ3⟩; have y2b := LQ3.out.cell Z4.out.1 Z4.out.2 U2.out))
      have hdr : Below wk2.heap.size wk2 wk2.drew := Below.drew (Below.refl _ _)
      have K3 := (LQ3.out.later hdr).keep3 hlt hL6 hm HN2.out
      rw [V3.out] at K3
      have K3 := hid K3
      have y3 := (LQ3.out.later hdr).cell Z10.out.1 Z10.out.2 U3.out
      clear hdr y2 y2b K2
      go_upto_region 29 with fail
      go_region_held3 (fun z => z.cell? ⟨g10, i * 3 + 2, none⟩ = some (.slice r3a n2 r3c))
        ((first | exact y3 | exact y3b))
        ((go_at_call 40; refine K3.out.mono ?_; rintro e wk3 ⟨rfl, LQ4⟩; have y3b := LQ4.out.cell Z10.out.1 Z10.out.2 U3.out))
      clear y3 y3b K3
      go_wp2_with fail
      go_roundg (L.length - (i + 1))
      case measure => omega
      case rel => exact ⟨i + 1, by omega, rfl, by go_num, LQ4⟩
    · obtain rfl : i = L.length := by omega
      have y10 := LQ.out.cell ZS.out.1 ZS.out.2 Y10.out
      have y11 := LQ.out.cell ZS.out.1 ZS.out.2 Y11.out
      have HBR : Hid (Below W.heap.size W wr) := hid (by obtain ⟨ci, xi, h⟩ := LQ.out; exact h.b4.bl)
      have HRr : Hid (Rm2 wr gr (room2 rs) (rs.length + 3)) := hid (by obtain ⟨ci, xi, h⟩ := LQ.out; exact HR12.out.keep (h.z gr ZR.out.1 ZR.out.2).2)
      have HWr : Hid (RmW wr gw (roomW ws) (ws.length + 3)) := hid (by obtain ⟨ci, xi, h⟩ := LQ.out; exact HW12.out.keep (h.z gw ZW.out.1 ZW.out.2).2)
      have URr := hid (UR.out wr gr HBR.out HRr.out)
      go_wp2_with (go_at_call 36; refine URr.out.mono ?_; rintro e wu ⟨rfl, hbu⟩; replace y10 := cell_later hbu y10; replace y11 := cell_later hbu y11; have HBU := hid hbu; have UWr := hid (UW.out wu gw (Below.on HBR.out hbu) (HWr.out.later hbu)); clear hbu)
      refine UWr.out.mono ?_
      rintro e wv ⟨rfl, hbv⟩
      have HE := hid ((LQ.out.later (Below.on HBU.out hbv)).done (by omega))
      clear hbv y10 y11
      go_wp2_with fail
      go_ret
      exact ⟨rfl, HE⟩
end Go.Proofs.YthenfioddnkjbaaGreatDoor.Bg
