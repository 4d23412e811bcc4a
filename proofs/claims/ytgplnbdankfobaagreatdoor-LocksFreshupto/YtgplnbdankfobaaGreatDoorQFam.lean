import Derived.Test.YtgplnbdankfobaaGreatDoorLKeep
/- Families of rows that lie apart; a row gone on with. Rows of any type (cells told flat). -/
namespace Go.Proofs.YtgplnbdankfobaaGreatDoor.Fam
open Go.RowKit
set_option linter.unusedVariables false

/-- two rows in unlike blocks -/
def Ap (v u : Value) : Prop := v.ownBlock = none ∨ v.ownBlock ≠ u.ownBlock
theorem Ap.symm {v u : Value} (h : Ap v u) : Ap u v := by
  rcases h with h | h
  · by_cases e : u.ownBlock = none
    · exact .inl e
    · exact .inr (fun k => e (k.trans h))
  · exact .inr fun e => h e.symm
def Near (w : World) (v v' : Value) : Prop := v'.ownBlock = v.ownBlock ∨ ∃ k, v'.ownBlock = some k ∧ w.heap.size ≤ k
theorem grow_refl (w : World) (row : Option Nat) : w.grownBy w row := ⟨rfl, rfl, rfl, Nat.le_refl _, fun _ _ _ => rfl⟩
theorem grow_of {w w' : World} (hb : Below w.heap.size w w') (row : Option Nat) : w.grownBy w' row := ⟨hb.os, hb.tape, hb.output, hb.size, fun k hk _ => hb.block k hk⟩
theorem grow_trans {w w' w'' : World} {row row' : Option Nat} (h : w.grownBy w' row) (h' : w'.grownBy w'' row') (hr : row' = row ∨ ∀ k, row' = some k → w.heap.size ≤ k) : w.grownBy w'' row :=
  ⟨h'.os.trans h.os, h'.tape.trans h.tape, h'.output.trans h.output, Nat.le_trans h.size h'.size, fun k hk hn => by
    rw [h'.block k (Nat.lt_of_lt_of_le hk h.size) (fun e => by
      rcases hr with e2 | e2
      · exact hn (e.trans e2)
      · have := e2 k e.symm; omega), h.block k hk hn]⟩
theorem row_type {w : World} {B n size : Nat} {e : TypeId} {v : Value} {xs : List Value} (h : w.ownsRow B e size v n xs) {g : Nat} (hg : v.ownBlock = some g) : ∃ cur, w.heap[g]? = some (.cells cur e (0, 0)) := by
  obtain ⟨_, ⟨e1, _⟩ | ⟨g', cap, cur, e1, _, hh, _⟩⟩ := h
  · subst e1; simp [Value.ownBlock] at hg
  · subst e1; simp [Value.ownBlock] at hg; subst hg; exact ⟨cur, hh⟩
theorem Ap.types {w : World} {B B' n n' size size' : Nat} {e e' : TypeId} {v v' : Value} {xs xs' : List Value} (h : w.ownsRow B e size v n xs) (h' : w.ownsRow B' e' size' v' n' xs') (hne : e ≠ e') : Ap v v' := by
  by_cases h0 : v.ownBlock = none
  · exact .inl h0
  · refine .inr fun k => ?_
    obtain ⟨g, hg⟩ := Option.ne_none_iff_exists'.1 h0
    obtain ⟨c1, e1⟩ := row_type h hg
    obtain ⟨c2, e2⟩ := row_type h' (k.symm.trans hg)
    rw [e1] at e2
    injection e2 with e2
    injection e2 with _ e2
    exact hne e2
theorem row_later {w w' : World} {B n size : Nat} {e : TypeId} {v : Value} {xs : List Value} (h : w.ownsRow B e size v n xs) (hb : Below w.heap.size w w') : w'.ownsRow B e size v n xs := by
  obtain ⟨h1, h2 | ⟨g, cap, cur, e1, hB, hg, h3⟩⟩ := h
  · exact ⟨h1, .inl h2⟩
  · exact ⟨h1, .inr ⟨g, cap, cur, e1, hB, (hb.block g (Array.getElem?_eq_some_iff.1 hg).1).trans hg, h3⟩⟩
theorem row_block {w : World} {B n size : Nat} {e : TypeId} {v : Value} {xs : List Value} (h : w.ownsRow B e size v n xs) (h0 : 0 < n) : ∃ g c, v = .slice (some ⟨g, 0, none⟩) n c ∧ n ≤ c := by
  obtain ⟨_, ⟨_, e2⟩ | ⟨g, cap, cur, e1, _, _, hc, _⟩⟩ := h
  · omega
  · exact ⟨g, cap, e1, hc⟩
theorem row_slice {w : World} {B n size : Nat} {e : TypeId} {v : Value} {xs : List Value} (h : w.ownsRow B e size v n xs) : ∃ a c, v = .slice a n c ∧ n ≤ c := by
  obtain ⟨_, ⟨e1, e2⟩ | ⟨g, cap, cur, e1, _, _, hc, _⟩⟩ := h
  · exact ⟨none, 0, by rw [e1, e2], by omega⟩
  · exact ⟨_, cap, e1, hc⟩

/-- a row that is gone on with while its beginning stays -/
structure Lgr (e : TypeId) (size : Nat) (w wr : World) (B : Nat) (v vk : Value) (n m : Nat) (xs ys : List Value) : Prop where
  own : wr.ownsRow B e size vk (n + m) (xs ++ ys)
  old : wr.ownsRow B e size v n xs
  gr : w.grownBy wr v.ownBlock
  near : Near w v vk
section
variable {e : TypeId} {size : Nat} {w wr wr' : World} {B : Nat} {v vk v' : Value} {n m : Nat} {xs ys zs : List Value}
theorem Lgr.start (h : w.ownsRow B e size v n xs) : Lgr e size w w B v v n 0 xs [] := ⟨by rw [List.append_nil]; exact h, h, grow_refl _ _, .inl rfl⟩
theorem Lgr.later (h : Lgr e size w wr B v vk n m xs ys) (hb : Below wr.heap.size wr wr') : Lgr e size w wr' B v vk n m xs ys :=
  ⟨row_later h.own hb, row_later h.old hb, grow_trans h.gr (grow_of hb v.ownBlock) (.inl rfl), h.near⟩
theorem Lgr.pre {w0 : World} (h : Lgr e size w wr B v vk n m xs ys) (hb : Below w0.heap.size w0 w) : Lgr e size w0 wr B v vk n m xs ys :=
  ⟨h.own, h.old, grow_trans (grow_of hb _) h.gr (.inl rfl), h.near.imp id (fun ⟨k, e, hk⟩ => ⟨k, e, Nat.le_trans hb.size hk⟩)⟩
theorem Lgr.step (h : Lgr e size w wr B v vk n m xs ys) (hsz : 0 < size) (ho : wr'.ownsRow B e size v' (n + m + 1) (xs ++ ys ++ zs)) (hgr : wr.grownBy wr' vk.ownBlock) (hkk : wr'.ownsRow B e size vk (n + m) (xs ++ ys)) (hn : v'.ownBlock = vk.ownBlock ∨ ∃ k, v'.ownBlock = some k ∧ wr.heap.size ≤ k) : Lgr e size w wr' B v v' n (m + 1) xs (ys ++ zs) := by
  have hs := h.gr.size
  refine ⟨by rw [← List.append_assoc]; exact ho, ?_, ?_, ?_⟩
  · by_cases e : vk.ownBlock = v.ownBlock
    · exact owns_head hsz h.old h.own hkk e
    · exact World.ownsRow.kept h.old hgr (.inr fun e' => e e'.symm)
  · refine grow_trans h.gr hgr ?_
    rcases h.near with e | ⟨k, e, hk⟩
    · exact .inl e
    · exact .inr fun j hj => by rw [e] at hj; injection hj with hj; omega
  · rcases hn with e | ⟨k, e, hk⟩
    · rcases h.near with e' | ⟨k, e', hk⟩
      · exact .inl (e.trans e')
      · exact .inr ⟨k, e.trans e', hk⟩
    · exact .inr ⟨k, e, by omega⟩
/-- while another row grows -/
theorem Lgr.off {row : Option Nat} (h : Lgr e size w wr B v vk n m xs ys) (hg : wr.grownBy wr' row) (h1 : v.ownBlock = none ∨ v.ownBlock ≠ row) (h2 : vk.ownBlock = none ∨ vk.ownBlock ≠ row) (hgr : w.grownBy wr' v.ownBlock) : Lgr e size w wr' B v vk n m xs ys :=
  ⟨World.ownsRow.kept h.own hg h2, World.ownsRow.kept h.old hg h1, hgr, h.near⟩
end

/-- n rows of one type, each in a block of its own -/
structure Fm (e : TypeId) (size : Nat) (B : Nat) (w : World) (n : Nat) (rv : Nat → Value) (ln : Nat → Nat) (xs : Nat → List Value) : Prop where
  own : ∀ i, i < n → w.ownsRow B e size (rv i) (ln i) (xs i)
  ap : ∀ i j, i < n → j < n → i ≠ j → Ap (rv i) (rv j)
def up {α : Type} (f : Nat → α) (i : Nat) (x : α) : Nat → α := fun j => if j = i then x else f j
theorem up_same {α : Type} (f : Nat → α) (i : Nat) (x : α) : up f i x i = x := by simp [up]
theorem up_other {α : Type} (f : Nat → α) {i j : Nat} (x : α) (h : j ≠ i) : up f i x j = f j := by simp [up, h]
section
variable {e e' : TypeId} {size size' : Nat} {w w' : World} {B B' : Nat} {n m : Nat} {rv : Nat → Value} {ln : Nat → Nat} {xs : Nat → List Value}
theorem Fm.later (h : Fm e size B w n rv ln xs) (hb : Below w.heap.size w w') : Fm e size B w' n rv ln xs := ⟨fun i hi => row_later (h.own i hi) hb, h.ap⟩
theorem Fm.kept {row : Option Nat} (h : Fm e size B w n rv ln xs) (hg : w.grownBy w' row) (hr : ∀ i, i < n → (rv i).ownBlock = none ∨ (rv i).ownBlock ≠ row) : Fm e size B w' n rv ln xs :=
  ⟨fun i hi => World.ownsRow.kept (h.own i hi) hg (hr i hi), h.ap⟩
/-- a row of another type grows -/
theorem Fm.other {v : Value} {k : Nat} {zs : List Value} (h : Fm e size B w n rv ln xs) (hv : w.ownsRow B' e' size' v k zs) (hne : e ≠ e') (hg : w.grownBy w' v.ownBlock) : Fm e size B w' n rv ln xs :=
  h.kept hg fun i hi => Ap.types (h.own i hi) hv hne
/-- one of its rows is written into -/
theorem Fm.one (h : Fm e size B w n rv ln xs) {i : Nat} (hi : i < n) {zs : List Value} (hg : w.grownBy w' (rv i).ownBlock) (ho : w'.ownsRow B e size (rv i) (ln i) zs) : Fm e size B w' n rv ln (up xs i zs) :=
  ⟨fun j hj => by
    by_cases hji : j = i
    · subst hji; rw [up_same]; exact ho
    · rw [up_other _ _ hji]; exact World.ownsRow.kept (h.own j hj) hg (h.ap j i hj hi hji), h.ap⟩
theorem Fm.congr {ys : Nat → List Value} (h : Fm e size B w n rv ln xs) (hy : ∀ i, i < n → ys i = xs i) : Fm e size B w n rv ln ys := ⟨fun i hi => by rw [hy i hi]; exact h.own i hi, h.ap⟩
/-- one more row, in a block that is none of theirs -/
theorem Fm.more (h : Fm e size B w n rv ln xs) {v : Value} {k : Nat} {zs : List Value} (hv : w.ownsRow B e size v k zs) (ha : ∀ i, i < n → Ap v (rv i)) : Fm e size B w (n + 1) (up rv n v) (up ln n k) (up xs n zs) := by
  refine ⟨fun i hi => ?_, fun i j hi hj hne => ?_⟩
  · by_cases e : i = n
    · subst e; rw [up_same, up_same, up_same]; exact hv
    · rw [up_other _ _ e, up_other _ _ e, up_other _ _ e]; exact h.own i (by omega)
  · by_cases e : i = n
    · subst e
      rw [up_same, up_other _ _ (fun e => hne e.symm)]
      exact ha j (by omega)
    · rw [up_other _ _ e]
      by_cases e2 : j = n
      · subst e2; rw [up_same]; exact (ha i (by omega)).symm
      · rw [up_other _ _ e2]; exact h.ap i j (by omega) (by omega) hne
end
end Go.Proofs.YtgplnbdankfobaaGreatDoor.Fam
