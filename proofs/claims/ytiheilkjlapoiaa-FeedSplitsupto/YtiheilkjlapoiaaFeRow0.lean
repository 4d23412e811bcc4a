import Derived.Test.YtiheilkjlapoiaaFeCmp
/- Rows of entries and of transactions, in blocks of their own. -/
namespace Go.Proofs.Ytiheilkjlapoiaa.Lg
open Go.RowKit Go.Sort Go.Shelf Go.Lib Lk
set_option linter.unusedVariables false
section
variable {α : Type} {enc : α → List Value} {k : Nat}
theorem fm_len (hk : ∀ x, (enc x).length = k) : ∀ xs : List α, (xs.flatMap enc).length = xs.length * k
  | [] => by simp
  | x :: xs => by rw [List.flatMap_cons, List.length_append, hk, fm_len hk xs, List.length_cons, Nat.add_mul, Nat.one_mul, Nat.add_comm]
theorem fm_one (h1 : ∀ x, ∀ v ∈ enc x, v.oneCell' = true) (xs : List α) : ∀ v ∈ xs.flatMap enc, v.oneCell' = true := by
  intro v hv
  obtain ⟨x, _, hv⟩ := List.mem_flatMap.1 hv
  exact h1 x v hv
variable [Inhabited α]
theorem fm_get (hk : ∀ x, (enc x).length = k) : ∀ (xs : List α) (i o : Nat), i < xs.length → o < k → (xs.flatMap enc)[i * k + o]? = (enc xs[i]!)[o]?
  | x :: xs, 0, o, _, ho => by
    rw [List.flatMap_cons, List.getElem?_append_left (by rw [hk]; omega)]; simp
  | x :: xs, i + 1, o, hi, ho => by
    have ih := fm_get hk xs i o (by simpa using hi) ho
    rw [List.flatMap_cons, List.getElem?_append_right (by rw [hk, Nat.add_mul]; omega), show (i + 1) * k + o - (enc x).length = i * k + o by rw [hk, Nat.add_mul]; omega, ih]
    simp
end
theorem own_cells {w : World} {B n size : Nat} {e : TypeId} {a : Option Addr} {c : Nat} {xs : List Value} (h : w.ownsRow B e size (.slice a n c) n xs) (hn : 0 < n) : ∃ g, a = some ⟨g, 0, none⟩ ∧ B ≤ g ∧ ∀ j v, xs[j]? = some v → w.cell? ⟨g, j, none⟩ = some v := by
  obtain ⟨hl, ⟨e1, rfl⟩ | ⟨g, cap, cur, e1, hB, hh, h1, h2, h3, h4⟩⟩ := h
  · omega
  · injection e1 with e1 _ _
    subst e1
    refine ⟨g, rfl, hB, fun j v hj => cell_of_obj hh ?_⟩
    rw [← h4] at hj
    rw [List.getElem?_take] at hj
    split at hj
    · simpa using hj
    · cases hj
theorem info_of {P : Program} {t : TypeId} {z : Value} {n m : Nat} (h : (P.info? t).map (fun i => (i.zero, i.size, i.bytes)) = some (some z, n, m)) : ∃ i, P.info? t = some i ∧ i.zero = some z ∧ i.size = n ∧ i.bytes = m := by
  cases hi : P.info? t with
  | none => rw [hi] at h; cases h
  | some i =>
    rw [hi] at h
    simp only [Option.map_some, Option.some.injEq, Prod.mk.injEq] at h
    exact ⟨i, rfl, h.1, h.2.1, h.2.2⟩
theorem owns_base {w : World} {B B' size n : Nat} {e : TypeId} {v : Value} {xs : List Value} (h : w.ownsRow B e size v n xs) (hb : B' ≤ B) : w.ownsRow B' e size v n xs := by
  obtain ⟨h1, h2 | ⟨g, cap, cur, e1, hB, hh⟩⟩ := h
  · exact ⟨h1, .inl h2⟩
  · exact ⟨h1, .inr ⟨g, cap, cur, e1, Nat.le_trans hb hB, hh⟩⟩
theorem own_le {w : World} {B n size : Nat} {e : TypeId} {v : Value} {xs : List Value} (h : w.ownsRow B e size v n xs) : n ≤ 9223372036854775807 := by
  obtain ⟨_, ⟨_, e1⟩ | ⟨g, cap, cur, e1, _, _, h1, h2, _⟩⟩ := h
  · omega
  · simp only [maxLen] at h2; omega

theorem own_type {w : World} {B n size : Nat} {e : TypeId} {v : Value} {xs : List Value} (h : w.ownsRow B e size v n xs) {g : Nat} (hg : v.ownBlock = some g) : ∃ cur, w.heap[g]? = some (.cells cur e (0, 0)) := by
  obtain ⟨_, ⟨e1, _⟩ | ⟨g', cap, cur, e1, _, hh, _⟩⟩ := h
  · subst e1; simp [Value.ownBlock] at hg
  · subst e1; simp [Value.ownBlock] at hg; subst hg; exact ⟨cur, hh⟩
theorem own_apart {w : World} {B B' n n' size size' : Nat} {e e' : TypeId} {v v' : Value} {xs xs' : List Value} (h : w.ownsRow B e size v n xs) (h' : w.ownsRow B' e' size' v' n' xs') (hne : e ≠ e') {g : Nat} (hg : v.ownBlock = some g) : v'.ownBlock ≠ some g := fun hg' => by
  obtain ⟨c1, e1⟩ := own_type h hg
  obtain ⟨c2, e2⟩ := own_type h' hg'
  rw [e1] at e2
  injection e2 with e2
  injection e2 with _ e2
  exact hne e2

theorem ecs_len (v : En) : (ecs v).length = 7 := rfl
theorem ecs_one (v : En) : ∀ x ∈ ecs v, x.oneCell' = true := by
  intro x hx
  simp [ecs] at hx
  rcases hx with rfl | rfl | rfl | rfl | rfl | rfl | rfl <;> rfl
abbrev tcs (v : Ix) : List Value := [.int .u32 v.1, .int .u32 v.2]
theorem tcs_len (v : Ix) : (tcs v).length = 2 := rfl
theorem tcs_one (v : Ix) : ∀ x ∈ tcs v, x.oneCell' = true := by
  intro x hx
  simp [tcs] at hx
  rcases hx with rfl | rfl <;> rfl
/-- rows of entries, of transactions, in blocks of their own from B on -/
def OwnL (B : Nat) (w : World) (v : Value) (n : Nat) (U : List En) : Prop := w.ownsRow B 60 7 v n (U.flatMap ecs)
def OwnX (B : Nat) (w : World) (v : Value) (n : Nat) (U : List Ix) : Prop := w.ownsRow B 57 2 v n (U.flatMap tcs)
theorem infoEn : (Try.prog.info? 60).map (fun i => (i.zero, i.size, i.bytes)) = some (some (En.val En.zero), 7, 40) := by kernel_rfl
theorem infoTx : (Try.prog.info? 57).map (fun i => (i.zero, i.size, i.bytes)) = some (some (ixv (0, 0)), 2, 8) := by kernel_rfl
end Go.Proofs.Ytiheilkjlapoiaa.Lg
