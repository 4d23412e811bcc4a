import Derived.Test.YtiheilkjlapoiaaXBase
import Derived.Carry
import Derived.Shelf.SlGeneric
/- How transactions and entries are compared. (written by mk_fe.py) -/
namespace Go.Proofs.Ytiheilkjlapoiaa.Lg
open Go.RowKit Go.Sort Go.Shelf Go.Lib Lk
set_option linter.unusedVariables false

theorem cell_of_obj {w : World} {b o : Nat} {cs : Array Value} {t : TypeId} {z : Nat × Nat} {v : Value} (h : w.heap[b]? = some (.cells cs t z)) (hv : cs[o]? = some v) : w.cell? ⟨b, o, none⟩ = some v := by
  simp [World.cell?, h, hv]
abbrev prsE (M : List En) : List (Ix × En) := M.map fun e => (e.id, e)
theorem zero_en (W : World) : (zeroValue 60).run Try.prog W = .ok (En.val En.zero) W := by kernel_rfl
theorem mapat_ne {α β : Type} {ev : α → Value} {fv : β → Value} {w : World} {b : Nat} {ps : List (α × β)} {cs : Array Value} {t : TypeId} {z : Nat × Nat} {q : Nat} (h : MapO ev fv w (some b) ps) (hq : w.heap[q]? = some (.cells cs t z)) : q ≠ b := by
  rintro rfl
  obtain ⟨es, clock, hb, _⟩ := h.at
  rw [hb] at hq; cases hq
theorem putA_new {α β : Type} [DecidableEq α] {ps : List (α × β)} {a : α} (h : a ∉ ps.map (·.1)) (v : β) : putA ps a v = ps ++ [(a, v)] := by simp only [putA, if_neg h]
/-- a world with draws and blocks more -/
def Grew (w w' : World) : Prop := ∃ q os, w' = grow (w.drewN q) os
theorem Grew.refl (w : World) : Grew w w := ⟨0, #[], by rw [grow_empty]; rfl⟩
theorem Grew.al {w w' : World} (h : Grew w w') (o : Obj) : Grew w (w'.alloc o) := by
  obtain ⟨q, os, rfl⟩ := h
  exact ⟨q, os ++ #[o], by rw [alloc_eq_grow, grow_grow]⟩
theorem Grew.drew {w w' : World} (h : Grew w w') : Grew w w'.drew := by
  obtain ⟨q, os, rfl⟩ := h
  exact ⟨q + 1, os, rfl⟩
theorem Grew.trans {a b c : World} (h : Grew a b) (k : Grew b c) : Grew a c := by
  obtain ⟨q, os, rfl⟩ := h
  obtain ⟨r, ps, rfl⟩ := k
  refine ⟨q + r, os ++ ps, ?_⟩
  rw [← grow_grow]
  congr 1
  simp [grow, World.drewN, Nat.add_assoc]
def cmpZ (a b : Int) : Int := if a < b then -1 else if b < a then 1 else 0
def cmpT (i j : Ix) : Int := if cmpZ i.1 j.1 = 0 then cmpZ i.2 j.2 else cmpZ i.1 j.1
theorem nan_is (a : Int) (w : World) : Calls Try.prog 31 #[.int .u32 a] w fun e w' => e = .returned (.bool false) ∧ w' = w := by
  go_enter Try.func31, Try.ntmps31
  go_wp2_with fail
  go_ret
  exact ⟨by simp, rfl⟩
theorem cmpU_is (a b : Int) (w : World) : Calls Try.prog 25 #[.int .u32 a, .int .u32 b] w fun e w' => e = .returned (.int .i64 (cmpZ a b)) ∧ w' = w := by
  have N := hid (fun x W => nan_is x W)
  by_cases h1 : a < b
  · have e : cmpZ a b = -1 := by simp [cmpZ, h1]
    rw [e]
    clear e
    go_enter Try.func25, Try.ntmps25
    go_wp2_with (go_at_call 31; refine (N.out _ _).mono ?_; rintro e w1 ⟨rfl, rfl⟩)
    go_ret
    exact ⟨rfl, rfl⟩
  · by_cases h2 : b < a
    · have e : cmpZ a b = 1 := by simp [cmpZ, h1, h2]
      rw [e]
      clear e
      go_enter Try.func25, Try.ntmps25
      go_wp2_with (go_at_call 31; refine (N.out _ _).mono ?_; rintro e w1 ⟨rfl, rfl⟩)
      go_ret
      exact ⟨rfl, rfl⟩
    · have e : cmpZ a b = 0 := by simp [cmpZ, h1, h2]
      rw [e]
      clear e
      go_enter Try.func25, Try.ntmps25
      go_wp2_with (go_at_call 31; refine (N.out _ _).mono ?_; rintro e w1 ⟨rfl, rfl⟩)
      go_ret
      exact ⟨rfl, rfl⟩
theorem less_is {a b c x y z : Int} {u : Bool} (hu : lessB a b c x y z = u) (w : World) : Calls Try.prog 12 #[.agg #[.int .u64 a, .int .u32 b, .int .u32 c], .agg #[.int .u64 x, .int .u32 y, .int .u32 z]] w fun e w' => e = .returned (.bool u) ∧ Grew w w' := by
  by_cases h1 : a = x
  · subst h1
    have h1' : (a != a) = false := by simp
    by_cases h2 : b = y
    · subst h2
      have h2' : (b != b) = false := by simp
      have e : u = decide (c < z) := by rw [← hu]; simp [lessB]
      subst e
      clear hu
      go_enter Try.func12, Try.ntmps12
      go_wp2_with fail
      go_ret
      exact ⟨rfl, ((Grew.refl w).al _).al _⟩
    · have h2' : (b != y) = true := by simpa using h2
      have e : u = decide (b < y) := by rw [← hu]; simp [lessB, h2]
      subst e
      clear hu
      go_enter Try.func12, Try.ntmps12
      go_wp2_with fail
      go_ret
      exact ⟨rfl, ((Grew.refl w).al _).al _⟩
  · have h1' : (a != x) = true := by simpa using h1
    have e : u = decide (a < x) := by rw [← hu]; simp [lessB, h1]
    subst e
    clear hu
    go_enter Try.func12, Try.ntmps12
    go_wp2_with fail
    go_ret
    exact ⟨rfl, ((Grew.refl w).al _).al _⟩
theorem compare_is (a b c x y z : Int) (w : World) : Calls Try.prog 24 #[.agg #[.int .u64 a, .int .u32 b, .int .u32 c], .agg #[.int .u64 x, .int .u32 y, .int .u32 z]] w fun e w' => e = .returned (.int .i64 (cmpI a b c x y z)) ∧ Grew w w' := by
  obtain ⟨s, hs⟩ : ∃ s, sameB a b c x y z = s := ⟨_, rfl⟩
  have qq : ∀ W, (binOp .eql 30 (.agg #[.int .u64 a, .int .u32 b, .int .u32 c]) (.agg #[.int .u64 x, .int .u32 y, .int .u32 z])).run Try.prog W = .ok (.bool s) W := fun W => by rw [← hs]; exact run_eqS a b c x y z W
  obtain ⟨u, hu⟩ : ∃ u, lessB a b c x y z = u := ⟨_, rfl⟩
  have L := hid (fun W => less_is hu W)
  cases s with
  | true =>
    have e : cmpI a b c x y z = 0 := by simp [cmpI, hs]
    rw [e]
    clear e hs hu
    go_enter Try.func24, Try.ntmps24
    go_wp2_with fail
    go_ret
    exact ⟨rfl, ((Grew.refl w).al _).al _⟩
  | false =>
    cases u with
    | true =>
      rw [cmpI_lt hs hu]
      clear hs hu
      go_enter Try.func24, Try.ntmps24
      go_wp2_with (go_at_call 12; refine (L.out _).mono ?_; rintro e w1 ⟨rfl, hg⟩)
      go_ret
      exact ⟨rfl, (((Grew.refl w).al _).al _).trans hg⟩
    | false =>
      rw [cmpI_gt hs hu]
      clear hs hu
      go_enter Try.func24, Try.ntmps24
      go_wp2_with (go_at_call 12; refine (L.out _).mono ?_; rintro e w1 ⟨rfl, hg⟩)
      go_ret
      exact ⟨rfl, (((Grew.refl w).al _).al _).trans hg⟩
theorem Grew.below {w w' : World} (h : Grew w w') : Below w.heap.size w w' := by
  obtain ⟨q, os, rfl⟩ := h
  exact below_regrown _ _ _
/-- how ids are ordered -/
def ltI (i j : Ix) : Bool := decide (i.1 < j.1) || (decide (i.1 = j.1) && decide (i.2 < j.2))
theorem cmp_lt (i j : Ix) : decide (cmpT i j < 0) = ltI i j := by
  unfold cmpT cmpZ ltI
  rcases Int.lt_trichotomy i.1 j.1 with h | h | h
  · have h1 : i.1 < j.1 := h
    simp [h1]
  · rw [h]
    rcases Int.lt_trichotomy i.2 j.2 with k | k | k
    · simp [k]
    · simp [k]
    · have k1 : ¬ i.2 < j.2 := by omega
      simp [k, k1]
  · have h1 : ¬ i.1 < j.1 := by omega
    have h2 : ¬ i.1 = j.1 := by omega
    simp [h, h1, h2]
def cmpE (v u : En) : Int := if cmpI v.w v.l v.n u.w u.l u.n = 0 then cmpT v.id u.id else cmpI v.w v.l v.n u.w u.l u.n
/-- by stamp, then by transaction -/
def ltE (v u : En) : Bool := lessB v.w v.l v.n u.w u.l u.n || (sameB v.w v.l v.n u.w u.l u.n && ltI v.id u.id)
theorem cmpE_lt (v u : En) : decide (cmpE v u < 0) = ltE v u := by
  unfold cmpE ltE
  cases hs : sameB v.w v.l v.n u.w u.l u.n with
  | true =>
    have e : cmpI v.w v.l v.n u.w u.l u.n = 0 := by simp [cmpI, hs]
    obtain ⟨h1, h2, h3⟩ := sameB_iff.1 hs
    rw [if_pos e, cmp_lt, h1, h2, h3, less_irr]; rfl
  | false =>
    cases hl : lessB v.w v.l v.n u.w u.l u.n with
    | true => rw [cmpI_lt hs hl]; rfl
    | false => rw [cmpI_gt hs hl]; rfl
theorem ltE_iff {v u : En} : ltE v u = true ↔ (v.w < u.w ∨ (v.w = u.w ∧ (v.l < u.l ∨ (v.l = u.l ∧ v.n < u.n)))) ∨ ((v.w = u.w ∧ v.l = u.l ∧ v.n = u.n) ∧ (v.id.1 < u.id.1 ∨ (v.id.1 = u.id.1 ∧ v.id.2 < u.id.2))) := by
  simp only [ltE, Bool.or_eq_true, Bool.and_eq_true, lessB_iff, sameB_iff, ltI, decide_eq_true_eq]
theorem ltE_iff_false {v u : En} : ltE v u = false ↔ ¬ ((v.w < u.w ∨ (v.w = u.w ∧ (v.l < u.l ∨ (v.l = u.l ∧ v.n < u.n)))) ∨ ((v.w = u.w ∧ v.l = u.l ∧ v.n = u.n) ∧ (v.id.1 < u.id.1 ∨ (v.id.1 = u.id.1 ∧ v.id.2 < u.id.2)))) := by
  rw [← ltE_iff]; simp
end Go.Proofs.Ytiheilkjlapoiaa.Lg
