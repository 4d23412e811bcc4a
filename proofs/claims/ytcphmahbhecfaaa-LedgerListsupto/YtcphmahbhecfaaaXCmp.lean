import Derived.Test.YtcphmahbhecfaaaXTab
import Derived.Test.YtcphmahbhecfaaaShelfS
/- How transactions and entries are compared. -/
namespace Go.Proofs.Ytcphmahbhecfaaa.Lg
open Go.RowKit Go.Sort Go.Shelf Go.Lib Lk
set_option linter.unusedVariables false

/-- a world with draws and blocks more -/
def Grew (w w' : World) : Prop := ∃ q os, w' = grow (w.drewN q) os
theorem Grew.refl (w : World) : Grew w w := ⟨0, #[], by rw [grow_empty]; rfl⟩
theorem Grew.al {w w' : World} (h : Grew w w') (o : Obj) : Grew w (w'.alloc o) := by
  obtain ⟨q, os, rfl⟩ := h
  exact ⟨q, os ++ #[o], by rw [alloc_eq_grow, grow_grow]⟩
theorem Grew.drew {w w' : World} (h : Grew w w') : Grew w w'.drew := by
  obtain ⟨q, os, rfl⟩ := h
  exact ⟨q + 1, os, rfl⟩
theorem Grew.trans {a b c : World} (h : Grew a b) (k : Grew b c) : Grew a c := by
  obtain ⟨q, os, rfl⟩ := h
  obtain ⟨r, ps, rfl⟩ := k
  refine ⟨q + r, os ++ ps, ?_⟩
  rw [← grow_grow]
  congr 1
  simp [grow, World.drewN, Nat.add_assoc]
def cmpZ (a b : Int) : Int := if a < b then -1 else if b < a then 1 else 0
def cmpT (i j : Ix) : Int := if cmpZ i.1 j.1 = 0 then cmpZ i.2 j.2 else cmpZ i.1 j.1
theorem nan_is (a : Int) (w : World) : Calls Try.prog 46 #[.int .u32 a] w fun e w' => e = .returned (.bool false) ∧ w' = w := by
  go_enter Try.func46, Try.ntmps46
  go_wp2_with fail
  go_ret
  exact ⟨by simp, rfl⟩
theorem cmpU_is (a b : Int) (w : World) : Calls Try.prog 34 #[.int .u32 a, .int .u32 b] w fun e w' => e = .returned (.int .i64 (cmpZ a b)) ∧ w' = w := by
  have N := hid (fun x W => nan_is x W)
  by_cases h1 : a < b
  · have e : cmpZ a b = -1 := by simp [cmpZ, h1]
    rw [e]
    clear e
    go_enter Try.func34, Try.ntmps34
    go_wp2_with (go_at_call 46; refine (N.out _ _).mono ?_; rintro e w1 ⟨rfl, rfl⟩)
    go_ret
    exact ⟨rfl, rfl⟩
  · by_cases h2 : b < a
    · have e : cmpZ a b = 1 := by simp [cmpZ, h1, h2]
      rw [e]
      clear e
      go_enter Try.func34, Try.ntmps34
      go_wp2_with (go_at_call 46; refine (N.out _ _).mono ?_; rintro e w1 ⟨rfl, rfl⟩)
      go_ret
      exact ⟨rfl, rfl⟩
    · have e : cmpZ a b = 0 := by simp [cmpZ, h1, h2]
      rw [e]
      clear e
      go_enter Try.func34, Try.ntmps34
      go_wp2_with (go_at_call 46; refine (N.out _ _).mono ?_; rintro e w1 ⟨rfl, rfl⟩)
      go_ret
      exact ⟨rfl, rfl⟩
theorem or_is {x y r : Int} {g : Nat} {w : World} (hr : r = if x = 0 then y else x) (h0 : w.cell? ⟨g, 0, none⟩ = some (.int .i64 x)) (h1 : w.cell? ⟨g, 1, none⟩ = some (.int .i64 y)) :
    Calls Try.prog 31 #[.slice (some ⟨g, 0, none⟩) 2 2] w fun e w' => e = .returned (.int .i64 r) ∧ w' = w := by
  have HR := hid hr
  clear hr
  go_enter Try.func31, Try.ntmps31
  go_wp2_with fail
  go_loopg [8] 2 (fun k s8 wr => wr = w ∧ ((k = 2 ∧ s8 = .int .i64 0) ∨ (k = 1 ∧ s8 = .int .i64 1 ∧ x = 0) ∨ (k = 0 ∧ s8 = .int .i64 2 ∧ x = 0 ∧ y = 0)))
  case atStart => exact ⟨rfl, .inl ⟨rfl, rfl⟩⟩
  case round =>
    obtain ⟨rfl, ⟨rfl, rfl⟩ | ⟨rfl, rfl, rfl⟩ | ⟨rfl, rfl, rfl, rfl⟩⟩ := hrel
    · by_cases hx : x = 0
      · subst hx
        go_wp2_with fail
        go_roundg 1
        case measure => omega
        case rel => exact ⟨rfl, .inr (.inl ⟨rfl, by go_num, by simp⟩)⟩
      · have hx' : (x != 0) = true := by simpa using hx
        have e : r = x := by rw [HR.out, if_neg hx]
        subst e
        go_wp2_with fail
        go_ret
        exact ⟨rfl, rfl⟩
    · by_cases hy : y = 0
      · subst hy
        go_wp2_with fail
        go_roundg 0
        case measure => omega
        case rel => exact ⟨rfl, .inr (.inr ⟨rfl, by go_num, by simp, by simp⟩)⟩
      · have hy' : (y != 0) = true := by simpa using hy
        have e : r = y := by rw [HR.out]; simp
        subst e
        go_wp2_with fail
        go_ret
        exact ⟨rfl, rfl⟩
    · have e : r = 0 := by rw [HR.out]; simp
      subst e
      go_wp2_with fail
      go_ret
      exact ⟨rfl, rfl⟩

set_option maxHeartbeats 400000 in
theorem byID_is (i j : Ix) (w : World) : Calls Try.prog 28 #[ixv i, ixv j] w fun e w' => e = .returned (.int .i64 (cmpT i j)) ∧ ∃ q os, w' = grow (w.drewN q) os := by
  obtain ⟨ic, is⟩ := i
  obtain ⟨jc, js⟩ := j
  obtain ⟨r, hr⟩ : ∃ r, r = if cmpZ ic jc = 0 then cmpZ is js else cmpZ ic jc := ⟨_, rfl⟩
  rw [show cmpT ⟨ic, is⟩ ⟨jc, js⟩ = r from hr.symm]
  have HR := hid hr
  clear hr
  obtain ⟨wb, hwb⟩ : ∃ wb, wb = (w.alloc (.cells #[.int .u32 ic, .int .u32 is] 30)).alloc (.cells #[.int .u32 jc, .int .u32 js] 30) := ⟨_, rfl⟩
  have a0 : wb.cell? ⟨w.heap.size, 0, none⟩ = some (.int .u32 ic) := by rw [hwb]; simp [go_sem]
  have a1 : wb.cell? ⟨w.heap.size, 1, none⟩ = some (.int .u32 is) := by rw [hwb]; simp [go_sem]
  have b0 : wb.cell? ⟨w.heap.size + 1, 0, none⟩ = some (.int .u32 jc) := by rw [hwb]; simp [go_sem]
  have b1 : wb.cell? ⟨w.heap.size + 1, 1, none⟩ = some (.int .u32 js) := by rw [hwb]; simp [go_sem]
  have HG : Hid (Grew w wb) := by show Grew _ _; rw [hwb]; exact ((Grew.refl w).al _).al _
  go_enter Try.func28, Try.ntmps28
  go_wp2_with fail
  rw [← hwb]
  clear hwb
  go_region_held3 (fun w' => w'.cell? ⟨w.heap.size, 0, none⟩ = some (.int .u32 ic) ∧ w'.cell? ⟨w.heap.size, 1, none⟩ = some (.int .u32 is) ∧ w'.cell? ⟨w.heap.size + 1, 0, none⟩ = some (.int .u32 jc) ∧ w'.cell? ⟨w.heap.size + 1, 1, none⟩ = some (.int .u32 js) ∧ Below wb.heap.size wb w')
    ((refine (fun (hB : Below wb.heap.size wb _) => ⟨cell_later hB a0, cell_later hB a1, cell_later hB b0, cell_later hB b1, hB⟩) ?_; (repeat (first | exact Below.refl _ _ | assumption | refine Below.drew ?_ | refine Below.al ?_ _ | refine Below.setCell ?_ (by first | exact Nat.le_refl _ | (simp; omega) | (simp; done)) _ | refine Below.on ?_ (by assumption)))))
    (first
      | (go_at_call 34; refine (cmpU_is _ _ _).mono ?_; rintro e w1 ⟨rfl, rfl⟩)
      | (go_at_call 31; refine (or_is HR.out (by simp [go_sem]) (by simp [go_sem])).mono ?_; rintro e w1 ⟨rfl, rfl⟩))
  all_goals (try go_wp2_with fail)
  go_ret
  exact ⟨rfl, (HG.out.al _).drew⟩


theorem byTxn_is (v u : En) (w : World) : Calls Try.prog 21 #[.agg #[.int .u32 v.id.1, .int .u32 v.id.2, .int .u32 v.home, .int .i64 v.oc, .int .u64 v.w, .int .u32 v.l, .int .u32 v.n], .agg #[.int .u32 u.id.1, .int .u32 u.id.2, .int .u32 u.home, .int .i64 u.oc, .int .u64 u.w, .int .u32 u.l, .int .u32 u.n]] w fun e w' => e = .returned (.int .i64 (cmpT v.id u.id)) ∧ ∃ q os, w' = grow (w.drewN q) os := by
  obtain ⟨r, hr⟩ : ∃ r, cmpT v.id u.id = r := ⟨_, rfl⟩
  rw [hr]
  have B : Hid (∀ W, Calls Try.prog 28 #[.agg #[.int .u32 v.id.1, .int .u32 v.id.2], .agg #[.int .u32 u.id.1, .int .u32 u.id.2]] W fun e w' => e = .returned (.int .i64 r) ∧ ∃ q os, w' = grow (W.drewN q) os) := fun W => by rw [← hr]; exact byID_is _ _ W
  clear hr
  go_enter Try.func21, Try.ntmps21
  go_wp2_with (go_at_call 28; refine (B.out _).mono ?_; rintro e w1 ⟨rfl, q, os, rfl⟩)
  go_ret
  exact ⟨rfl, (((Grew.refl w).al _).al _).trans ⟨q, os, rfl⟩⟩
theorem less_is {a b c x y z : Int} {u : Bool} (hu : lessB a b c x y z = u) (w : World) : Calls Try.prog 45 #[.agg #[.int .u64 a, .int .u32 b, .int .u32 c], .agg #[.int .u64 x, .int .u32 y, .int .u32 z]] w fun e w' => e = .returned (.bool u) ∧ Grew w w' := by
  by_cases h1 : a = x
  · subst h1
    have h1' : (a != a) = false := by simp
    by_cases h2 : b = y
    · subst h2
      have h2' : (b != b) = false := by simp
      have e : u = decide (c < z) := by rw [← hu]; simp [lessB]
      subst e
      clear hu
      go_enter Try.func45, Try.ntmps45
      go_wp2_with fail
      go_ret
      exact ⟨rfl, ((Grew.refl w).al _).al _⟩
    · have h2' : (b != y) = true := by simpa using h2
      have e : u = decide (b < y) := by rw [← hu]; simp [lessB, h2]
      subst e
      clear hu
      go_enter Try.func45, Try.ntmps45
      go_wp2_with fail
      go_ret
      exact ⟨rfl, ((Grew.refl w).al _).al _⟩
  · have h1' : (a != x) = true := by simpa using h1
    have e : u = decide (a < x) := by rw [← hu]; simp [lessB, h1]
    subst e
    clear hu
    go_enter Try.func45, Try.ntmps45
    go_wp2_with fail
    go_ret
    exact ⟨rfl, ((Grew.refl w).al _).al _⟩
theorem compare_is (a b c x y z : Int) (w : World) : Calls Try.prog 32 #[.agg #[.int .u64 a, .int .u32 b, .int .u32 c], .agg #[.int .u64 x, .int .u32 y, .int .u32 z]] w fun e w' => e = .returned (.int .i64 (cmpI a b c x y z)) ∧ Grew w w' := by
  obtain ⟨s, hs⟩ : ∃ s, sameB a b c x y z = s := ⟨_, rfl⟩
  have qq : ∀ W, (binOp .eql 34 (.agg #[.int .u64 a, .int .u32 b, .int .u32 c]) (.agg #[.int .u64 x, .int .u32 y, .int .u32 z])).run Try.prog W = .ok (.bool s) W := fun W => by rw [← hs]; exact run_eqS a b c x y z W
  obtain ⟨u, hu⟩ : ∃ u, lessB a b c x y z = u := ⟨_, rfl⟩
  have L := hid (fun W => less_is hu W)
  cases s with
  | true =>
    have e : cmpI a b c x y z = 0 := by simp [cmpI, hs]
    rw [e]
    clear e hs hu
    go_enter Try.func32, Try.ntmps32
    go_wp2_with fail
    go_ret
    exact ⟨rfl, ((Grew.refl w).al _).al _⟩
  | false =>
    cases u with
    | true =>
      rw [cmpI_lt hs hu]
      clear hs hu
      go_enter Try.func32, Try.ntmps32
      go_wp2_with (go_at_call 45; refine (L.out _).mono ?_; rintro e w1 ⟨rfl, hg⟩)
      go_ret
      exact ⟨rfl, (((Grew.refl w).al _).al _).trans hg⟩
    | false =>
      rw [cmpI_gt hs hu]
      clear hs hu
      go_enter Try.func32, Try.ntmps32
      go_wp2_with (go_at_call 45; refine (L.out _).mono ?_; rintro e w1 ⟨rfl, hg⟩)
      go_ret
      exact ⟨rfl, (((Grew.refl w).al _).al _).trans hg⟩
theorem Grew.below {w w' : World} (h : Grew w w') : Below w.heap.size w w' := by
  obtain ⟨q, os, rfl⟩ := h
  exact below_regrown _ _ _
def cmpE (v u : En) : Int := if cmpI v.w v.l v.n u.w u.l u.n = 0 then cmpT v.id u.id else cmpI v.w v.l v.n u.w u.l u.n
/-- how ids are ordered -/
def ltI (i j : Ix) : Bool := decide (i.1 < j.1) || (decide (i.1 = j.1) && decide (i.2 < j.2))
theorem cmp_lt (i j : Ix) : decide (cmpT i j < 0) = ltI i j := by
  unfold cmpT cmpZ ltI
  rcases Int.lt_trichotomy i.1 j.1 with h | h | h
  · have h1 : i.1 < j.1 := h
    simp [h1]
  · rw [h]
    rcases Int.lt_trichotomy i.2 j.2 with k | k | k
    · simp [k]
    · simp [k]
    · have k1 : ¬ i.2 < j.2 := by omega
      simp [k, k1]
  · have h1 : ¬ i.1 < j.1 := by omega
    have h2 : ¬ i.1 = j.1 := by omega
    simp [h, h1, h2]

/-- by stamp, then by transaction -/
def ltE (v u : En) : Bool := lessB v.w v.l v.n u.w u.l u.n || (sameB v.w v.l v.n u.w u.l u.n && ltI v.id u.id)
theorem cmpE_lt (v u : En) : decide (cmpE v u < 0) = ltE v u := by
  unfold cmpE ltE
  cases hs : sameB v.w v.l v.n u.w u.l u.n with
  | true =>
    have e : cmpI v.w v.l v.n u.w u.l u.n = 0 := by simp [cmpI, hs]
    obtain ⟨h1, h2, h3⟩ := sameB_iff.1 hs
    rw [if_pos e, cmp_lt, h1, h2, h3, less_irr]; rfl
  | false =>
    cases hl : lessB v.w v.l v.n u.w u.l u.n with
    | true => rw [cmpI_lt hs hl]; rfl
    | false => rw [cmpI_gt hs hl]; rfl
end Go.Proofs.Ytcphmahbhecfaaa.Lg
