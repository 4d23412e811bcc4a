import Derived.Test.YtgplnbdankfobaaGreatDoorQRelP
/- byID: how ids are compared. -/
namespace Go.Proofs.YtgplnbdankfobaaGreatDoor.Lk
open Go.RowKit Go.Sort Go.Shelf Go.Lib
set_option linter.unusedVariables false

/-- a world with draws and blocks more -/
def Grew (w w' : World) : Prop := ∃ q os, w' = grow (w.drewN q) os
theorem Grew.refl (w : World) : Grew w w := ⟨0, #[], by rw [grow_empty]; rfl⟩
theorem Grew.al {w w' : World} (h : Grew w w') (o : Obj) : Grew w (w'.alloc o) := by
  obtain ⟨q, os, rfl⟩ := h
  exact ⟨q, os ++ #[o], by rw [alloc_eq_grow, grow_grow]⟩
theorem Grew.drew {w w' : World} (h : Grew w w') : Grew w w'.drew := by
  obtain ⟨q, os, rfl⟩ := h
  exact ⟨q + 1, os, rfl⟩
theorem Grew.trans {a b c : World} (h : Grew a b) (k : Grew b c) : Grew a c := by
  obtain ⟨q, os, rfl⟩ := h
  obtain ⟨r, ps, rfl⟩ := k
  refine ⟨q + r, os ++ ps, ?_⟩
  rw [← grow_grow]
  congr 1
  simp [grow, World.drewN, Nat.add_assoc]
def cmpZ (a b : Int) : Int := if a < b then -1 else if b < a then 1 else 0
def cmpI (i j : Ix) : Int := if cmpZ i.1 j.1 = 0 then cmpZ i.2 j.2 else cmpZ i.1 j.1
theorem nan_is (a : Int) (w : World) : Calls Tryz.prog 65 #[.int .u32 a] w fun e w' => e = .returned (.bool false) ∧ w' = w := by
  go_enter Tryz.func65, Tryz.ntmps65
  go_wp2_with fail
  go_ret
  exact ⟨by simp, rfl⟩
theorem cmpU_is (a b : Int) (w : World) : Calls Tryz.prog 48 #[.int .u32 a, .int .u32 b] w fun e w' => e = .returned (.int .i64 (cmpZ a b)) ∧ w' = w := by
  have N := hid (fun x W => nan_is x W)
  by_cases h1 : a < b
  · have e : cmpZ a b = -1 := by simp [cmpZ, h1]
    rw [e]
    clear e
    go_enter Tryz.func48, Tryz.ntmps48
    go_wp2_with (go_at_call 65; refine (N.out _ _).mono ?_; rintro e w1 ⟨rfl, rfl⟩)
    go_ret
    exact ⟨rfl, rfl⟩
  · by_cases h2 : b < a
    · have e : cmpZ a b = 1 := by simp [cmpZ, h1, h2]
      rw [e]
      clear e
      go_enter Tryz.func48, Tryz.ntmps48
      go_wp2_with (go_at_call 65; refine (N.out _ _).mono ?_; rintro e w1 ⟨rfl, rfl⟩)
      go_ret
      exact ⟨rfl, rfl⟩
    · have e : cmpZ a b = 0 := by simp [cmpZ, h1, h2]
      rw [e]
      clear e
      go_enter Tryz.func48, Tryz.ntmps48
      go_wp2_with (go_at_call 65; refine (N.out _ _).mono ?_; rintro e w1 ⟨rfl, rfl⟩)
      go_ret
      exact ⟨rfl, rfl⟩
theorem or_is {x y r : Int} {g : Nat} {w : World} (hr : r = if x = 0 then y else x) (h0 : w.cell? ⟨g, 0, none⟩ = some (.int .i64 x)) (h1 : w.cell? ⟨g, 1, none⟩ = some (.int .i64 y)) :
    Calls Tryz.prog 47 #[.slice (some ⟨g, 0, none⟩) 2 2] w fun e w' => e = .returned (.int .i64 r) ∧ w' = w := by
  have HR := hid hr
  clear hr
  go_enter Tryz.func47, Tryz.ntmps47
  go_wp2_with fail
  go_loopg [8] 2 (fun k s8 wr => wr = w ∧ ((k = 2 ∧ s8 = .int .i64 0) ∨ (k = 1 ∧ s8 = .int .i64 1 ∧ x = 0) ∨ (k = 0 ∧ s8 = .int .i64 2 ∧ x = 0 ∧ y = 0)))
  case atStart => exact ⟨rfl, .inl ⟨rfl, rfl⟩⟩
  case round =>
    obtain ⟨rfl, ⟨rfl, rfl⟩ | ⟨rfl, rfl, rfl⟩ | ⟨rfl, rfl, rfl, rfl⟩⟩ := hrel
    · by_cases hx : x = 0
      · subst hx
        go_wp2_with fail
        go_roundg 1
        case measure => omega
        case rel => exact ⟨rfl, .inr (.inl ⟨rfl, by go_num, by simp⟩)⟩
      · have hx' : (x != 0) = true := by simpa using hx
        have e : r = x := by rw [HR.out, if_neg hx]
        subst e
        go_wp2_with fail
        go_ret
        exact ⟨rfl, rfl⟩
    · by_cases hy : y = 0
      · subst hy
        go_wp2_with fail
        go_roundg 0
        case measure => omega
        case rel => exact ⟨rfl, .inr (.inr ⟨rfl, by go_num, by simp, by simp⟩)⟩
      · have hy' : (y != 0) = true := by simpa using hy
        have e : r = y := by rw [HR.out]; simp
        subst e
        go_wp2_with fail
        go_ret
        exact ⟨rfl, rfl⟩
    · have e : r = 0 := by rw [HR.out]; simp
      subst e
      go_wp2_with fail
      go_ret
      exact ⟨rfl, rfl⟩

set_option maxHeartbeats 400000 in
theorem byID_is (i j : Ix) (w : World) : Calls Tryz.prog 31 #[ixv i, ixv j] w fun e w' => e = .returned (.int .i64 (cmpI i j)) ∧ ∃ q os, w' = grow (w.drewN q) os := by
  obtain ⟨ic, is⟩ := i
  obtain ⟨jc, js⟩ := j
  obtain ⟨r, hr⟩ : ∃ r, r = if cmpZ ic jc = 0 then cmpZ is js else cmpZ ic jc := ⟨_, rfl⟩
  rw [show cmpI ⟨ic, is⟩ ⟨jc, js⟩ = r from hr.symm]
  have HR := hid hr
  clear hr
  obtain ⟨wb, hwb⟩ : ∃ wb, wb = (w.alloc (.cells #[.int .u32 ic, .int .u32 is] 25)).alloc (.cells #[.int .u32 jc, .int .u32 js] 25) := ⟨_, rfl⟩
  have a0 : wb.cell? ⟨w.heap.size, 0, none⟩ = some (.int .u32 ic) := by rw [hwb]; simp [go_sem]
  have a1 : wb.cell? ⟨w.heap.size, 1, none⟩ = some (.int .u32 is) := by rw [hwb]; simp [go_sem]
  have b0 : wb.cell? ⟨w.heap.size + 1, 0, none⟩ = some (.int .u32 jc) := by rw [hwb]; simp [go_sem]
  have b1 : wb.cell? ⟨w.heap.size + 1, 1, none⟩ = some (.int .u32 js) := by rw [hwb]; simp [go_sem]
  have HG : Hid (Grew w wb) := by show Grew _ _; rw [hwb]; exact ((Grew.refl w).al _).al _
  go_enter Tryz.func31, Tryz.ntmps31
  go_wp2_with fail
  rw [← hwb]
  clear hwb
  go_region_held3 (fun w' => w'.cell? ⟨w.heap.size, 0, none⟩ = some (.int .u32 ic) ∧ w'.cell? ⟨w.heap.size, 1, none⟩ = some (.int .u32 is) ∧ w'.cell? ⟨w.heap.size + 1, 0, none⟩ = some (.int .u32 jc) ∧ w'.cell? ⟨w.heap.size + 1, 1, none⟩ = some (.int .u32 js) ∧ Below wb.heap.size wb w')
    ((refine (fun (hB : Below wb.heap.size wb _) => ⟨cell_later hB a0, cell_later hB a1, cell_later hB b0, cell_later hB b1, hB⟩) ?_; (repeat (first | exact Below.refl _ _ | assumption | refine Below.drew ?_ | refine Below.al ?_ _ | refine Below.setCell ?_ (by first | exact Nat.le_refl _ | (simp; omega) | (simp; done)) _ | refine Below.on ?_ (by assumption)))))
    (first
      | (go_at_call 48; refine (cmpU_is _ _ _).mono ?_; rintro e w1 ⟨rfl, rfl⟩)
      | (go_at_call 47; refine (or_is HR.out (by simp [go_sem]) (by simp [go_sem])).mono ?_; rintro e w1 ⟨rfl, rfl⟩))
  all_goals (try go_wp2_with fail)
  go_ret
  exact ⟨rfl, (HG.out.al _).drew⟩

set_option maxHeartbeats 1000000 in
theorem all1_is (v u : Hv) (w : World) : Calls Tryz.prog 30 #[v.val, u.val] w fun e w' => e = .returned (.int .i64 (cmpI v.h.id u.h.id)) ∧ ∃ q os, w' = grow (w.drewN q) os := by
  obtain ⟨⟨⟨vc, vs⟩, home, vw, vl, vn, rs, ws⟩, ra, rc, wa, wk⟩ := v
  obtain ⟨⟨⟨uc, us⟩, uhome, uw, ul, un, urs, uws⟩, ura, urc, uwa, uwk⟩ := u
  simp only
  obtain ⟨r, hr⟩ : ∃ r, cmpI ⟨vc, vs⟩ ⟨uc, us⟩ = r := ⟨_, rfl⟩
  rw [hr]
  have B : Hid (∀ W, Calls Tryz.prog 31 #[.agg #[.int .u32 vc, .int .u32 vs], .agg #[.int .u32 uc, .int .u32 us]] W fun e w' => e = .returned (.int .i64 r) ∧ ∃ q os, w' = grow (W.drewN q) os) := fun W => by rw [← hr]; exact byID_is _ _ W
  clear hr
  go_enter Tryz.func30, Tryz.ntmps30
  go_wp2_with (go_at_call 31; refine (B.out _).mono ?_; rintro e w1 ⟨rfl, q, os, rfl⟩)
  go_ret
  exact ⟨rfl, (((Grew.refl w).al _).al _).trans ⟨q, os, rfl⟩⟩

/-- how ids are ordered -/
def ltI (i j : Ix) : Bool := decide (i.1 < j.1) || (decide (i.1 = j.1) && decide (i.2 < j.2))
theorem cmp_lt (i j : Ix) : decide (cmpI i j < 0) = ltI i j := by
  unfold cmpI cmpZ ltI
  rcases Int.lt_trichotomy i.1 j.1 with h | h | h
  · have h1 : i.1 < j.1 := h
    simp [h1]
  · rw [h]
    rcases Int.lt_trichotomy i.2 j.2 with k | k | k
    · simp [k]
    · simp [k]
    · have k1 : ¬ i.2 < j.2 := by omega
      simp [k, k1]
  · have h1 : ¬ i.1 < j.1 := by omega
    have h2 : ¬ i.1 = j.1 := by omega
    simp [h, h1, h2]
abbrev hcs (v : Hv) : List Value := [.int .u32 v.h.id.1, .int .u32 v.h.id.2, .int .u32 v.h.home, .int .u64 v.h.w, .int .u32 v.h.l, .int .u32 v.h.n, .slice v.ra v.h.rs.length v.rc, .slice v.wa v.h.ws.length v.wc]
theorem box_cells {w : World} {g : Nat} {y : Hv} (h : w.heap[g]? = some (.cells (hcs y).toArray 32)) : ∀ o v, (hcs y)[o]? = some v → w.cell? ⟨g, o, none⟩ = some v := fun o v hv => cell_of_obj h (by simpa using hv)
theorem ltI_tri {i j : Ix} (h : ltI i j = false) (h' : ltI j i = false) : i = j := by
  obtain ⟨a, b⟩ := i
  obtain ⟨c, d⟩ := j
  simp [ltI] at h h'
  have e : a = c := by omega
  subst e
  simp at h h'
  have e : b = d := by omega
  rw [e]
theorem ltI_of {i j : Ix} (h : ltI j i = false) (h' : i ≠ j) : ltI i j = true := by
  cases e : ltI i j with
  | true => rfl
  | false => exact absurd (ltI_tri e h) h'

end Go.Proofs.YtgplnbdankfobaaGreatDoor.Lk
