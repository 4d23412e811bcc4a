import Derived.Test.YtiheilkjlapoiaaFeCmp
import Derived.Deep.RegionHeld3
/- feed.inTurn: which of two commits comes first. -/
namespace Go.Proofs.Ytiheilkjlapoiaa.Lg
open Go.RowKit Go.Sort Go.Shelf Go.Lib Lk
set_option linter.unusedVariables false

theorem or3_is {x y z r : Int} {g : Nat} {w : World} (hr : r = if x = 0 then (if y = 0 then z else y) else x) (h0 : w.cell? ⟨g, 0, none⟩ = some (.int .i64 x)) (h1 : w.cell? ⟨g, 1, none⟩ = some (.int .i64 y)) (h2 : w.cell? ⟨g, 2, none⟩ = some (.int .i64 z)) :
    Calls Try.prog 23 #[.slice (some ⟨g, 0, none⟩) 3 3] w fun e w' => e = .returned (.int .i64 r) ∧ w' = w := by
  have HR := hid hr
  clear hr
  go_enter Try.func23, Try.ntmps23
  go_wp2_with fail
  go_loopg [8] 3 (fun k s8 wr => wr = w ∧ ((k = 3 ∧ s8 = .int .i64 0) ∨ (k = 2 ∧ s8 = .int .i64 1 ∧ x = 0) ∨ (k = 1 ∧ s8 = .int .i64 2 ∧ x = 0 ∧ y = 0) ∨ (k = 0 ∧ s8 = .int .i64 3 ∧ x = 0 ∧ y = 0 ∧ z = 0)))
  case atStart => exact ⟨rfl, .inl ⟨rfl, rfl⟩⟩
  case round =>
    obtain ⟨rfl, ⟨rfl, rfl⟩ | ⟨rfl, rfl, rfl⟩ | ⟨rfl, rfl, rfl, rfl⟩ | ⟨rfl, rfl, rfl, rfl, rfl⟩⟩ := hrel
    · by_cases hx : x = 0
      · subst hx
        go_wp2_with fail
        go_roundg 2
        case measure => omega
        case rel => exact ⟨rfl, .inr (.inl ⟨rfl, by go_num, by simp⟩)⟩
      · have hx' : (x != 0) = true := by simpa using hx
        have e : r = x := by rw [HR.out, if_neg hx]
        subst e
        go_wp2_with fail
        go_ret
        exact ⟨rfl, rfl⟩
    · by_cases hy : y = 0
      · subst hy
        go_wp2_with fail
        go_roundg 1
        case measure => omega
        case rel => exact ⟨rfl, .inr (.inr (.inl ⟨rfl, by go_num, by simp, by simp⟩))⟩
      · have hy' : (y != 0) = true := by simpa using hy
        have e : r = y := by rw [HR.out]; simp [hy]
        subst e
        go_wp2_with fail
        go_ret
        exact ⟨rfl, rfl⟩
    · by_cases hz : z = 0
      · subst hz
        go_wp2_with fail
        go_roundg 0
        case measure => omega
        case rel => exact ⟨rfl, .inr (.inr (.inr ⟨rfl, by go_num, by simp, by simp, by simp⟩))⟩
      · have hz' : (z != 0) = true := by simpa using hz
        have e : r = z := by rw [HR.out]; simp
        subst e
        go_wp2_with fail
        go_ret
        exact ⟨rfl, rfl⟩
    · have e : r = 0 := by rw [HR.out]; simp
      subst e
      go_wp2_with fail
      go_ret
      exact ⟨rfl, rfl⟩

set_option maxHeartbeats 1000000 in
theorem inTurn_is (v u : En) (w : World) : Calls Try.prog 17 #[v.val, u.val] w fun e w' => e = .returned (.int .i64 (cmpE v u)) ∧ ∃ q os, w' = grow (w.drewN q) os := by
  obtain ⟨⟨vc, vs⟩, vh, vo, vw, vl, vn⟩ := v
  obtain ⟨⟨uc, us⟩, uh, uo, uw, ul, un⟩ := u
  obtain ⟨r, hr⟩ : ∃ r, r = if cmpI vw vl vn uw ul un = 0 then (if cmpZ vc uc = 0 then cmpZ vs us else cmpZ vc uc) else cmpI vw vl vn uw ul un := ⟨_, rfl⟩
  rw [show cmpE ⟨(vc, vs), vh, vo, vw, vl, vn⟩ ⟨(uc, us), uh, uo, uw, ul, un⟩ = r from hr.symm]
  have HR := hid hr
  clear hr
  obtain ⟨wb, hwb⟩ : ∃ wb, wb = (w.alloc (.cells #[.int .u32 vc, .int .u32 vs, .int .u32 vh, .int .i64 vo, .int .u64 vw, .int .u32 vl, .int .u32 vn] 60)).alloc (.cells #[.int .u32 uc, .int .u32 us, .int .u32 uh, .int .i64 uo, .int .u64 uw, .int .u32 ul, .int .u32 un] 60) := ⟨_, rfl⟩
  have ha : wb.heap[w.heap.size]? = some (.cells #[.int .u32 vc, .int .u32 vs, .int .u32 vh, .int .i64 vo, .int .u64 vw, .int .u32 vl, .int .u32 vn] 60) := by rw [hwb, (MapKept.heap_alloc _ _).2 _ (by simp)]; exact (MapKept.heap_alloc _ _).1
  have hb : wb.heap[w.heap.size + 1]? = some (.cells #[.int .u32 uc, .int .u32 us, .int .u32 uh, .int .i64 uo, .int .u64 uw, .int .u32 ul, .int .u32 un] 60) := by
    rw [hwb, show w.heap.size + 1 = (w.alloc (.cells #[.int .u32 vc, .int .u32 vs, .int .u32 vh, .int .i64 vo, .int .u64 vw, .int .u32 vl, .int .u32 vn] 60)).heap.size by simp]
    exact (MapKept.heap_alloc _ _).1
  have a0 : wb.cell? ⟨w.heap.size, 0, none⟩ = some (.int .u32 vc) := cell_of_obj ha rfl
  have a1 : wb.cell? ⟨w.heap.size, 1, none⟩ = some (.int .u32 vs) := cell_of_obj ha rfl
  have a4 : wb.cell? ⟨w.heap.size, 4, none⟩ = some (.int .u64 vw) := cell_of_obj ha rfl
  have a5 : wb.cell? ⟨w.heap.size, 5, none⟩ = some (.int .u32 vl) := cell_of_obj ha rfl
  have a6 : wb.cell? ⟨w.heap.size, 6, none⟩ = some (.int .u32 vn) := cell_of_obj ha rfl
  have b0 : wb.cell? ⟨w.heap.size + 1, 0, none⟩ = some (.int .u32 uc) := cell_of_obj hb rfl
  have b1 : wb.cell? ⟨w.heap.size + 1, 1, none⟩ = some (.int .u32 us) := cell_of_obj hb rfl
  have b4 : wb.cell? ⟨w.heap.size + 1, 4, none⟩ = some (.int .u64 uw) := cell_of_obj hb rfl
  have b5 : wb.cell? ⟨w.heap.size + 1, 5, none⟩ = some (.int .u32 ul) := cell_of_obj hb rfl
  have b6 : wb.cell? ⟨w.heap.size + 1, 6, none⟩ = some (.int .u32 un) := cell_of_obj hb rfl
  have HG : Hid (Grew w wb) := by show Grew _ _; rw [hwb]; exact ((Grew.refl w).al _).al _
  have C1 := hid (fun W => compare_is vw vl vn uw ul un W)
  clear ha hb
  go_enter Try.func17, Try.ntmps17
  go_wp2_with fail
  rw [← hwb]
  clear hwb
  go_region_held3 (fun w' => w'.cell? ⟨w.heap.size, 0, none⟩ = some (.int .u32 vc) ∧ w'.cell? ⟨w.heap.size, 1, none⟩ = some (.int .u32 vs) ∧ w'.cell? ⟨w.heap.size, 4, none⟩ = some (.int .u64 vw) ∧ w'.cell? ⟨w.heap.size, 5, none⟩ = some (.int .u32 vl) ∧ w'.cell? ⟨w.heap.size, 6, none⟩ = some (.int .u32 vn) ∧ w'.cell? ⟨w.heap.size + 1, 0, none⟩ = some (.int .u32 uc) ∧ w'.cell? ⟨w.heap.size + 1, 1, none⟩ = some (.int .u32 us) ∧ w'.cell? ⟨w.heap.size + 1, 4, none⟩ = some (.int .u64 uw) ∧ w'.cell? ⟨w.heap.size + 1, 5, none⟩ = some (.int .u32 ul) ∧ w'.cell? ⟨w.heap.size + 1, 6, none⟩ = some (.int .u32 un) ∧ Grew wb w')
    ((refine (fun (hG : Grew wb _) => (fun (hB : Below wb.heap.size wb _) => ⟨cell_later hB a0, cell_later hB a1, cell_later hB a4, cell_later hB a5, cell_later hB a6, cell_later hB b0, cell_later hB b1, cell_later hB b4, cell_later hB b5, cell_later hB b6, hG⟩) hG.below) ?_; (repeat (first | with_reducible exact Grew.refl _ | with_reducible assumption | with_reducible refine Grew.al ?_ _ | with_reducible refine Grew.drew ?_ | with_reducible refine Grew.trans ?_ (by assumption)))))
    (first
      | (go_at_call 24; refine (C1.out _).mono ?_; rintro e w1 ⟨rfl, hg1⟩)
      | (go_at_call 25; refine (cmpU_is _ _ _).mono ?_; rintro e w1 ⟨rfl, rfl⟩)
      | (go_at_call 23; refine (or3_is HR.out (by simp [go_sem]) (by simp [go_sem]) (by simp [go_sem])).mono ?_; rintro e w3 ⟨rfl, rfl⟩))
  all_goals (try go_wp2_with fail)
  all_goals go_ret
  all_goals refine ⟨rfl, HG.out.trans ?_⟩
  all_goals (repeat (first | with_reducible exact Grew.refl _ | with_reducible assumption | with_reducible refine Grew.al ?_ _ | with_reducible refine Grew.drew ?_ | with_reducible refine Grew.trans ?_ (by assumption)))
end Go.Proofs.Ytiheilkjlapoiaa.Lg
