import Derived.Test.YtkdklphpcbhfkaaDoorSnConf
/- The law's confLeft; what a session that has done nothing tells. -/
namespace Go.Proofs.YtkdklphpcbhfkaaDoor.Rt
open Go.RowKit Go.Sort Go.Shelf
set_option linter.unusedVariables false

set_option maxRecDepth 100000 in
set_option maxHeartbeats 4000000 in
theorem left_is {c : Cf} {w : World} {g : Nat} (h : c.Ok w) (hl : c.ss.length ≤ 8796093022208) (hc : CellsS w g (sprF c.ss) (c.ss.length + 1)) :
    Calls Tryd.prog 7 #[(c.atW (some ⟨g, 0, none⟩) (c.ss.length + 1)).val, c.val] w fun e w' => e = .returned (.bool true) ∧ Below w.heap.size w w' := by
  obtain ⟨sh, cl, a, cp, ss, ca, pk, wi⟩ := c
  simp only at hl
  obtain ⟨wA, hwA⟩ : ∃ wA, wA = (w.alloc (.cells #[.int .i64 sh, .int .i64 cl, .slice (some ⟨g, 0, none⟩) ss.length (ss.length + 1), .int .i64 ca, .int .i64 pk, .int .u64 wi] 26)).alloc (.cells #[.int .i64 sh, .int .i64 cl, .slice a ss.length cp, .int .i64 ca, .int .i64 pk, .int .u64 wi] 26) := ⟨_, rfl⟩
  have hbA : Below w.heap.size w wA := by rw [hwA]; (repeat (first | exact Below.refl _ _ | assumption | refine Below.drew ?_ | refine Below.al ?_ _ | refine Below.setCell ?_ (by first | exact Nat.le_refl _ | (simp; omega) | (simp; done)) _ | refine Below.on ?_ (by assumption)))
  have x2 : wA.cell? ⟨w.heap.size, 2, none⟩ = some (.slice (some ⟨g, 0, none⟩) ss.length (ss.length + 1)) := by
    rw [hwA]
    have hb := BoxC.new w ⟨sh, cl, some ⟨g, 0, none⟩, ss.length + 1, ss, ca, pk, wi⟩ 26
    exact (hb.later (Below.al (Below.refl _ _) _)).c2
  have y2 : wA.cell? ⟨w.heap.size + 1, 2, none⟩ = some (.slice a ss.length cp) := by
    rw [hwA]
    have hb := BoxC.new (w.alloc (.cells #[.int .i64 sh, .int .i64 cl, .slice (some ⟨g, 0, none⟩) ss.length (ss.length + 1), .int .i64 ca, .int .i64 pk, .int .u64 wi] 26)) ⟨sh, cl, a, cp, ss, ca, pk, wi⟩ 26
    rw [World.size_alloc] at hb
    exact hb.c2
  have HRW := hid (h.row.later hbA)
  have HC := hid (hc.later hbA)
  have HBA := hid hbA
  clear h hc
  go_enter Tryd.func7, Tryd.ntmps7
  go_wp2_with fail
  rw [← hwA]
  have HX := hid y2
  clear hwA hbA x2 y2
  go_loopg [6] ss.length (fun gg s6 wr => ∃ k : Nat, k ≤ ss.length ∧ gg = ss.length - k ∧ s6 = .int .i64 k ∧ Hid (Below wA.heap.size wA wr))
  case atStart => exact ⟨0, by omega, by omega, rfl, Below.refl _ _⟩
  case round =>
    obtain ⟨k, hk, rfl, rfl, HB⟩ := hrel
    have y2 := cell_later HB.out HX.out
    by_cases hlt : k < ss.length
    · obtain ⟨b, off, rfl, cell⟩ := (HRW.out.later HB.out) k hlt
      have d0 := (HC.out.later HB.out) k (by omega)
      rw [sprF, if_pos hlt] at d0
      obtain ⟨y, hy⟩ : ∃ y, y = nthS ss k := ⟨_, rfl⟩
      rw [← hy] at d0 cell
      clear hy
      go_wp2_with fail
      go_region
      go_wp2_with fail
      go_roundg (ss.length - (k + 1))
      case measure => omega
      case rel => exact ⟨k + 1, by omega, rfl, by go_num, Below.drew HB.out⟩
    · obtain rfl : k = ss.length := by omega
      have d0 := (HC.out.later HB.out) ss.length (by omega)
      rw [sprF, if_neg (Nat.lt_irrefl _)] at d0
      go_wp2_with fail
      go_ret
      exact ⟨rfl, Below.on HBA.out HB.out⟩

theorem token_is {w : World} {p : Nat} (h : Fresh w p) : Calls Tryd.prog 10 #[.pointer (some ⟨p, 0, none⟩)] w fun e w' => e = .returned (.string ⟨#[]⟩) ∧ Below w.heap.size w w' := by
  have c := h.tk
  clear h
  go_enter Tryd.func10, Tryd.ntmps10
  go_wp2_with fail
  go_ret
  exact ⟨rfl, Below.refl _ _⟩
theorem tick_is {w : World} {p : Nat} (h : Fresh w p) : Calls Tryd.prog 11 #[.pointer (some ⟨p, 0, none⟩)] w fun e w' => e = .returned (.slice none 0 0) ∧ Below w.heap.size w w' := by
  have HU := hid (unanswered_is (w := w) (p := p) (o := 17) h.m)
  clear h
  go_enter Tryd.func11, Tryd.ntmps11
  go_wp2_with fail
  refine HU.out.mono ?_
  rintro e w1 ⟨rfl, hb⟩
  go_wp2_with fail
  go_ret
  exact ⟨rfl, hb⟩
theorem open_is {w : World} {p : Nat} (h : Fresh w p) : Calls Tryd.prog 9 #[.pointer (some ⟨p, 0, none⟩)] w fun e w' => e = .returned (.tuple #[.agg #[.int .u32 0, .int .u32 0], .agg #[.int .u64 0, .int .u32 0, .int .u32 0], .bool false]) ∧ Below w.heap.size w w' := by
  obtain ⟨wA, hwA⟩ : ∃ wA, wA = (w.alloc (.cells #[.int .u32 0, .int .u32 0] 41)).alloc (.cells #[.int .u64 0, .int .u32 0, .int .u32 0] 43) := ⟨_, rfl⟩
  have hb : Below w.heap.size w wA := by rw [hwA]; (repeat (first | exact Below.refl _ _ | assumption | refine Below.drew ?_ | refine Below.al ?_ _ | refine Below.setCell ?_ (by first | exact Nat.le_refl _ | (simp; omega) | (simp; done)) _ | refine Below.on ?_ (by assumption)))
  have c := cell_later hb h.op
  rw [hwA] at c
  clear h
  go_enter Tryd.func9, Tryd.ntmps9
  clear hwA hb
  go_wp2_with fail
  refine bodyPost_ret (v := .tuple #[.agg #[.int .u32 0, .int .u32 0], .agg #[.int .u64 0, .int .u32 0, .int .u32 0], .bool false]) (by simp [results, Tryd.results9, go_sem]) rfl ?_
  exact ⟨rfl, by (repeat (first | exact Below.refl _ _ | assumption | refine Below.drew ?_ | refine Below.al ?_ _ | refine Below.setCell ?_ (by first | exact Nat.le_refl _ | (simp; omega) | (simp; done)) _ | refine Below.on ?_ (by assumption)))⟩
theorem wait_is {w : World} {p : Nat} (h : Fresh w p) : Calls Tryd.prog 8 #[.pointer (some ⟨p, 0, none⟩)] w fun e w' => e = .returned (.tuple #[.agg #[.int .i64 0, .bool false, .bool false, .bool false, .string ⟨#[]⟩, .string ⟨#[]⟩, .string ⟨#[]⟩, .string ⟨#[]⟩, .int .i64 0], .bool false]) ∧ Below w.heap.size w w' := by
  obtain ⟨wA, hwA⟩ : ∃ wA, wA = w.alloc (.cells #[.int .i64 0, .bool false, .bool false, .bool false, .string ⟨#[]⟩, .string ⟨#[]⟩, .string ⟨#[]⟩, .string ⟨#[]⟩, .int .i64 0] 37) := ⟨_, rfl⟩
  have hb : Below w.heap.size w wA := by rw [hwA]; (repeat (first | exact Below.refl _ _ | assumption | refine Below.drew ?_ | refine Below.al ?_ _ | refine Below.setCell ?_ (by first | exact Nat.le_refl _ | (simp; omega) | (simp; done)) _ | refine Below.on ?_ (by assumption)))
  obtain ⟨-, k, r, a, b, t, y, h, v, l, aw, -, -⟩ := h.later hb
  rw [hwA] at k r a b t y h v l aw
  go_enter Tryd.func8, Tryd.ntmps8
  clear hwA hb
  go_wp2_with fail
  go_region
  go_wp2_with fail
  refine bodyPost_ret (v := .tuple #[.agg #[.int .i64 0, .bool false, .bool false, .bool false, .string ⟨#[]⟩, .string ⟨#[]⟩, .string ⟨#[]⟩, .string ⟨#[]⟩, .int .i64 0], .bool false]) (by simp [results, Tryd.results8, go_sem]) rfl ?_
  exact ⟨rfl, by (repeat (first | exact Below.refl _ _ | assumption | refine Below.drew ?_ | refine Below.al ?_ _ | refine Below.setCell ?_ (by first | exact Nat.le_refl _ | (simp; omega) | (simp; done)) _ | refine Below.on ?_ (by assumption)))⟩
end Go.Proofs.YtkdklphpcbhfkaaDoor.Rt
