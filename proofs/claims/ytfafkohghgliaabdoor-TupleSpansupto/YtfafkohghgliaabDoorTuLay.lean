import Derived.Test.YtfafkohghgliaabDoorTuBt
import Derived.Test.YtfafkohghgliaabDoorTuRefV
import Derived.Deep.RegionWith
import Derived.Deep.RegionHeld3
/- An integer's bytes, laid into an array. -/
namespace Go.Proofs.YtfafkohghgliaabDoor.Tu
open Go.RowKit Go.Sort Go.Proofs.YtfafkohghgliaabDoor
set_option linter.unusedVariables false
set_option linter.unusedSectionVars false
variable [DecidableEq Vl]

/-- the eight bytes -/
def layL (f : Nat) : List Nat := List.replicate (8 - (mb f).length) 0 ++ mb f
theorem layL_len {f : Nat} (h : (mb f).length ≤ 8) : (layL f).length = 8 := by simp [layL]; omega
theorem rep_set {p : Nat} (l : List Nat) (d : Nat) : (bc (List.replicate (p + 1) 0 ++ l)).toArray.setIfInBounds p (.int .u8 (d : Int)) = (bc (List.replicate p 0 ++ d :: l)).toArray := by
  apply Array.ext'
  rw [Array.toList_setIfInBounds]
  simp only [bc, List.map_append, List.map_replicate, List.map_cons]
  rw [List.replicate_succ', List.append_assoc, List.set_append_right _ _ (by simp)]
  simp
theorem eight : ∀ {l : List Nat}, l.length = 8 → ∃ a b c d e f g h : Nat, l = [a, b, c, d, e, f, g, h]
  | [a, b, c, d, e, f, g, h], _ => ⟨a, b, c, d, e, f, g, h, rfl⟩
theorem room_len : Tryd.prog.arrayLen 96 = 8 := by kernel_rfl
theorem room_elem : Tryd.prog.elem 96 = 5 := by kernel_rfl
theorem size_u8 (w : World) : (sizeOf 5).run Tryd.prog w = .ok 1 w := by
  obtain ⟨i0, hi, hz⟩ := Option.map_eq_some_iff.1 infoU8
  simp only [Prod.mk.injEq] at hz
  simp [sizeOf, typeInfo, hi, hz.2.1]
/-- room[p:] -/
theorem slice_room (r : Nat) {p k : Nat} (hp : p + k = 8) : ∃ q, (∀ w, (Instr.sliceAt 96 (.pointer (some ⟨r, 0, none⟩)) (some (.int .i64 (p : Int))) none none).run Tryd.prog w = .ok (.slice (some ⟨r, q, none⟩) k k) w) ∧ (p < 8 → q = p) := by
  have h := fun w => run_sliceAt_array_l (P := Tryd.prog) w 96 ⟨r, 0, none⟩ (by rw [room_len, room_elem]; exact Tryd.underlying96) .i64 (p : Int) (by omega) (by rw [room_len]; omega)
  by_cases h8 : p = 8
  · subst h8
    obtain rfl : k = 0 := by omega
    refine ⟨0, fun w => ?_, fun h => absurd h (by omega)⟩
    rw [h, room_elem, room_len, size_u8]
    simp [slicedAt]
  · refine ⟨p, fun w => ?_, fun _ => rfl⟩
    have hne : ¬ 8 = p := fun e => h8 e.symm
    have hk : k = 8 - p := by omega
    rw [h, room_elem, room_len, size_u8]
    simp [slicedAt, hne, Addr.add, hk]
    intro e; exact e.symm
theorem room_cells {w : World} {r p q : Nat} {l : List Nat} {T : TypeId} (hr : w.heap[r]? = some (.cells (bc (List.replicate p 0 ++ l)).toArray T (0, 0))) (hq : p < 8 → q = p) (hp : p + l.length = 8) :
    ∀ i, (hi : i < l.length) → w.cell? ⟨r, q + i, none⟩ = some (.int .u8 (l[i] : Int)) := fun i hi => by
  rw [hq (by omega), Lib.cell_of_heap hr, List.getElem?_toArray, bc_get (by simp; omega)]
  simp
/-- what lay answers -/
def Lay (f : Nat) (w : World) (e : Ending) (w' : World) : Prop := ∃ a0 a1 a2 a3 a4 a5 a6 a7 p : Nat, p + (mb f).length = 8 ∧ List.replicate p 0 ++ mb f = [a0, a1, a2, a3, a4, a5, a6, a7] ∧
  e = .returned (.tuple #[.agg #[.int .u8 a0, .int .u8 a1, .int .u8 a2, .int .u8 a3, .int .u8 a4, .int .u8 a5, .int .u8 a6, .int .u8 a7], .int .i64 (p : Int)]) ∧ Below w.heap.size w w'
theorem below8 {B g : Nat} {a w : World} (h : Below B a w) (hg : B ≤ g) (v0 v1 v2 v3 v4 v5 v6 v7 : Value) : Below B a ((((((((w.setCell ⟨g, 0, none⟩ v0).setCell ⟨g, 1, none⟩ v1).setCell ⟨g, 2, none⟩ v2).setCell ⟨g, 3, none⟩ v3).setCell ⟨g, 4, none⟩ v4).setCell ⟨g, 5, none⟩ v5).setCell ⟨g, 6, none⟩ v6).setCell ⟨g, 7, none⟩ v7) :=
  (Below.setCell (p := ⟨g, 7, none⟩) (Below.setCell (p := ⟨g, 6, none⟩) (Below.setCell (p := ⟨g, 5, none⟩) (Below.setCell (p := ⟨g, 4, none⟩) (Below.setCell (p := ⟨g, 3, none⟩) (Below.setCell (p := ⟨g, 2, none⟩) (Below.setCell (p := ⟨g, 1, none⟩) (Below.setCell (p := ⟨g, 0, none⟩) h hg v0) hg v1) hg v2) hg v3) hg v4) hg v5) hg v6) hg v7)
set_option maxHeartbeats 2000000 in
theorem lay_is {f : Nat} (hf : (f : Int) ≤ 18446744073709551615) (h8 : (mb f).length ≤ 8) (w : World) :
    Calls Tryd.prog 65 #[.int .u64 f] w (Lay f w) := by
  go_enter Tryd.func65, Tryd.ntmps65
  go_wp2_with fail
  go_loopg [0, 3] f (fun g s0 s3 wr => ∃ (m p : Nat) (l : List Nat), g = m ∧ (m : Int) ≤ 18446744073709551615 ∧ p ≤ 8 ∧ s0 = .int .u64 m ∧ s3 = .int .i64 p ∧ Hid (mb f = mb m ++ l ∧ p + l.length = 8) ∧ Hid (wr.heap[w.heap.size]? = some (.cells (bc (List.replicate p 0 ++ l)).toArray 96 (0, 0))) ∧ Hid (Below w.heap.size w wr))
  case atStart => exact ⟨f, 8, [], rfl, hf, Nat.le_refl _, rfl, rfl, hid ⟨by simp, rfl⟩, hid (World.alloc_heap_new w _), Below.al (Below.refl _ _) _⟩
  case round =>
    obtain ⟨m, p, l, rfl, hm64, hp, rfl, rfl, HP, HH, HB⟩ := hrel
    by_cases hlt : 0 < gk
    · have hp1 : 1 ≤ p := by
        have e := congrArg List.length HP.out.1
        rw [List.length_append, mb_pos (show gk ≠ 0 by omega), List.length_append] at e
        have := HP.out.2
        simp at e
        omega
      obtain ⟨q, rfl⟩ : ∃ q, p = q + 1 := ⟨p - 1, by omega⟩
      have hq : q < 8 := by omega
      have HN : Hid (mb f = mb (gk / 256) ++ (gk % 256 :: l) ∧ q + (gk % 256 :: l).length = 8) := by
        have e := HP.out.1
        rw [mb_pos (show gk ≠ 0 by omega), List.append_assoc] at e
        refine ⟨e, ?_⟩
        have := HP.out.2
        simp; omega
      have hc := Lib.cell_of_heap HH.out q
      have hfr := Lib.frozen_of_heap HH.out q
      have hg : (bc (List.replicate (q + 1) 0 ++ l)).toArray[q]? = some (.int .u8 0) := by
        rw [List.getElem?_toArray, bc_get (by simp; omega)]
        simp [List.getElem_replicate]
      rw [hg] at hc
      clear hg
      have HS := hid (heap_setCell_same wr w.heap.size q _ _ (.int .u8 (((gk % 256 : Nat)) : Int)) HH.out)
      go_wp2_with fail
      go_roundg (gk / 256)
      case measure => omega
      case rel =>
        refine ⟨gk / 256, q, gk % 256 :: l, rfl, by omega, by omega, by go_num, by go_num, HN, ?_, ?_⟩
        · have := HS.out
          rw [rep_set] at this
          exact hid this
        · exact hid (Below.setCell (p := ⟨w.heap.size, q, none⟩) HB.out (Nat.le_refl _) _)
    · obtain rfl : gk = 0 := by omega
      have HL : Hid (mb f = l) := by have := HP.out.1; rw [mb_zero] at this; exact this
      have HE : Hid (layL f = List.replicate p 0 ++ l ∧ p = 8 - (mb f).length) := by
        have h2 := HP.out.2
        rw [← HL.out] at h2
        have : p = 8 - (mb f).length := by omega
        exact ⟨by unfold layL; rw [← this, HL.out], this⟩
      obtain ⟨a0, a1, a2, a3, a4, a5, a6, a7, hL⟩ := eight (l := List.replicate p 0 ++ l) (by rw [← HE.out.1]; exact layL_len h8)
      have hh := HH.out
      rw [hL] at hh
      have k0 := Lib.cell_of_heap hh 0; have k1 := Lib.cell_of_heap hh 1; have k2 := Lib.cell_of_heap hh 2; have k3 := Lib.cell_of_heap hh 3
      have k4 := Lib.cell_of_heap hh 4; have k5 := Lib.cell_of_heap hh 5; have k6 := Lib.cell_of_heap hh 6; have k7 := Lib.cell_of_heap hh 7
      have f0 := Lib.frozen_of_heap hh 0; have f1 := Lib.frozen_of_heap hh 1; have f2 := Lib.frozen_of_heap hh 2; have f3 := Lib.frozen_of_heap hh 3
      have f4 := Lib.frozen_of_heap hh 4; have f5 := Lib.frozen_of_heap hh 5; have f6 := Lib.frozen_of_heap hh 6; have f7 := Lib.frozen_of_heap hh 7
      simp [bc] at k0 k1 k2 k3 k4 k5 k6 k7
      have HLL := hid hL
      clear hh hL
      go_wp2_with fail
      refine bodyPost_ret (v := .tuple #[.agg #[.int .u8 a0, .int .u8 a1, .int .u8 a2, .int .u8 a3, .int .u8 a4, .int .u8 a5, .int .u8 a6, .int .u8 a7], .int .i64 (p : Int)]) (by simp [results, Tryd.results65, go_sem, k0, k1, k2, k3, k4, k5, k6, k7]) rfl ⟨a0, a1, a2, a3, a4, a5, a6, a7, p, ?_, ?_, rfl, ?_⟩
      · have := HP.out.2; rw [← HL.out] at this; exact this
      · rw [HL.out]; exact HLL.out
      · with_reducible exact below8 HB.out (Nat.le_refl _) _ _ _ _ _ _ _ _
end Go.Proofs.YtfafkohghgliaabDoor.Tu
