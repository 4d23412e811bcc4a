import Derived.Test.YtkdklphpcbhfkaaDoorSnText
import Derived.RangeFuncNested
import Derived.RangeFuncBound
import Derived.RangeFuncCalls
import Derived.RangeFuncLeaves
import Derived.RangeFuncBox
import Derived.Shelf.Abstract
import Derived.Shelf.RegionOpen
import Derived.OwnWalkIn
import Derived.TacticsInMore
import Derived.LoopNIn
import Derived.LoopIn
import Derived.Maps.AppendAt
import Derived.Maps.RangeWalk
import Derived.Sort.LoopGhostIn
/- slices.Sorted(maps.Keys(m)) where m is nil: nothing. -/
namespace Go.Proofs.YtkdklphpcbhfkaaDoor.Rt
open Go.RowKit Go.Sort Go.Shelf Go.Lib
set_option linter.unusedVariables false
attribute [local go_sem] Oper.semAt_some

abbrev KEYS : Nat := 28
abbrev KEYS1 : Nat := 42
theorem run_range_nil (w : World) : (Instr.range 62 (.map none)).run Tryd.prog w = .ok (.pointer (some ⟨w.heap.size, 0, none⟩)) (w.alloc (.mapIter none 0 #[] 0)) := by
  simp [Instr.range, run_underlying Tryd.underlying62, Result.andThen]
theorem run_next_nil {w : World} {r : Nat} (h : w.heap[r]? = some (.mapIter none 0 #[] 0)) (ty : TypeId) : (Instr.next (.pointer (some ⟨r, 0, none⟩)) false ty).run Tryd.prog w = .ok (.tuple #[.bool false]) w := by
  simp [Instr.next, getObj, Sem.run, h, Result.andThen]
theorem below_grown {w w' : World} (h : Below w.heap.size w w') : w.grownBy w' none := ⟨h.os, h.tape, h.output, h.size, fun k hk _ => h.block k hk⟩

set_option maxRecDepth 100000 in
set_option maxHeartbeats 1000000 in
theorem keys1_in (n : Nat) (hn : 1 ≤ n) (l Bm : Nat) (J Jx : List Int → World → Prop)
    (W : World) (hJ : AbidesFrom W.heap.size J) (hm : W.cell? ⟨Bm, 0, none⟩ = some (.map none)) (h0 : J [] W) :
    CallsIn Fence.wide n Tryd.prog KEYS1 #[.func (.yield l) #[] #[], .pointer (some ⟨Bm, 0, none⟩)] W fun e W' => (∃ v, e = .returned v) ∧ ((∃ xs, xs = [] ∧ J xs W') ∨ (∃ pre, True ∧ Jx pre W')) := by
  have hr := run_range_nil W
  have H1 := hid (hJ [] W _ none h0 (below_grown (Below.al (Below.refl _ _) (.mapIter none 0 #[] 0))) (fun r e => by cases e))
  have hnx := run_next_nil (w := W.alloc (.mapIter none 0 #[] 0)) (World.alloc_heap_new W _)
  clear hJ h0
  refine callsIn_of_wp Tryd.func42 rfl trivial ?_ rfl
  simp only [Tryd.ntmps42, List.size_toArray, List.length_cons, List.length_nil, Nat.reduceAdd, Nat.reduceSub, Array.replicate_succ, Array.replicate_zero, List.push_toArray, List.append_toArray, List.nil_append, List.cons_append]
  gi_wp2
  gi_loopg [3] 0 (fun g s3 wr => g = 0 ∧ wr = W.alloc (.mapIter none 0 #[] 0))
  case atStart => exact ⟨rfl, rfl⟩
  case round =>
    obtain ⟨rfl, rfl⟩ := hrel
    gi_wp2
    first | go_end0 | refine bodyPost_ret (results_none rfl _ _ _) rfl ?_
    exact ⟨⟨_, rfl⟩, .inl ⟨[], rfl, H1.out⟩⟩
theorem keys_is (w : World) : Calls Tryd.prog KEYS #[.map none] w fun e w' => e = .returned (.func (.func KEYS1) #[] #[.pointer (some ⟨w.heap.size, 0, none⟩)]) ∧ w' = w.alloc (.cells #[.map none] 62) := by
  go_enter Tryd.func28, Tryd.ntmps28
  go_wp2_with fail
  go_ret
  exact ⟨rfl, rfl⟩
theorem keys_stops (n : Nat) (hn : 1 ≤ n) (Bm : Nat) (w : World) (hm : w.cell? ⟨Bm, 0, none⟩ = some (.map none)) :
    SeqStopsK Fence.wide n Tryd.prog KEYS1 #[.pointer (some ⟨Bm, 0, none⟩)] (fun x : Int => #[.int .u32 x]) KeepsWalks (fun xs => xs = []) (fun _ => True) 0 w := fun l J Jx W hW hJ _ hY h0 =>
  keys1_in n hn l Bm J Jx W hJ (cell_later hW hm) h0

set_option maxRecDepth 100000 in
set_option maxHeartbeats 2000000 in
theorem appendSeq_is {w : World} {Bm : Nat} (hm : w.cell? ⟨Bm, 0, none⟩ = some (.map none)) :
    Calls Tryd.prog 49 #[.slice none 0 0, .func (.func KEYS1) #[] #[.pointer (some ⟨Bm, 0, none⟩)]] w fun e w' => e = .returned (.slice none 0 0) ∧ Below w.heap.size w w' := by
  refine (callsIn_wide (n := 5)).1 ?_
  have hb0 : Below w.heap.size w (w.alloc (.cells #[.slice none 0 0] 87)) := Below.al (Below.refl _ _) _
  have bO := Boxed.new w 87 (.slice none 0 0)
  have hst := keys_stops 4 (by decide) Bm _ (cell_later hb0 hm)
  refine callsIn_of_wp_marks Tryd.func49 rfl trivial ?_ rfl
  simp only [Tryd.ntmps49, List.size_toArray, List.length_cons, List.length_nil, Nat.reduceAdd, Nat.reduceSub, Array.replicate_succ, Array.replicate_zero, List.push_toArray, List.append_toArray, List.nil_append, List.cons_append]
  gi_wp2
  obtain ⟨w0, hw0⟩ : ∃ w0, w0 = w.alloc (.cells #[.slice none 0 0] 87) := ⟨_, rfl⟩
  rw [← hw0] at bO hb0 hst ⊢
  clear hw0
  have hs0 : w.heap.size < w0.heap.size := bO.lt
  refine wpIn_rangeFunc_ownG rfl (by decide) (gf := KEYS1) (lb := #[.pointer (some ⟨Bm, 0, none⟩)]) rfl trivial (enters_of Tryd.func42 (by kernel_rfl) rfl)
    hst walksK_t walksK_b (Below.refl _ _) (fun _ => rfl)
    (fun pre W => (∃ v, Boxed W w.heap.size 87 v ∧ W.ownsRow w.heap.size 22 1 v pre.length (pre.map (fun x : Int => Value.int .u32 x)) ∧ v = .slice none 0 0) ∧ Below w.heap.size w W)
    (fun _ _ _ => False)
    (OwnFrom.and (Own.from (holdsRow_own w.heap.size w.heap.size 87 22 1 (fun pre : List Int => pre.length) (fun pre => pre.map (fun x : Int => Value.int .u32 x)) (fun _ v => v = .slice none 0 0)) _) (ownFrom_below (Nat.le_refl _) (by omega)))
    (fun _ _ _ _ _ hs _ _ => hs)
    ⟨⟨_, bO, World.ownsRow_nil _ _ _ _, rfl⟩, hb0⟩
    (fun x => { tmps := #[.slice none 0 0, .func (.func KEYS1) #[] #[.pointer (some ⟨Bm, 0, none⟩)], .pointer (some ⟨w.heap.size, 0, none⟩), undef, .slice none 0 0, .int .u32 x, .func (.func KEYS1) #[] #[.pointer (some ⟨Bm, 0, none⟩)], .int .u32 x, undef, undef, undef, undef, undef], defers := [] }) ?assign ?body ?done ?stop
  case assign =>
    intro y x W K hK
    gi_wp2
    exact hK
  case body =>
    rintro y pre x W _ hlt
    omega
  case done =>
    rintro D ys W hD hys ⟨⟨v, hv, hrow, rfl⟩, hB⟩ hK
    have hc := hv.cell
    gi_wp2
    refine ⟨by simp, .inl ⟨_, _, rfl, run_takeDeferred hK, ?_⟩⟩
    exact ⟨_, results_tmp rfl _ _ _, rfl, hB.trans (belowK_b (w := w) (Nat.le_refl _) W D _ _ (by omega) hK rfl rfl)⟩
  case stop =>
    rintro D c pre W _ _ h _
    exact h.elim
theorem collect_is {w : World} {Bm : Nat} (hm : w.cell? ⟨Bm, 0, none⟩ = some (.map none)) :
    Calls Tryd.prog 40 #[.func (.func KEYS1) #[] #[.pointer (some ⟨Bm, 0, none⟩)]] w fun e w' => e = .returned (.slice none 0 0) ∧ Below w.heap.size w w' := by
  have AP := hid (appendSeq_is hm)
  clear hm
  go_enter Tryd.func40, Tryd.ntmps40
  go_wp2_with fail
  refine AP.out.mono ?_
  rintro e w1 ⟨rfl, h1⟩
  go_wp2_with fail
  go_ret
  exact ⟨rfl, h1⟩
theorem insertion_is (w : World) : Calls Tryd.prog 58 #[.slice none 0 0, .int .i64 0, .int .i64 0] w fun e w' => e = .returned (.tuple #[]) ∧ w' = w := by
  go_enter Tryd.func58, Tryd.ntmps58
  go_wp2_with fail
  go_loopg [6] 0 (fun g s6 wr => g = 0 ∧ wr = w ∧ s6 = .int .i64 1)
  case atStart => exact ⟨rfl, rfl, rfl⟩
  case round =>
    obtain ⟨rfl, rfl, rfl⟩ := hrel
    go_wp2_with fail
    go_end0
    exact ⟨rfl, rfl⟩
set_option maxRecDepth 100000 in
set_option maxHeartbeats 2000000 in
theorem pdq_is (k : Int) (w : World) : Calls Tryd.prog 50 #[.slice none 0 0, .int .i64 0, .int .i64 0, .int .i64 k] w fun e w' => e = .returned (.tuple #[]) ∧ w' = w := by
  go_enter Tryd.func50, Tryd.ntmps50
  go_wp2_with fail
  go_loopg [1, 2, 3, 8, 9] 0 (fun g s1 s2 s3 s8 s9 wr => g = 0 ∧ wr = w ∧ s1 = .int .i64 0 ∧ s2 = .int .i64 0 ∧ s3 = .int .i64 k ∧ s8 = .bool true ∧ s9 = .bool true)
  case atStart => exact ⟨rfl, rfl, rfl, rfl, rfl, rfl, rfl⟩
  case round =>
    obtain ⟨rfl, rfl, rfl, rfl, rfl, rfl, rfl⟩ := hrel
    go_wp2_with fail
    refine (insertion_is _).mono ?_
    rintro e w1 ⟨rfl, rfl⟩
    go_wp2_with fail
    first | go_end0 | refine bodyPost_ret (results_none rfl _ _ _) rfl ?_
    exact ⟨rfl, rfl⟩
theorem sort_is (w : World) : Calls Tryd.prog 41 #[.slice none 0 0] w fun e w' => e = .returned (.tuple #[]) ∧ Below w.heap.size w w' := by
  go_enter Tryd.func41, Tryd.ntmps41
  go_wp2_with fail
  refine (Tryd.bits_Len 0 _ (by decide) (by decide)).mono ?_
  rintro e w1 ⟨rfl, rfl⟩
  go_wp2_with fail
  refine (pdq_is _ _).mono ?_
  rintro e w1 ⟨rfl, rfl⟩
  go_wp2_with fail
  go_end0
  exact ⟨rfl, Below.refl _ _⟩
theorem sorted_is {w : World} {Bm : Nat} (hm : w.cell? ⟨Bm, 0, none⟩ = some (.map none)) :
    Calls Tryd.prog 27 #[.func (.func KEYS1) #[] #[.pointer (some ⟨Bm, 0, none⟩)]] w fun e w' => e = .returned (.slice none 0 0) ∧ Below w.heap.size w w' := by
  have AP := hid (collect_is hm)
  clear hm
  go_enter Tryd.func27, Tryd.ntmps27
  go_wp2_with fail
  refine AP.out.mono ?_
  rintro e w1 ⟨rfl, h1⟩
  go_wp2_with fail
  refine (sort_is _).mono ?_
  rintro e w2 ⟨rfl, h2⟩
  have HB := hid (Below.on h1 h2)
  clear h1 h2
  go_wp2_with fail
  go_ret
  exact ⟨rfl, HB.out⟩
/-- nothing waits: nothing goes out -/
theorem unanswered_is {w : World} {p o : Nat} (hm : w.cell? ⟨p, o + 10, none⟩ = some (.map none)) :
    Calls Tryd.prog 17 #[.pointer (some ⟨p, o, none⟩)] w fun e w' => e = .returned (.slice none 0 0) ∧ Below w.heap.size w w' := by
  go_enter Tryd.func17, Tryd.ntmps17
  go_wp2_with fail
  refine (keys_is _).mono ?_
  rintro e w1 ⟨rfl, rfl⟩
  have HC : Hid ((w.alloc (.cells #[.map none] 62)).cell? ⟨w.heap.size, 0, none⟩ = some (.map none)) := hid (by simp [go_sem])
  have HB0 : Hid (Below w.heap.size w (w.alloc (.cells #[.map none] 62))) := hid (Below.al (Below.refl _ _) _)
  go_wp2_with fail
  refine (sorted_is HC.out).mono ?_
  rintro e w2 ⟨rfl, h2⟩
  have HB := hid (Below.on HB0.out h2)
  clear h2
  go_wp2_with fail
  go_loopg [3, 14] 0 (fun g s3 s14 wr => g = 0 ∧ wr = w2 ∧ s3 = .slice none 0 0 ∧ s14 = .int .i64 0)
  case atStart => exact ⟨rfl, rfl, rfl, rfl⟩
  case round =>
    obtain ⟨rfl, rfl, rfl, rfl⟩ := hrel
    go_wp2_with fail
    go_ret
    exact ⟨rfl, HB.out⟩
end Go.Proofs.YtkdklphpcbhfkaaDoor.Rt
