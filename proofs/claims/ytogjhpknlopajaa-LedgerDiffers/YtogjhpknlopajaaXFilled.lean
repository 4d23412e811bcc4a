import Derived.Test.YtogjhpknlopajaaXDiffer
import Derived.Test.YtogjhpknlopajaaXSortedLaw
/- The laws' filled and sameTxns. -/
namespace Go.Proofs.Ytogjhpknlopajaa.Lg
open Go.RowKit Go.Sort Go.Shelf Go.Lib Lk
set_option linter.unusedVariables false

set_option maxHeartbeats 1000000 in
theorem filled_is {w : World} {a : Option Addr} {n c : Nat} {xs : List En} (hrow : RowC En.zero ecs 7 w a xs) (hn : xs.length = n) (hl : n ≤ 9223372036854775807) :
    Calls Try.prog 14 #[.slice a n c] w fun r w' => ∃ (p : Nat) (m : Option Nat), r = .returned (.pointer (some ⟨p, 0, none⟩)) ∧ Hid (Lg w' p m (ledL xs)) ∧ Hid (∀ b, ItsL p m b → w.heap.size ≤ b) ∧ Hid (Below w.heap.size w w') := by
  have HR := hid hrow
  have HLN := hid hn
  have NEW := hid (new_is w)
  clear hrow hn
  go_enter Try.func14, Try.ntmps14
  go_wp2_with fail
  refine NEW.out.mono ?_
  rintro r w0 ⟨rfl, hL0, hb0⟩
  have HL0 := hid hL0
  have HB0 := hid hb0
  clear hL0 hb0 NEW
  go_wp2_with fail
  go_loopg [10] n (fun g s10 wr => ∃ (k : Nat) (m : Option Nat), k ≤ n ∧ g = n - k ∧ s10 = .int .i64 k ∧ Hid (Lg wr w.heap.size m (ledL (xs.take k))) ∧ Hid (∀ b, m = some b → w.heap.size ≤ b) ∧ Hid (Below w.heap.size w wr))
  case atStart => exact ⟨0, none, by omega, by omega, rfl, by simpa [ledL] using HL0, (fun b e => by cases e), HB0⟩
  case round =>
    obtain ⟨k, m, hk, rfl, rfl, HL, HM, HB⟩ := hrel
    by_cases hlt : k < n
    · obtain ⟨b, off, eb, hc⟩ := RowC.later HR.out HB.out k (by rw [HLN.out]; exact hlt)
      have hk1 : (k : Int) < (n : Int) := by omega
      obtain ⟨y, hye⟩ : ∃ y, y = nthE xs k := ⟨_, rfl⟩
      have hye' : (xs[k]?).getD En.zero = y := hye.symm
      rw [hye'] at hc
      subst eb
      have g0 : wr.cell? ⟨b, off + k * 7, none⟩ = some (.int .u32 y.id.1) := hc 0 _ rfl
      have g1 : wr.cell? ⟨b, off + k * 7 + 1, none⟩ = some (.int .u32 y.id.2) := hc 1 _ rfl
      have g2 : wr.cell? ⟨b, off + k * 7 + 2, none⟩ = some (.int .u32 y.home) := hc 2 _ rfl
      have g3 : wr.cell? ⟨b, off + k * 7 + 3, none⟩ = some (.int .i64 y.oc) := hc 3 _ rfl
      have g4 : wr.cell? ⟨b, off + k * 7 + 4, none⟩ = some (.int .u64 y.w) := hc 4 _ rfl
      have g5 : wr.cell? ⟨b, off + k * 7 + 5, none⟩ = some (.int .u32 y.l) := hc 5 _ rfl
      have g6 : wr.cell? ⟨b, off + k * 7 + 6, none⟩ = some (.int .u32 y.n) := hc 6 _ rfl
      have DEC : Hid (Calls Try.prog 10 #[.pointer (some ⟨w.heap.size, 0, none⟩), .agg #[.int .u32 y.id.1, .int .u32 y.id.2, .int .u32 y.home, .int .i64 y.oc, .int .u64 y.w, .int .u32 y.l, .int .u32 y.n]] wr fun r w' => ∃ (m' : Option Nat) (v : Value), r = .returned v ∧ Hid (Lg w' w.heap.size m' (ledL (xs.take (k + 1)))) ∧ Hid (∀ b, m' = some b → w.heap.size ≤ b) ∧ Hid (Below w.heap.size w w')) :=
        (decide_is HL.out y).mono fun r w' ⟨m', f, x, h1, h2, h3, h4, h5, h6⟩ => ⟨m', _, h1, by
          have e : ledL (xs.take (k + 1)) = decM (ledL (xs.take k)) y := by rw [nthE_take (by rw [HLN.out]; exact hlt), ledL_snoc, hye]
          rw [e]; exact h4, dec_new (a := w) HB.out.size HM.out h5.out, HB.out.trans (dec_below HL.out (Nat.le_refl _) HM.out HB.out.size h6.out)⟩
      clear hc hye hye'
      go_wp2_with fail
      refine DEC.out.mono ?_
      rintro r w1 ⟨m1, v1, rfl, HL1, HM1, HB1⟩
      clear DEC g0 g1 g2 g3 g4 g5 g6
      go_wp2_with fail
      go_roundg (n - (k + 1))
      case measure => omega
      case rel => exact ⟨k + 1, m1, by omega, rfl, by go_num, HL1, HM1, HB1⟩
    · obtain rfl : k = n := by omega
      have HLL : Hid (Lg wr w.heap.size m (ledL xs)) := by
        have := HL.out
        rwa [← HLN.out, List.take_length] at this
      go_wp2_with fail
      go_ret
      refine ⟨_, m, rfl, HLL, fun b hb => ?_, HB⟩
      rcases hb with rfl | e
      · exact Nat.le_refl _
      · exact HM.out b e

def nthX (xs : List Ix) (i : Nat) : Ix := (xs[i]?).getD (0, 0)
theorem own_rowX {B n c : Nat} {w : World} {a : Option Addr} {U : List Ix} (h : OwnX B w (.slice a n c) n U) (hn : U.length = n) : RowC (0, 0) tcs 2 w a U := fun i hi => by
  letI : Inhabited Ix := ⟨(0, 0)⟩
  obtain ⟨g, rfl, _, hc⟩ := own_cells h (by omega)
  refine ⟨g, 0, rfl, fun o u ho => hc _ _ ?_⟩
  have hol : o < 2 := by have := (List.getElem?_eq_some_iff.1 ho).1; simpa using this
  rw [Nat.zero_add, fm_get (k := 2) tcs_len U i o hi hol, ← ho]
  have : U[i]! = (U[i]?).getD (0, 0) := by simp [getElem!_pos, hi]
  rw [this]
set_option maxHeartbeats 1000000 in
/-- sameTxns, at lists that hold the same -/
theorem sameTxns_is {w : World} {a a' : Option Addr} {n c c' : Nat} {X : List Ix} (h1 : RowC (0, 0) tcs 2 w a X) (h2 : RowC (0, 0) tcs 2 w a' X) (hn : X.length = n) (hl : n ≤ 9223372036854775807) :
    Calls Try.prog 17 #[.slice a n c, .slice a' n c'] w fun r w' => r = .returned (.bool true) ∧ Below w.heap.size w w' := by
  have H1 := hid h1
  have H2 := hid h2
  have HLN := hid hn
  have h0 : ((n : Int) != (n : Int)) = false := by simp
  clear h1 h2 hn
  go_enter Try.func17, Try.ntmps17
  go_wp2_with fail
  go_loopg [13] n (fun g s13 wr => ∃ k : Nat, k ≤ n ∧ g = n - k ∧ s13 = .int .i64 k ∧ Hid (Below w.heap.size w wr))
  case atStart => exact ⟨0, by omega, by omega, rfl, Below.refl _ _⟩
  case round =>
    obtain ⟨k, hk, rfl, rfl, HB⟩ := hrel
    by_cases hlt : k < n
    · obtain ⟨b, off, eb, hc⟩ := RowC.later H1.out HB.out k (by rw [HLN.out]; exact hlt)
      obtain ⟨b', off', eb', hc'⟩ := RowC.later H2.out HB.out k (by rw [HLN.out]; exact hlt)
      subst eb eb'
      have hk1 : (k : Int) < (n : Int) := by omega
      obtain ⟨x, hxe⟩ : ∃ x, x = (X[k]?).getD (0, 0) := ⟨_, rfl⟩
      rw [← hxe] at hc hc'
      have qq : ∀ W, (binOp .neq 27 (.agg #[.int .u32 x.1, .int .u32 x.2]) (.agg #[.int .u32 x.1, .int .u32 x.2])).run Try.prog W = .ok (.bool false) W := fun W => by have := run_neI x x W; simpa [sameI] using this
      have s0 := cell_regrown (show wr.cell? ⟨b, off + k * 2, none⟩ = some (.int .u32 x.1) from hc 0 _ rfl)
      have s1 := cell_regrown (show wr.cell? ⟨b, off + k * 2 + 1, none⟩ = some (.int .u32 x.2) from hc 1 _ rfl)
      have t0 := cell_regrown (show wr.cell? ⟨b', off' + k * 2, none⟩ = some (.int .u32 x.1) from hc' 0 _ rfl)
      have t1 := cell_regrown (show wr.cell? ⟨b', off' + k * 2 + 1, none⟩ = some (.int .u32 x.2) from hc' 1 _ rfl)
      clear hc hc' hxe
      go_wp2_with fail
      refine wp_region_quiet_below (by kernel_rfl) (by kernel_rfl) ?_
      repeat (go_big_quiet_step (fail))
      refine wpQuiet_nil ?_
      intro wn hwn
      replace hwn := below_of_regrown hwn
      go_wp2_with fail
      go_roundg (n - (k + 1))
      case measure => omega
      case rel => exact ⟨k + 1, by omega, rfl, by go_num, Below.on HB.out hwn⟩
    · obtain rfl : k = n := by omega
      go_wp2_with fail
      go_ret
      exact ⟨rfl, HB.out⟩
end Go.Proofs.Ytogjhpknlopajaa.Lg
