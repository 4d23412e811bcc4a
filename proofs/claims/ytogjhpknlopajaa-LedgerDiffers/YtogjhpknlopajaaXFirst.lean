import Derived.Test.YtogjhpknlopajaaXDecide
import Derived.Test.YtogjhpknlopajaaOpenRows
/- The law's first and decided. -/
namespace Go.Proofs.Ytogjhpknlopajaa.Lg
open Go.RowKit Go.Sort Lk
set_option linter.unusedVariables false

def nthE (xs : List En) (i : Nat) : En := (xs[i]?).getD En.zero
theorem RowC.later {α : Type} {z : α} {cs : α → List Value} {n : Nat} {w w' : World} {a : Option Addr} {xs : List α} (h : RowC z cs n w a xs) (hb : Below w.heap.size w w') : RowC z cs n w' a xs := fun i hi => by
  obtain ⟨b, off, e, hc⟩ := h i hi
  exact ⟨b, off, e, fun o u ho => cell_later hb (hc o u ho)⟩
theorem nthE_take {xs : List En} {k : Nat} (h : k < xs.length) : xs.take (k + 1) = xs.take k ++ [nthE xs k] := by
  rw [List.take_succ_eq_append_getElem h]; simp [nthE, h]
theorem RowC.take {w : World} {a : Option Addr} {xs : List En} (h : RowC En.zero ecs 7 w a xs) (k : Nat) : RowC En.zero ecs 7 w a (xs.take k) := fun i hi => by
  have hi' : i < k ∧ i < xs.length := by rw [List.length_take] at hi; omega
  obtain ⟨b, off, e, hc⟩ := h i hi'.2
  refine ⟨b, off, e, ?_⟩
  rw [List.getElem?_take, if_pos hi'.1]
  exact hc
/-- the first that may be -/
def fstL (xs : List En) (t : Ix) : Option En := xs.find? (fun e => sameI e.id t && mayB e)
theorem fstL_snoc (xs : List En) (y : En) (t : Ix) : fstL (xs ++ [y]) t = (match fstL xs t with | some f => some f | none => if sameI y.id t && mayB y then some y else none) := by
  rw [fstL, List.find?_append]
  show (fstL xs t).or _ = _
  cases fstL xs t with
  | some f => rfl
  | none => cases h : (sameI y.id t && mayB y) <;> simp [h]
def ledL (xs : List En) : List En := xs.foldl decM []
theorem ledL_snoc (xs : List En) (y : En) : ledL (xs ++ [y]) = decM (ledL xs) y := by simp [ledL]
theorem outM_dec (M : List En) (y : En) (t : Ix) : outM (decM M y) t = (match outM M t with | some f => some f | none => if sameI y.id t && mayB y then some y else none) := by
  unfold decM
  cases hm : mayB y with
  | false => simp; cases outM M t <;> rfl
  | true =>
    simp only [if_true, Bool.and_true]
    cases ho : outM M y.id with
    | some f =>
      simp only
      by_cases ht : y.id = t
      · subst ht; rw [ho]
      · have : sameI y.id t = false := by simp [sameI, ht]
        simp only [this]
        cases outM M t <;> rfl
    | none =>
      simp only
      rw [outM_app]
      cases outM M t <;> rfl
theorem led_gen : ∀ (xs M : List En) (t : Ix), outM (xs.foldl decM M) t = (match outM M t with | some f => some f | none => fstL xs t)
  | [], M, t => by simp only [List.foldl_nil]; cases outM M t <;> rfl
  | y :: xs, M, t => by
    rw [List.foldl_cons, led_gen xs, outM_dec]
    have e : fstL (y :: xs) t = if (sameI y.id t && mayB y) then some y else fstL xs t := by
      rw [fstL, List.find?_cons]
      cases h : (sameI y.id t && mayB y) <;> rfl
    cases outM M t with
    | some f => rfl
    | none =>
      simp only
      rw [e]
      cases h : (sameI y.id t && mayB y) <;> rfl
theorem led_fst (xs : List En) (t : Ix) : outM (ledL xs) t = fstL xs t := by
  rw [ledL, led_gen]; rfl
/-- what decided is asked for -/
theorem led_dec {xs : List En} {k : Nat} (hk : k < xs.length) : (mayB (nthE xs k) = false → decE (ledL (xs.take k)) (nthE xs k) = En.zero ∧ decX (ledL (xs.take k)) (nthE xs k) = 1) ∧
    (mayB (nthE xs k) = true → fstL (xs.take (k + 1)) (nthE xs k).id = some (decE (ledL (xs.take k)) (nthE xs k)) ∧ decX (ledL (xs.take k)) (nthE xs k) = if agrB (decE (ledL (xs.take k)) (nthE xs k)) (nthE xs k) then 0 else 110) := by
  constructor
  · intro h; exact ⟨by simp [decE, h], by simp [decX, h]⟩
  · intro h
    have e1 : decE (ledL (xs.take k)) (nthE xs k) = (outM (ledL (xs.take k)) (nthE xs k).id).getD (nthE xs k) := by simp [decE, h]
    refine ⟨?_, ?_⟩
    · rw [nthE_take hk, fstL_snoc, ← led_fst, e1]
      cases outM (ledL (xs.take k)) (nthE xs k).id with
      | some f => rfl
      | none => simp [sameI, h]
    · rw [e1, agrB_comm]; simp [decX, h]

set_option maxHeartbeats 1000000 in
theorem first_is {w : World} {a : Option Addr} {n c : Nat} {xs : List En} (hrow : RowC En.zero ecs 7 w a xs) (hn : xs.length = n) (hl : n ≤ 9223372036854775807) (t : Ix) :
    Calls Try.prog 13 #[.slice a n c, .agg #[.int .u32 t.1, .int .u32 t.2]] w fun r w' => ∃ (f : En) (ok : Bool), r = .returned (.tuple #[.agg #[.int .u32 f.id.1, .int .u32 f.id.2, .int .u32 f.home, .int .i64 f.oc, .int .u64 f.w, .int .u32 f.l, .int .u32 f.n], .bool ok]) ∧
      Hid (ok = (fstL xs t).isSome) ∧ Hid (f = (fstL xs t).getD En.zero) ∧ Hid (Below w.heap.size w w') := by
  obtain ⟨wx, hwx⟩ : ∃ wx, wx = (w.alloc (.cells #[.int .u32 t.1, .int .u32 t.2] 27)).alloc (.cells #[.int .u32 0, .int .u32 0, .int .u32 0, .int .i64 0, .int .u64 0, .int .u32 0, .int .u32 0] 33) := ⟨_, rfl⟩
  have HBX : Hid (Below w.heap.size w wx) := by rw [hwx]; exact Below.al (Below.al (Below.refl _ _) _) _
  have B0 : Hid (wx.cell? ⟨w.heap.size, 0, none⟩ = some (.int .u32 t.1)) := by rw [hwx]; exact hid (by simp [go_sem])
  have B1 : Hid (wx.cell? ⟨w.heap.size, 1, none⟩ = some (.int .u32 t.2)) := by rw [hwx]; exact hid (by simp [go_sem])
  have hz : wx.heap[w.heap.size + 1]? = some (.cells #[.int .u32 0, .int .u32 0, .int .u32 0, .int .i64 0, .int .u64 0, .int .u32 0, .int .u32 0] 33) := by
    rw [hwx, show w.heap.size + 1 = (w.alloc (.cells #[.int .u32 t.1, .int .u32 t.2] 27)).heap.size by simp]
    exact (MapKept.heap_alloc _ _).1
  have hsx : w.heap.size + 1 < wx.heap.size := by rw [hwx]; simp
  have HZ := hid hz
  have HR := hid (RowC.later hrow HBX.out)
  have HLN := hid hn
  clear hz hrow hn
  go_enter Try.func13, Try.ntmps13
  go_wp2_with fail
  rw [← hwx]
  clear hwx
  go_loopg [9] n (fun g s9 wr => ∃ k : Nat, k ≤ n ∧ g = n - k ∧ s9 = .int .i64 k ∧ Hid (Below wx.heap.size wx wr) ∧ Hid (fstL (xs.take k) t = none))
  case atStart => exact ⟨0, by omega, by omega, rfl, Below.refl _ _, hid (by simp [fstL])⟩
  case round =>
    obtain ⟨k, hk, rfl, rfl, HB, HA⟩ := hrel
    by_cases hlt : k < n
    · obtain ⟨b, off, eb, hc⟩ := RowC.later HR.out HB.out k (by rw [HLN.out]; exact hlt)
      have hk1 : (k : Int) < (n : Int) := by omega
      obtain ⟨x, hxe⟩ : ∃ x, x = nthE xs k := ⟨_, rfl⟩
      have hxe' : (xs[k]?).getD En.zero = x := hxe.symm
      rw [hxe'] at hc
      have HX := hid hxe
      subst eb
      obtain ⟨z, hz⟩ : ∃ z, sameI x.id t = z := ⟨_, rfl⟩
      have qq : ∀ W, (binOp .eql 27 (.agg #[.int .u32 x.id.1, .int .u32 x.id.2]) (.agg #[.int .u32 t.1, .int .u32 t.2])).run Try.prog W = .ok (.bool z) W := fun W => by rw [← hz]; exact run_eqI x.id t W
      have HSZ := hid hz
      have g0 : wr.cell? ⟨b, off + k * 7, none⟩ = some (.int .u32 x.id.1) := hc 0 _ rfl
      have g1 : wr.cell? ⟨b, off + k * 7 + 1, none⟩ = some (.int .u32 x.id.2) := hc 1 _ rfl
      have g2 : wr.cell? ⟨b, off + k * 7 + 2, none⟩ = some (.int .u32 x.home) := hc 2 _ rfl
      have g3 : wr.cell? ⟨b, off + k * 7 + 3, none⟩ = some (.int .i64 x.oc) := hc 3 _ rfl
      have g4 : wr.cell? ⟨b, off + k * 7 + 4, none⟩ = some (.int .u64 x.w) := hc 4 _ rfl
      have g5 : wr.cell? ⟨b, off + k * 7 + 5, none⟩ = some (.int .u32 x.l) := hc 5 _ rfl
      have g6 : wr.cell? ⟨b, off + k * 7 + 6, none⟩ = some (.int .u32 x.n) := hc 6 _ rfl
      have s0 := cell_regrown g0
      have s1 := cell_regrown g1
      have s2 := cell_regrown g2
      have s3 := cell_regrown g3
      have s4 := cell_regrown g4
      have s5 := cell_regrown g5
      have s6 := cell_regrown g6
      have t0 := cell_regrown (cell_later HB.out B0.out)
      have t1 := cell_regrown (cell_later HB.out B1.out)
      obtain ⟨u, hu⟩ : ∃ u, mayB x = u := ⟨_, rfl⟩
      have MAY := hid (fun W => refmay_is hu W)
      have HU := hid hu
      have NEXT : Hid ((z && u) = false → fstL (xs.take (k + 1)) t = none) := fun e => by
        rw [nthE_take (by rw [HLN.out]; exact hlt), fstL_snoc, HA.out, ← HX.out, HSZ.out, HU.out, e]; rfl
      clear hc hxe hxe' hz hu
      cases z with
      | false =>
        go_wp2_with fail
        refine wp_region_quiet_below (by kernel_rfl) (by kernel_rfl) ?_
        repeat (go_big_quiet_step (fail))
        refine wpQuiet_nil ?_
        intro wn hwn
        replace hwn := below_of_regrown hwn
        go_wp2_with fail
        go_roundg (n - (k + 1))
        case measure => omega
        case rel => exact ⟨k + 1, by omega, rfl, by go_num, Below.on HB.out hwn, NEXT.out rfl⟩
      | true =>
        cases u with
        | false =>
          go_wp2_with fail
          refine wp_region_quiet_below (by kernel_rfl) (by kernel_rfl) ?_
          repeat (go_big_quiet_step (((go_at_call 31; exact Calls.regrown_of (MAY.out _)))))
          refine wpQuiet_nil ?_
          intro wn hwn
          replace hwn := below_of_regrown hwn
          go_wp2_with fail
          go_roundg (n - (k + 1))
          case measure => omega
          case rel => exact ⟨k + 1, by omega, rfl, by go_num, Below.on HB.out hwn, NEXT.out rfl⟩
        | true =>
          have HFD : Hid (fstL xs t = some x) := by
            have h1 : fstL (xs.take (k + 1)) t = some x := by
              rw [nthE_take (by rw [HLN.out]; exact hlt), fstL_snoc, HA.out, ← HX.out, HSZ.out, HU.out]; rfl
            have h2 : fstL xs t = fstL (xs.take (k + 1) ++ xs.drop (k + 1)) t := by rw [List.take_append_drop]
            show _ = _
            rw [h2, fstL, List.find?_append]
            show (fstL (xs.take (k + 1)) t).or _ = _
            rw [h1]; rfl
          have hBx : Below wx.heap.size wx wr := HB.out
          go_wp2_with fail
          refine wp_region_quiet_below (by kernel_rfl) (by kernel_rfl) ?_
          repeat (go_big_quiet_step (((go_at_call 31; exact Calls.regrown_of (MAY.out _)))))
          refine wpQuiet_nil ?_
          intro wn hwn
          replace hwn := below_of_regrown hwn
          have hz3 := (Below.on hBx hwn).block _ hsx |>.trans HZ.out
          have f3 : ∀ o, wn.frozen? ⟨w.heap.size + 1, o, none⟩ = false := fun o => by simp [World.frozen?, hz3]
          have r0 : wn.cell? ⟨w.heap.size + 1, 0, none⟩ = some (.int .u32 0) := cell_of_obj hz3 rfl
          have r1 : wn.cell? ⟨w.heap.size + 1, 1, none⟩ = some (.int .u32 0) := cell_of_obj hz3 rfl
          have r2 : wn.cell? ⟨w.heap.size + 1, 2, none⟩ = some (.int .u32 0) := cell_of_obj hz3 rfl
          have r3 : wn.cell? ⟨w.heap.size + 1, 3, none⟩ = some (.int .i64 0) := cell_of_obj hz3 rfl
          have r4 : wn.cell? ⟨w.heap.size + 1, 4, none⟩ = some (.int .u64 0) := cell_of_obj hz3 rfl
          have r5 : wn.cell? ⟨w.heap.size + 1, 5, none⟩ = some (.int .u32 0) := cell_of_obj hz3 rfl
          have r6 : wn.cell? ⟨w.heap.size + 1, 6, none⟩ = some (.int .u32 0) := cell_of_obj hz3 rfl
          have h0 := cell_later hwn g0
          have h1 := cell_later hwn g1
          have h2 := cell_later hwn g2
          have h3 := cell_later hwn g3
          have h4 := cell_later hwn g4
          have h5 := cell_later hwn g5
          have h6 := cell_later hwn g6
          have HH := hid hz3
          have HBn : Hid (Below w.heap.size w wn) := Below.on HBX.out (Below.on hBx hwn)
          clear hz3 g0 g1 g2 g3 g4 g5 g6 s0 s1 s2 s3 s4 s5 s6 hwn hBx
          go_wp2_with fail
          obtain ⟨w8, hw8⟩ : ∃ w8, w8 = (((((((wn).setCell ⟨w.heap.size + 1, 0, none⟩ (.int .u32 x.id.1)).setCell ⟨w.heap.size + 1, 1, none⟩ (.int .u32 x.id.2)).setCell ⟨w.heap.size + 1, 2, none⟩ (.int .u32 x.home)).setCell ⟨w.heap.size + 1, 3, none⟩ (.int .i64 x.oc)).setCell ⟨w.heap.size + 1, 4, none⟩ (.int .u64 x.w)).setCell ⟨w.heap.size + 1, 5, none⟩ (.int .u32 x.l)).setCell ⟨w.heap.size + 1, 6, none⟩ (.int .u32 x.n) := ⟨_, rfl⟩
          obtain ⟨hk8, ho8, hs8⟩ := stored (z := En.zero) HH.out hw8
          rw [← hw8]
          clear hw8
          have t0 : w8.cell? ⟨w.heap.size + 1, 0, none⟩ = some (.int .u32 x.id.1) := cell_of_obj hk8 rfl
          have t1 : w8.cell? ⟨w.heap.size + 1, 1, none⟩ = some (.int .u32 x.id.2) := cell_of_obj hk8 rfl
          have t2 : w8.cell? ⟨w.heap.size + 1, 2, none⟩ = some (.int .u32 x.home) := cell_of_obj hk8 rfl
          have t3 : w8.cell? ⟨w.heap.size + 1, 3, none⟩ = some (.int .i64 x.oc) := cell_of_obj hk8 rfl
          have t4 : w8.cell? ⟨w.heap.size + 1, 4, none⟩ = some (.int .u64 x.w) := cell_of_obj hk8 rfl
          have t5 : w8.cell? ⟨w.heap.size + 1, 5, none⟩ = some (.int .u32 x.l) := cell_of_obj hk8 rfl
          have t6 : w8.cell? ⟨w.heap.size + 1, 6, none⟩ = some (.int .u32 x.n) := cell_of_obj hk8 rfl
          have hb8 : Below w.heap.size w w8 := HBn.out.trans (ho8.below (B := w.heap.size) (fun k hk => by omega) HBn.out.size)
          refine bodyPost_ret (v := .tuple #[.agg #[.int .u32 x.id.1, .int .u32 x.id.2, .int .u32 x.home, .int .i64 x.oc, .int .u64 x.w, .int .u32 x.l, .int .u32 x.n], .bool true]) (by simp [results, Try.results13, go_sem, t0, t1, t2, t3, t4, t5, t6]) rfl ⟨x, true, rfl, ?_, ?_, hb8⟩
          · show _ = _; rw [HFD.out]; rfl
          · show _ = _; rw [HFD.out]; rfl
    · obtain rfl : k = n := by omega
      have HFD : Hid (fstL xs t = none) := by
        have := HA.out
        rwa [← HLN.out, List.take_length] at this
      have hz3 := HB.out.block _ hsx |>.trans HZ.out
      have f3 : ∀ o, wr.frozen? ⟨w.heap.size + 1, o, none⟩ = false := fun o => by simp [World.frozen?, hz3]
      have r0 : wr.cell? ⟨w.heap.size + 1, 0, none⟩ = some (.int .u32 0) := cell_of_obj hz3 rfl
      have r1 : wr.cell? ⟨w.heap.size + 1, 1, none⟩ = some (.int .u32 0) := cell_of_obj hz3 rfl
      have r2 : wr.cell? ⟨w.heap.size + 1, 2, none⟩ = some (.int .u32 0) := cell_of_obj hz3 rfl
      have r3 : wr.cell? ⟨w.heap.size + 1, 3, none⟩ = some (.int .i64 0) := cell_of_obj hz3 rfl
      have r4 : wr.cell? ⟨w.heap.size + 1, 4, none⟩ = some (.int .u64 0) := cell_of_obj hz3 rfl
      have r5 : wr.cell? ⟨w.heap.size + 1, 5, none⟩ = some (.int .u32 0) := cell_of_obj hz3 rfl
      have r6 : wr.cell? ⟨w.heap.size + 1, 6, none⟩ = some (.int .u32 0) := cell_of_obj hz3 rfl
      have HH := hid hz3
      have HBn : Hid (Below w.heap.size w wr) := Below.on HBX.out HB.out
      clear hz3
      go_wp2_with fail
      obtain ⟨w8, hw8⟩ : ∃ w8, w8 = (((((((wr).setCell ⟨w.heap.size + 1, 0, none⟩ (.int .u32 0)).setCell ⟨w.heap.size + 1, 1, none⟩ (.int .u32 0)).setCell ⟨w.heap.size + 1, 2, none⟩ (.int .u32 0)).setCell ⟨w.heap.size + 1, 3, none⟩ (.int .i64 0)).setCell ⟨w.heap.size + 1, 4, none⟩ (.int .u64 0)).setCell ⟨w.heap.size + 1, 5, none⟩ (.int .u32 0)).setCell ⟨w.heap.size + 1, 6, none⟩ (.int .u32 0) := ⟨_, rfl⟩
      obtain ⟨hk8, ho8, hs8⟩ := stored (z := En.zero) (u := En.zero) HH.out hw8
      rw [← hw8]
      clear hw8
      have t0 : w8.cell? ⟨w.heap.size + 1, 0, none⟩ = some (.int .u32 0) := cell_of_obj hk8 rfl
      have t1 : w8.cell? ⟨w.heap.size + 1, 1, none⟩ = some (.int .u32 0) := cell_of_obj hk8 rfl
      have t2 : w8.cell? ⟨w.heap.size + 1, 2, none⟩ = some (.int .u32 0) := cell_of_obj hk8 rfl
      have t3 : w8.cell? ⟨w.heap.size + 1, 3, none⟩ = some (.int .i64 0) := cell_of_obj hk8 rfl
      have t4 : w8.cell? ⟨w.heap.size + 1, 4, none⟩ = some (.int .u64 0) := cell_of_obj hk8 rfl
      have t5 : w8.cell? ⟨w.heap.size + 1, 5, none⟩ = some (.int .u32 0) := cell_of_obj hk8 rfl
      have t6 : w8.cell? ⟨w.heap.size + 1, 6, none⟩ = some (.int .u32 0) := cell_of_obj hk8 rfl
      have hb8 : Below w.heap.size w w8 := HBn.out.trans (ho8.below (B := w.heap.size) (fun k hk => by omega) HBn.out.size)
      refine bodyPost_ret (v := .tuple #[.agg #[.int .u32 0, .int .u32 0, .int .u32 0, .int .i64 0, .int .u64 0, .int .u32 0, .int .u32 0], .bool false]) (by simp [results, Try.results13, go_sem, t0, t1, t2, t3, t4, t5, t6]) rfl ⟨En.zero, false, rfl, ?_, ?_, hb8⟩
      · show _ = _; rw [HFD.out]; rfl
      · show _ = _; rw [HFD.out]; rfl
end Go.Proofs.Ytogjhpknlopajaa.Lg
