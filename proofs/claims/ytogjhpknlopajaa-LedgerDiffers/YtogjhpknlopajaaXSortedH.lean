import Derived.Test.YtogjhpknlopajaaXEntries
import Derived.Test.YtogjhpknlopajaaXDecided
/- The laws' small functions over lists of entries. -/
namespace Go.Proofs.Ytogjhpknlopajaa.Lg
open Go.RowKit Go.Sort Go.Shelf Go.Lib Lk
set_option linter.unusedVariables false

/-- a row of one's own, read -/
theorem own_row {B n c : Nat} {w : World} {a : Option Addr} {U : List En} (h : OwnL B w (.slice a n c) n U) (hn : U.length = n) : RowC En.zero ecs 7 w a U := fun i hi => by
  letI : Inhabited En := ⟨En.zero⟩
  obtain ⟨g, rfl, _, hc⟩ := own_cells h (by omega)
  refine ⟨g, 0, rfl, fun o u ho => hc _ _ ?_⟩
  have hol : o < 7 := by have := (List.getElem?_eq_some_iff.1 ho).1; simpa using this
  rw [Nat.zero_add, fm_get (k := 7) ecs_len U i o hi hol, ← ho]
  have : U[i]! = (U[i]?).getD En.zero := by simp [getElem!_pos, hi]
  rw [this]
theorem earlier_is {i j : Ix} {u : Bool} (hu : ltI i j = u) (w : World) : Calls Try.prog 40 #[.agg #[.int .u32 i.1, .int .u32 i.2], .agg #[.int .u32 j.1, .int .u32 j.2]] w fun e w' => e = .returned (.bool u) ∧ Below w.heap.size w w' := by
  obtain ⟨ic, is⟩ := i
  obtain ⟨jc, js⟩ := j
  subst hu
  by_cases h : ic = jc
  · subst h
    have h' : (ic != ic) = false := by simp
    go_enter Try.func40, Try.ntmps40
    go_wp2_with fail
    go_ret
    exact ⟨by simp [ltI], by (repeat (first | exact Below.refl _ _ | assumption | refine Below.drew ?_ | refine Below.al ?_ _ | refine Below.setCell ?_ (by first | exact Nat.le_refl _ | (simp; omega) | (simp; done)) _ | refine Below.on ?_ (by assumption)))⟩
  · have h' : (ic != jc) = true := by simpa using h
    go_enter Try.func40, Try.ntmps40
    go_wp2_with fail
    go_ret
    exact ⟨by simp [ltI, h], by (repeat (first | exact Below.refl _ _ | assumption | refine Below.drew ?_ | refine Below.al ?_ _ | refine Below.setCell ?_ (by first | exact Nat.le_refl _ | (simp; omega) | (simp; done)) _ | refine Below.on ?_ (by assumption)))⟩
theorem refbelow_is {a b c x y z : Int} {u : Bool} (hu : lessB a b c x y z = u) (w : World) : Calls Try.prog 41 #[.agg #[.int .u64 a, .int .u32 b, .int .u32 c], .agg #[.int .u64 x, .int .u32 y, .int .u32 z]] w fun e w' => e = .returned (.bool u) ∧ Below w.heap.size w w' := by
  by_cases h1 : a = x
  · subst h1
    have h1' : (a != a) = false := by simp
    by_cases h2 : b = y
    · subst h2
      have h2' : (b != b) = false := by simp
      have e : u = decide (c < z) := by rw [← hu]; simp [lessB]
      subst e
      clear hu
      go_enter Try.func41, Try.ntmps41
      go_wp2_with fail
      go_ret
      exact ⟨rfl, by (repeat (first | exact Below.refl _ _ | assumption | refine Below.drew ?_ | refine Below.al ?_ _ | refine Below.setCell ?_ (by first | exact Nat.le_refl _ | (simp; omega) | (simp; done)) _ | refine Below.on ?_ (by assumption)))⟩
    · have h2' : (b != y) = true := by simpa using h2
      have e : u = decide (b < y) := by rw [← hu]; simp [lessB, h2]
      subst e
      clear hu
      go_enter Try.func41, Try.ntmps41
      go_wp2_with fail
      go_ret
      exact ⟨rfl, by (repeat (first | exact Below.refl _ _ | assumption | refine Below.drew ?_ | refine Below.al ?_ _ | refine Below.setCell ?_ (by first | exact Nat.le_refl _ | (simp; omega) | (simp; done)) _ | refine Below.on ?_ (by assumption)))⟩
  · have h1' : (a != x) = true := by simpa using h1
    have e : u = decide (a < x) := by rw [← hu]; simp [lessB, h1]
    subst e
    clear hu
    go_enter Try.func41, Try.ntmps41
    go_wp2_with fail
    go_ret
    exact ⟨rfl, by (repeat (first | exact Below.refl _ _ | assumption | refine Below.drew ?_ | refine Below.al ?_ _ | refine Below.setCell ?_ (by first | exact Nat.le_refl _ | (simp; omega) | (simp; done)) _ | refine Below.on ?_ (by assumption)))⟩
set_option maxHeartbeats 1000000 in
theorem sorted_is {w : World} {a : Option Addr} {n c : Nat} {U : List En} (hrow : RowC En.zero ecs 7 w a U) (hn : U.length = n) (hl : n ≤ 4611686018427387904) (hs : ∀ j, j + 1 < n → ltI (nthE U j).id (nthE U (j + 1)).id = true) :
    Calls Try.prog 21 #[.slice a n c] w fun r w' => r = .returned (.bool true) ∧ Below w.heap.size w w' := by
  have HR := hid hrow
  have HLN := hid hn
  have HS := hid hs
  clear hrow hn hs
  go_enter Try.func21, Try.ntmps21
  go_wp2_with fail
  go_loopg [3] n (fun g s3 wr => ∃ k : Nat, 1 ≤ k ∧ (k ≤ n ∨ k = 1) ∧ g = n + 1 - k ∧ s3 = .int .i64 k ∧ Hid (Below w.heap.size w wr))
  case atStart => exact ⟨1, by omega, by omega, by omega, rfl, Below.refl _ _⟩
  case round =>
    obtain ⟨k, hk1, hkn, rfl, rfl, HB⟩ := hrel
    by_cases hlt : k < n
    · obtain ⟨j, hjk⟩ : ∃ j, k = j + 1 := ⟨k - 1, by omega⟩
      obtain ⟨b, off, eb, hc⟩ := RowC.later HR.out HB.out j (by rw [HLN.out]; omega)
      obtain ⟨b', off', eb', hc'⟩ := RowC.later HR.out HB.out k (by rw [HLN.out]; omega)
      subst eb
      injection eb' with eb'
      injection eb' with e1 e2 _
      subst e1 e2
      obtain ⟨x, hxe⟩ : ∃ x, x = nthE U j := ⟨_, rfl⟩
      obtain ⟨y, hye⟩ : ∃ y, y = nthE U k := ⟨_, rfl⟩
      have hxe' : (U[j]?).getD En.zero = x := hxe.symm
      have hye' : (U[k]?).getD En.zero = y := hye.symm
      rw [hxe'] at hc
      rw [hye'] at hc'
      have hxy : ltI x.id y.id = true := by rw [hxe, hye, hjk]; exact HS.out j (by omega)
      have EA := hid (fun W => earlier_is hxy W)
      have hwr : IntKind.i64.wrap ((k : Int) - 1) = (j : Int) := by rw [IntKind.wrap_i64]; omega
      have hk2 : (k : Int) < (n : Int) := by omega
      have hj2 : (j : Int) < (n : Int) := by omega
      have hj0 : (0 : Int) ≤ (j : Int) := by omega
      have s0 := cell_regrown (show wr.cell? ⟨b, off + j * 7, none⟩ = some (.int .u32 x.id.1) from hc 0 _ rfl)
      have s1 := cell_regrown (show wr.cell? ⟨b, off + j * 7 + 1, none⟩ = some (.int .u32 x.id.2) from hc 1 _ rfl)
      have t0 := cell_regrown (show wr.cell? ⟨b, off + k * 7, none⟩ = some (.int .u32 y.id.1) from hc' 0 _ rfl)
      have t1 := cell_regrown (show wr.cell? ⟨b, off + k * 7 + 1, none⟩ = some (.int .u32 y.id.2) from hc' 1 _ rfl)
      clear hc hc' hxe hye hxe' hye' hxy hjk
      go_wp2_with fail
      refine wp_region_quiet_below (by kernel_rfl) (by kernel_rfl) ?_
      repeat (go_big_quiet_step (((go_at_call 40; exact Calls.regrown_of (EA.out _)))))
      refine wpQuiet_nil ?_
      intro wn hwn
      replace hwn := below_of_regrown hwn
      go_wp2_with fail
      go_roundg (n + 1 - (k + 1))
      case measure => omega
      case rel => exact ⟨k + 1, by omega, by omega, rfl, by go_num, Below.on HB.out hwn⟩
    · have hk2 : ¬ (k : Int) < (n : Int) := by omega
      go_wp2_with fail
      go_ret
      exact ⟨rfl, HB.out⟩
/-- how often an entry stands in a list -/
def cntE (U : List En) (e : En) : Nat := (U.filter (fun x => sameE x e)).length
theorem cntE_take {U : List En} {k : Nat} (h : k < U.length) (e : En) : cntE (U.take (k + 1)) e = cntE (U.take k) e + (if sameE (nthE U k) e then 1 else 0) := by
  rw [cntE, nthE_take h, List.filter_append, List.length_append, cntE]
  cases hs : sameE (nthE U k) e <;> simp [hs]
theorem cntE_le (U : List En) (e : En) : cntE U e ≤ U.length := List.length_filter_le _ _
theorem cnt_none {e : En} : ∀ {U : List En}, e ∉ U → cntE U e = 0
  | [], _ => rfl
  | x :: U, h => by
    have hx : sameE x e = false := sameE_no (fun k => h (by rw [k]; simp))
    have := cnt_none (e := e) (U := U) (fun k => h (List.mem_cons_of_mem _ k))
    simpa [cntE, hx] using this
theorem cnt_one {e : En} : ∀ {U : List En}, U.Nodup → e ∈ U → cntE U e = 1
  | x :: U, hn, h => by
    rw [List.nodup_cons] at hn
    by_cases hx : x = e
    · subst hx
      have := cnt_none hn.1
      simp only [cntE] at this ⊢
      rw [List.filter_cons, if_pos (sameE_self x), List.length_cons, this]
    · have hx' := sameE_no hx
      have hu : e ∈ U := by
        rcases List.mem_cons.1 h with k | k
        · exact absurd k.symm hx
        · exact k
      have := cnt_one hn.2 hu
      simpa [cntE, hx'] using this
set_option maxHeartbeats 1000000 in
theorem count_is {w : World} {a : Option Addr} {n c : Nat} {U : List En} {e : En} {r : Nat} (hrow : RowC En.zero ecs 7 w a U) (hn : U.length = n) (hl : n ≤ 4611686018427387904) (hr : cntE U e = r) :
    Calls Try.prog 24 #[.slice a n c, .agg #[.int .u32 e.id.1, .int .u32 e.id.2, .int .u32 e.home, .int .i64 e.oc, .int .u64 e.w, .int .u32 e.l, .int .u32 e.n]] w fun q w' => q = .returned (.int .i64 r) ∧ Below w.heap.size w w' := by
  obtain ⟨wx, hwx⟩ : ∃ wx, wx = w.alloc (.cells #[.int .u32 e.id.1, .int .u32 e.id.2, .int .u32 e.home, .int .i64 e.oc, .int .u64 e.w, .int .u32 e.l, .int .u32 e.n] 33) := ⟨_, rfl⟩
  have HBX : Hid (Below w.heap.size w wx) := by rw [hwx]; exact Below.al (Below.refl _ _) _
  have HK : Hid (BoxE wx w.heap.size e) := by rw [hwx]; exact box_new _ _
  have HR := hid (RowC.later hrow HBX.out)
  have HLN := hid hn
  have HRR := hid hr
  clear hrow hn hr
  go_enter Try.func24, Try.ntmps24
  go_wp2_with fail
  rw [← hwx]
  clear hwx
  go_loopg [5, 9] n (fun g s5 s9 wr => ∃ k z : Nat, k ≤ n ∧ z ≤ k ∧ g = n - k ∧ s5 = .int .i64 z ∧ s9 = .int .i64 k ∧ Hid (Below wx.heap.size wx wr) ∧ Hid (z = cntE (U.take k) e))
  case atStart => exact ⟨0, 0, by omega, by omega, by omega, rfl, rfl, Below.refl _ _, hid (by simp [cntE])⟩
  case round =>
    obtain ⟨k, z, hk, hz, rfl, rfl, rfl, HB, HZ⟩ := hrel
    by_cases hlt : k < n
    · obtain ⟨b, off, eb, hc⟩ := RowC.later HR.out HB.out k (by rw [HLN.out]; exact hlt)
      have hk1 : (k : Int) < (n : Int) := by omega
      obtain ⟨x, hxe⟩ : ∃ x, x = nthE U k := ⟨_, rfl⟩
      have hxe' : (U[k]?).getD En.zero = x := hxe.symm
      rw [hxe'] at hc
      subst eb
      have hnx := cntE_take (U := U) (k := k) (by rw [HLN.out]; exact hlt) e
      rw [← hxe] at hnx
      obtain ⟨u, hu⟩ : ∃ u, sameE x e = u := ⟨_, rfl⟩
      rw [hu, ← HZ.out] at hnx
      have HNX := hid hnx
      have qq : ∀ W, (binOp .eql 33 (.agg #[.int .u32 x.id.1, .int .u32 x.id.2, .int .u32 x.home, .int .i64 x.oc, .int .u64 x.w, .int .u32 x.l, .int .u32 x.n]) (.agg #[.int .u32 e.id.1, .int .u32 e.id.2, .int .u32 e.home, .int .i64 e.oc, .int .u64 e.w, .int .u32 e.l, .int .u32 e.n])).run Try.prog W = .ok (.bool u) W := fun W => by rw [← hu]; exact run_eqE x e W
      have s0 := cell_regrown (show wr.cell? ⟨b, off + k * 7, none⟩ = some (.int .u32 x.id.1) from hc 0 _ rfl)
      have s1 := cell_regrown (show wr.cell? ⟨b, off + k * 7 + 1, none⟩ = some (.int .u32 x.id.2) from hc 1 _ rfl)
      have s2 := cell_regrown (show wr.cell? ⟨b, off + k * 7 + 2, none⟩ = some (.int .u32 x.home) from hc 2 _ rfl)
      have s3 := cell_regrown (show wr.cell? ⟨b, off + k * 7 + 3, none⟩ = some (.int .i64 x.oc) from hc 3 _ rfl)
      have s4 := cell_regrown (show wr.cell? ⟨b, off + k * 7 + 4, none⟩ = some (.int .u64 x.w) from hc 4 _ rfl)
      have s5 := cell_regrown (show wr.cell? ⟨b, off + k * 7 + 5, none⟩ = some (.int .u32 x.l) from hc 5 _ rfl)
      have s6 := cell_regrown (show wr.cell? ⟨b, off + k * 7 + 6, none⟩ = some (.int .u32 x.n) from hc 6 _ rfl)
      obtain ⟨p0, p1, p2, p3, p4, p5, p6⟩ := HK.out.later HB.out
      have t0 := cell_regrown p0
      have t1 := cell_regrown p1
      have t2 := cell_regrown p2
      have t3 := cell_regrown p3
      have t4 := cell_regrown p4
      have t5 := cell_regrown p5
      have t6 := cell_regrown p6
      clear hc hxe hxe' hu hnx p0 p1 p2 p3 p4 p5 p6
      cases u with
      | true =>
        go_wp2_with fail
        refine wp_region_quiet_below (by kernel_rfl) (by kernel_rfl) ?_
        repeat (go_big_quiet_step (fail))
        refine wpQuiet_nil ?_
        intro wn hwn
        replace hwn := below_of_regrown hwn
        go_wp2_with fail
        go_roundg (n - (k + 1))
        case measure => omega
        case rel => exact ⟨k + 1, z + 1, by omega, by omega, rfl, by go_num, by go_num, Below.on HB.out hwn, HNX.out.symm⟩
      | false =>
        go_wp2_with fail
        refine wp_region_quiet_below (by kernel_rfl) (by kernel_rfl) ?_
        repeat (go_big_quiet_step (fail))
        refine wpQuiet_nil ?_
        intro wn hwn
        replace hwn := below_of_regrown hwn
        go_wp2_with fail
        go_roundg (n - (k + 1))
        case measure => omega
        case rel => exact ⟨k + 1, z, by omega, by omega, rfl, rfl, by go_num, Below.on HB.out hwn, HNX.out.symm⟩
    · obtain rfl : k = n := by omega
      have hzr : z = r := by
        have := HZ.out
        rwa [← HLN.out, List.take_length, HRR.out] at this
      subst hzr
      go_wp2_with fail
      go_ret
      exact ⟨rfl, Below.on HBX.out HB.out⟩
end Go.Proofs.Ytogjhpknlopajaa.Lg
