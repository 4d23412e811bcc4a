import Derived.Test.YtbgmbbmnnfmbpaaQLawP
/- stands, apart. -/
namespace Go.Proofs.Ytbgmbbmnnfmbpaa.Lk
open Go.RowKit Go.Sort
set_option linter.unusedVariables false

theorem box_cells {w : World} {g : Nat} {y : Hv} (h : w.heap[g]? = some (.cells (hcs y).toArray 42)) : ∀ o v, (hcs y)[o]? = some v → w.cell? ⟨g, o, none⟩ = some v := fun o v hv => cell_of_obj h (by simpa using hv)

set_option maxHeartbeats 2000000 in
theorem stands_is {w : World} {B n c : Nat} {a : Option Addr} {U : List Hv} {y : Hv} {u : Bool} (hu : u = true ↔ y.h ∈ U.map Hv.h) (hU : RowH B w a n c U) (hy : y.ok w) :
    Calls Try.prog 26 #[.slice a n c, y.val] w fun e w' => e = .returned (.bool u) ∧ Below w.heap.size w w' := by
  have hln := hU.len
  have hnl := own_le hU.own
  obtain ⟨wx, hwx⟩ : ∃ wx, wx = w.alloc (.cells #[.int .u32 y.h.id.1, .int .u32 y.h.id.2, .int .u32 y.h.home, .int .u64 y.h.w, .int .u32 y.h.l, .int .u32 y.h.n, .slice y.ra y.h.rs.length y.rc, .slice y.wa y.h.ws.length y.wc] 42) := ⟨_, rfl⟩
  have hbx : Below w.heap.size w wx := by rw [hwx]; exact Below.al (Below.refl _ _) _
  have HK : Hid (∀ o v, (hcs y)[o]? = some v → wx.cell? ⟨w.heap.size, o, none⟩ = some v) := box_cells (by rw [hwx]; exact (MapKept.heap_alloc _ _).1)
  have HU := hid hu
  have RU := hid (hU.later hbx)
  have RY := hid (hy.later hbx)
  have HBX := hid hbx
  have HLN := hid hln
  clear hu hU hy hbx hln
  go_enter Try.func26, Try.ntmps26
  go_wp2_with fail
  rw [← hwx]
  clear hwx
  go_loopg [5] n (fun g s5 wr => ∃ k : Nat, k ≤ n ∧ g = n - k ∧ s5 = .int .i64 k ∧ Hid (Below wx.heap.size wx wr) ∧ Hid (∀ j, j < k → (nthH U j).h ≠ y.h))
  case atStart => exact ⟨0, by omega, by omega, rfl, Below.refl _ _, fun j hj => absurd hj (by omega)⟩
  case round =>
    obtain ⟨k, hk, rfl, rfl, HB, HA⟩ := hrel
    by_cases hlt : k < n
    · obtain ⟨g, eg, hc⟩ := ownH_at (RU.out.later HB.out).own HLN.out hlt
      subst eg
      have hx := (RU.out.later HB.out).ok _ (nthH_mem (by rw [HLN.out]; exact hlt))
      have hyy := RY.out.later HB.out
      obtain ⟨x, hxe⟩ : ∃ x, x = nthH U k := ⟨_, rfl⟩
      rw [← hxe] at hc hx
      have hq : ∀ o v, (hcs y)[o]? = some v → wr.cell? ⟨w.heap.size, o, none⟩ = some v := fun o v h => cell_later HB.out (HK.out o v h)
      have s0 := cell_regrown (show wr.cell? ⟨g, k * 8, none⟩ = _ from hc 0 _ rfl)
      have s1 := cell_regrown (hc 1 _ rfl)
      have s2 := cell_regrown (hc 2 _ rfl)
      have s3 := cell_regrown (hc 3 _ rfl)
      have s4 := cell_regrown (hc 4 _ rfl)
      have s5 := cell_regrown (hc 5 _ rfl)
      have s6 := cell_regrown (hc 6 _ rfl)
      have s7 := cell_regrown (hc 7 _ rfl)
      have t0 := cell_regrown (hq 0 _ rfl)
      have t1 := cell_regrown (hq 1 _ rfl)
      have t2 := cell_regrown (hq 2 _ rfl)
      have t3 := cell_regrown (hq 3 _ rfl)
      have t4 := cell_regrown (hq 4 _ rfl)
      have t5 := cell_regrown (hq 5 _ rfl)
      have t6 := cell_regrown (hq 6 _ rfl)
      have t7 := cell_regrown (hq 7 _ rfl)
      obtain ⟨v, hv⟩ : ∃ v : Bool, v = true ↔ x.h = y.h := by
        by_cases e : x.h = y.h
        · exact ⟨true, by simp [e]⟩
        · exact ⟨false, by simp [e]⟩
      have SM : Hid (∀ W, Below wr.heap.size wr W → Calls Try.prog 36 #[.agg #[.int .u32 x.h.id.1, .int .u32 x.h.id.2, .int .u32 x.h.home, .int .u64 x.h.w, .int .u32 x.h.l, .int .u32 x.h.n, .slice x.ra x.h.rs.length x.rc, .slice x.wa x.h.ws.length x.wc], .agg #[.int .u32 y.h.id.1, .int .u32 y.h.id.2, .int .u32 y.h.home, .int .u64 y.h.w, .int .u32 y.h.l, .int .u32 y.h.n, .slice y.ra y.h.rs.length y.rc, .slice y.wa y.h.ws.length y.wc]] W fun e w' => e = .returned (.bool v) ∧ Below W.heap.size W w') := fun W hb => same_is hv (hx.later hb) (hyy.later hb)
      have HV := hid hv
      have HX := hid hxe
      have hk1 : (k : Int) < (n : Int) := by omega
      clear hc hq hx hyy hv hxe
      cases v with
      | true =>
        have hu1 : u = true := HU.out.2 (by rw [← HV.out.1 rfl, HX.out]; exact List.mem_map.2 ⟨_, nthH_mem (by rw [HLN.out]; exact hlt), rfl⟩)
        subst hu1
        go_wp2_with fail
        refine wp_region_quiet_below (by kernel_rfl) (by kernel_rfl) ?_
        repeat (go_big_quiet_step (((go_at_call 36; exact Calls.regrown_of (SM.out _ (below_of_regrown ⟨⟨_, _⟩, rfl⟩))))))
        refine wpQuiet_nil ?_
        intro wn hwn
        replace hwn := below_of_regrown hwn
        go_wp2_with fail
        go_ret
        exact ⟨rfl, Below.on HBX.out (Below.on HB.out hwn)⟩
      | false =>
        go_wp2_with fail
        refine wp_region_quiet_below (by kernel_rfl) (by kernel_rfl) ?_
        repeat (go_big_quiet_step (((go_at_call 36; exact Calls.regrown_of (SM.out _ (below_of_regrown ⟨⟨_, _⟩, rfl⟩))))))
        refine wpQuiet_nil ?_
        intro wn hwn
        replace hwn := below_of_regrown hwn
        go_wp2_with fail
        go_roundg (n - (k + 1))
        case measure => omega
        case rel =>
          refine ⟨k + 1, by omega, rfl, by go_num, Below.on HB.out hwn, fun j hj => ?_⟩
          by_cases e : j = k
          · subst e; rw [← HX.out]; intro e2; have := HV.out.2 e2; cases this
          · exact HA.out j (by omega)
    · obtain rfl : k = n := by omega
      have hu0 : u = false := by
        cases u with
        | false => rfl
        | true =>
          obtain ⟨v, hv, e⟩ := List.mem_map.1 (HU.out.1 rfl)
          obtain ⟨j, hj, rfl⟩ := List.getElem_of_mem hv
          have := HA.out j (by rw [← HLN.out]; exact hj)
          exact absurd (by simpa [nthH, hj] using e) this
      subst hu0
      go_wp2_with fail
      go_ret
      exact ⟨rfl, Below.on HBX.out HB.out⟩

/-- the list rises, and no two of it meet -/
structure Apt (U : List Hv) : Prop where
  rise : ∀ i, i + 1 < U.length → ltI (nthH U i).h.id (nthH U (i + 1)).h.id = true
  meet : ∀ i j, j < i → i < U.length → clashB (nthH U i).h (nthH U j).h = false
theorem Told.apt {U : List Hv} {M : List Hd} {I : It} (ok : Ok M I) (h : Told (U.map Hv.h) M) : Apt U where
  rise := fun i hi => by
    have h1 : i < (U.map Hv.h).length := by simp; omega
    have h2 : i + 1 < (U.map Hv.h).length := by simpa using hi
    have := List.pairwise_iff_getElem.1 (h.lt ok.ids) i (i + 1) h1 h2 (by omega)
    simpa [nthH, hi, show i < U.length by omega] using this
  meet := fun i j hj hi => by
    have h1 : j < (U.map Hv.h).length := by simp; omega
    have h2 : i < (U.map Hv.h).length := by simpa using hi
    have := List.pairwise_iff_getElem.1 (h.apart ok) j i h1 h2 hj
    rw [clash_symm]
    simpa [nthH, hi, show j < U.length by omega] using this

set_option maxHeartbeats 2000000 in
theorem apart_is {w : World} {B n c : Nat} {a : Option Addr} {U : List Hv} (hA : Apt U) (hU : RowH B w a n c U) :
    Calls Try.prog 27 #[.slice a n c] w fun e w' => e = .returned (.bool true) ∧ Below w.heap.size w w' := by
  have hln := hU.len
  have hnl := own_le hU.own
  have HA := hid hA
  have RU := hid hU
  have HLN := hid hln
  clear hA hU hln
  go_enter Try.func27, Try.ntmps27
  go_wp2_with fail
  go_loopg [3] n (fun g s3 wr => ∃ k : Nat, k ≤ n ∧ g = n - k ∧ s3 = .int .i64 k ∧ Hid (Below w.heap.size w wr))
  case atStart => exact ⟨0, by omega, by omega, rfl, Below.refl _ _⟩
  case round =>
    obtain ⟨k, hk, rfl, rfl, HB⟩ := hrel
    by_cases hlt : k < n
    · have hk1 : (k : Int) < (n : Int) := by omega
      go_wp2_with fail
      go_cut [27] (fun s27 wz => s27 = .bool false ∧ Hid (Below w.heap.size w wz))
      case first =>
        by_cases hk0 : k = 0
        · have q0 : decide (0 < k) = false := decide_eq_false (by omega)
          clear hk0
          refine wp_region_quiet_below (by kernel_rfl) (by kernel_rfl) ?_
          repeat (go_big_quiet_step (fail))
          refine wpQuiet_nil ?_
          intro wn hwn
          replace hwn := below_of_regrown hwn
          go_wp2_with fail
          go_meet
          exact ⟨rfl, hid (Below.on HB.out hwn)⟩
        · obtain ⟨m, hm⟩ : ∃ m, m = k - 1 := ⟨_, rfl⟩
          have q0 : decide (0 < k) = true := decide_eq_true (by omega)
          have hw1 : IntKind.i64.wrap ((k : Int) - 1) = (m : Int) := by rw [IntKind.wrap_i64]; omega
          have hm1 : (m : Int) < (n : Int) := by omega
          obtain ⟨g, eg, hc⟩ := ownH_at (RU.out.later HB.out).own HLN.out hlt
          obtain ⟨g', eg', hc'⟩ := ownH_at (RU.out.later HB.out).own HLN.out (show m < n by omega)
          subst eg
          injection eg' with eg'
          injection eg' with eg'
          subst eg'
          have hl : ltI (nthH U m).h.id (nthH U k).h.id = true := by
            have := HA.out.rise m (by rw [HLN.out]; omega)
            rwa [show m + 1 = k by omega] at this
          obtain ⟨x, hxe⟩ : ∃ x, x = nthH U k := ⟨_, rfl⟩
          obtain ⟨y, hye⟩ : ∃ y, y = nthH U m := ⟨_, rfl⟩
          rw [← hxe] at hc hl
          rw [← hye] at hc' hl
          have s0 := cell_regrown (show wr.cell? ⟨g, k * 8, none⟩ = _ from hc 0 _ rfl)
          have s1 := cell_regrown (hc 1 _ rfl)
          have t0 := cell_regrown (show wr.cell? ⟨g, m * 8, none⟩ = _ from hc' 0 _ rfl)
          have t1 := cell_regrown (hc' 1 _ rfl)
          have BF : Hid (∀ W, Calls Try.prog 40 #[.agg #[.int .u32 y.h.id.1, .int .u32 y.h.id.2], .agg #[.int .u32 x.h.id.1, .int .u32 x.h.id.2]] W fun e w' => e = .returned (.bool true) ∧ Below W.heap.size W w') := fun W => before_is hl W
          clear hc hc' hl hxe hye hm hk0
          refine wp_region_quiet_below (by kernel_rfl) (by kernel_rfl) ?_
          repeat (go_big_quiet_step (((go_at_call 40; exact Calls.regrown_of (BF.out _)))))
          refine wpQuiet_nil ?_
          intro wn hwn
          replace hwn := below_of_regrown hwn
          go_wp2_with fail
          go_meet
          exact ⟨rfl, hid (Below.on HB.out hwn)⟩
      case rest =>
        obtain ⟨rfl, HC⟩ := hcut
        clear HB
        go_wp2_with fail
        go_loopg [4] k (fun g s4 wr => ∃ m : Nat, m ≤ k ∧ g = k - m ∧ s4 = .int .i64 m ∧ Hid (Below w.heap.size w wr))
        case atStart => exact ⟨0, by omega, by omega, rfl, HC⟩
        case round =>
          obtain ⟨m, hm, rfl, rfl, HB⟩ := hrel
          by_cases hlm : m < k
          · have hm1 : (m : Int) < (n : Int) := by omega
            obtain ⟨g, eg, hc⟩ := ownH_at (RU.out.later HB.out).own HLN.out hlt
            obtain ⟨g', eg', hc'⟩ := ownH_at (RU.out.later HB.out).own HLN.out (show m < n by omega)
            subst eg
            injection eg' with eg'
            injection eg' with eg'
            subst eg'
            have hl : clashB (nthH U k).h (nthH U m).h = false := HA.out.meet k m hlm (by rw [HLN.out]; exact hlt)
            have hx := (RU.out.later HB.out).ok _ (nthH_mem (i := k) (by rw [HLN.out]; exact hlt))
            have hy := (RU.out.later HB.out).ok _ (nthH_mem (i := m) (by rw [HLN.out]; omega))
            obtain ⟨x, hxe⟩ : ∃ x, x = nthH U k := ⟨_, rfl⟩
            obtain ⟨y, hye⟩ : ∃ y, y = nthH U m := ⟨_, rfl⟩
            rw [← hxe] at hc hl hx
            rw [← hye] at hc' hl hy
            have s0 := cell_regrown (show wr.cell? ⟨g, k * 8, none⟩ = _ from hc 0 _ rfl)
            have s1 := cell_regrown (hc 1 _ rfl)
            have s2 := cell_regrown (hc 2 _ rfl)
            have s3 := cell_regrown (hc 3 _ rfl)
            have s4 := cell_regrown (hc 4 _ rfl)
            have s5 := cell_regrown (hc 5 _ rfl)
            have s6 := cell_regrown (hc 6 _ rfl)
            have s7 := cell_regrown (hc 7 _ rfl)
            have t0 := cell_regrown (show wr.cell? ⟨g, m * 8, none⟩ = _ from hc' 0 _ rfl)
            have t1 := cell_regrown (hc' 1 _ rfl)
            have t2 := cell_regrown (hc' 2 _ rfl)
            have t3 := cell_regrown (hc' 3 _ rfl)
            have t4 := cell_regrown (hc' 4 _ rfl)
            have t5 := cell_regrown (hc' 5 _ rfl)
            have t6 := cell_regrown (hc' 6 _ rfl)
            have t7 := cell_regrown (hc' 7 _ rfl)
            have CL : Hid (∀ W, Below wr.heap.size wr W → Calls Try.prog 39 #[.agg #[.int .u32 x.h.id.1, .int .u32 x.h.id.2, .int .u32 x.h.home, .int .u64 x.h.w, .int .u32 x.h.l, .int .u32 x.h.n, .slice x.ra x.h.rs.length x.rc, .slice x.wa x.h.ws.length x.wc], .agg #[.int .u32 y.h.id.1, .int .u32 y.h.id.2, .int .u32 y.h.home, .int .u64 y.h.w, .int .u32 y.h.l, .int .u32 y.h.n, .slice y.ra y.h.rs.length y.rc, .slice y.wa y.h.ws.length y.wc]] W fun e w' => e = .returned (.bool false) ∧ Below W.heap.size W w') := fun W hb => clash_is hl (hx.later hb) (hy.later hb)
            clear hc hc' hl hxe hye hx hy
            go_wp2_with fail
            refine wp_region_quiet_below (by kernel_rfl) (by kernel_rfl) ?_
            repeat (go_big_quiet_step (((go_at_call 39; exact Calls.regrown_of (CL.out _ (below_of_regrown ⟨⟨_, _⟩, rfl⟩))))))
            refine wpQuiet_nil ?_
            intro wn hwn
            replace hwn := below_of_regrown hwn
            go_wp2_with fail
            go_roundg (k - (m + 1))
            case measure => omega
            case rel => exact ⟨m + 1, by omega, rfl, by go_num, Below.on HB.out hwn⟩
          · obtain rfl : m = k := by omega
            go_wp2_with fail
            go_roundg (n - (m + 1))
            case measure => omega
            case rel => exact ⟨m + 1, by omega, rfl, by go_num, HB⟩
    · obtain rfl : k = n := by omega
      go_wp2_with fail
      go_ret
      exact ⟨rfl, HB.out⟩
end Go.Proofs.Ytbgmbbmnnfmbpaa.Lk
