import Derived.Test.YtgplnbdankfobaaGreatDoorQList
import Derived.Test.YtgplnbdankfobaaGreatDoorGCells
/- SameList. -/
namespace Go.Proofs.YtgplnbdankfobaaGreatDoor.Lk
open Go.RowKit Go.Sort
set_option linter.unusedVariables false

set_option maxHeartbeats 2000000 in
theorem sameList_is {w : World} {B B' n m c c' : Nat} {a a' : Option Addr} {U V : List Hv} {u : Bool} (hu : u = true ↔ U.map Hv.h = V.map Hv.h) (hU : RowH B w a n c U) (hV : RowH B' w a' m c' V) :
    Calls Tryz.prog 13 #[.slice a n c, .slice a' m c'] w fun e w' => e = .returned (.bool u) ∧ Below w.heap.size w w' := by
  have HU := hid hu
  have RU := hid hU
  have RV := hid hV
  have hln := hU.len
  have hnl := own_le hU.own
  have hlm := hV.len
  by_cases hnm : n = m
  · have h0 : ((n : Int) != (m : Int)) = false := by rw [hnm]; simp
    have HNM := hid hnm
    have HLN := hid hln
    have HLM := hid hlm
    clear hu hU hV hnm hln hlm
    go_enter Tryz.func13, Tryz.ntmps13
    go_wp2_with fail
    go_loopg [5] n (fun g s5 wr => ∃ k : Nat, k ≤ n ∧ g = n - k ∧ s5 = .int .i64 k ∧ Hid (Below w.heap.size w wr) ∧ Hid (∀ j, j < k → (nthH U j).h = (nthH V j).h))
    case atStart => exact ⟨0, by omega, by omega, rfl, Below.refl _ _, fun j hj => absurd hj (by omega)⟩
    case round =>
      obtain ⟨k, hk, rfl, rfl, HB, HA⟩ := hrel
      by_cases hlt : k < n
      · have hkm : k < m := by have := HNM.out; omega
        obtain ⟨g, eg, hc⟩ := ownH_at (RU.out.later HB.out).own HLN.out hlt
        obtain ⟨g', eg', hc'⟩ := ownH_at (RV.out.later HB.out).own HLM.out hkm
        subst eg eg'
        have hx := (RU.out.later HB.out).ok _ (nthH_mem (by rw [HLN.out]; exact hlt))
        have hy := (RV.out.later HB.out).ok _ (nthH_mem (by rw [HLM.out]; exact hkm))
        obtain ⟨x, hxe⟩ : ∃ x, x = nthH U k := ⟨_, rfl⟩
        obtain ⟨y, hye⟩ : ∃ y, y = nthH V k := ⟨_, rfl⟩
        rw [← hxe] at hc hx
        rw [← hye] at hc' hy
        have s0 := cell_regrown (show wr.cell? ⟨g, k * 8, none⟩ = _ from hc 0 _ rfl)
        have s1 := cell_regrown (hc 1 _ rfl)
        have s2 := cell_regrown (hc 2 _ rfl)
        have s3 := cell_regrown (hc 3 _ rfl)
        have s4 := cell_regrown (hc 4 _ rfl)
        have s5 := cell_regrown (hc 5 _ rfl)
        have s6 := cell_regrown (hc 6 _ rfl)
        have s7 := cell_regrown (hc 7 _ rfl)
        have t0 := cell_regrown (show wr.cell? ⟨g', k * 8, none⟩ = _ from hc' 0 _ rfl)
        have t1 := cell_regrown (hc' 1 _ rfl)
        have t2 := cell_regrown (hc' 2 _ rfl)
        have t3 := cell_regrown (hc' 3 _ rfl)
        have t4 := cell_regrown (hc' 4 _ rfl)
        have t5 := cell_regrown (hc' 5 _ rfl)
        have t6 := cell_regrown (hc' 6 _ rfl)
        have t7 := cell_regrown (hc' 7 _ rfl)
        obtain ⟨v, hv⟩ : ∃ v : Bool, v = true ↔ x.h = y.h := by
          by_cases e : x.h = y.h
          · exact ⟨true, by simp [e]⟩
          · exact ⟨false, by simp [e]⟩
        have SM : Hid (∀ W, Below wr.heap.size wr W → Calls Tryz.prog 15 #[.agg #[.int .u32 x.h.id.1, .int .u32 x.h.id.2, .int .u32 x.h.home, .int .u64 x.h.w, .int .u32 x.h.l, .int .u32 x.h.n, .slice x.ra x.h.rs.length x.rc, .slice x.wa x.h.ws.length x.wc], .agg #[.int .u32 y.h.id.1, .int .u32 y.h.id.2, .int .u32 y.h.home, .int .u64 y.h.w, .int .u32 y.h.l, .int .u32 y.h.n, .slice y.ra y.h.rs.length y.rc, .slice y.wa y.h.ws.length y.wc]] W fun e w' => e = .returned (.bool v) ∧ Below W.heap.size W w') := fun W hb => same_is hv (hx.later hb) (hy.later hb)
        have HV := hid hv
        have HX := hid hxe
        have HY := hid hye
        have hk1 : (k : Int) < (n : Int) := by omega
        have hk2 : (k : Int) < (m : Int) := by omega
        clear hc hc' hx hy hv hxe hye
        cases v with
        | true =>
          go_wp2_with fail
          refine wp_region_quiet_below (by kernel_rfl) (by kernel_rfl) ?_
          repeat (go_big_quiet_step (((go_at_call 15; exact Calls.regrown_of (SM.out _ (below_of_regrown ⟨⟨_, _⟩, rfl⟩))))))
          refine wpQuiet_nil ?_
          intro wn hwn
          replace hwn := below_of_regrown hwn
          go_wp2_with fail
          go_roundg (n - (k + 1))
          case measure => omega
          case rel =>
            refine ⟨k + 1, by omega, rfl, by go_num, Below.on HB.out hwn, fun j hj => ?_⟩
            by_cases e : j = k
            · subst e; rw [← HX.out, ← HY.out]; exact HV.out.1 (by simp)
            · exact HA.out j (by omega)
        | false =>
          have hu0 : u = false := by
            cases u with
            | false => rfl
            | true =>
              exfalso
              have h1 := HU.out.1 rfl
              have h2 : x.h = y.h := by
                have h3 := congrArg (fun l => l[k]?) h1
                have e1 : k < U.length := by rw [HLN.out]; exact hlt
                have e2 : k < V.length := by rw [HLM.out]; exact hkm
                rw [HX.out, HY.out]
                simpa [nthH, e1, e2] using h3
              have := HV.out.2 h2
              cases this
          subst hu0
          go_wp2_with fail
          refine wp_region_quiet_below (by kernel_rfl) (by kernel_rfl) ?_
          repeat (go_big_quiet_step (((go_at_call 15; exact Calls.regrown_of (SM.out _ (below_of_regrown ⟨⟨_, _⟩, rfl⟩))))))
          refine wpQuiet_nil ?_
          intro wn hwn
          replace hwn := below_of_regrown hwn
          go_wp2_with fail
          go_ret
          exact ⟨rfl, Below.on HB.out hwn⟩
      · obtain rfl : k = n := by omega
        have hu1 : u = true := HU.out.2 (nthH_ext (by rw [HLN.out, HLM.out, HNM.out]) (by rw [HLN.out]; exact HA.out))
        subst hu1
        go_wp2_with fail
        go_ret
        exact ⟨rfl, HB.out⟩
  · have h0 : ((n : Int) != (m : Int)) = true := by simp; omega
    have hu0 : u = false := by
      cases u with
      | false => rfl
      | true =>
        have := congrArg List.length (hu.1 rfl)
        simp at this; omega
    subst hu0
    clear hu hU hV HU RU RV hnm hln hlm
    go_enter Tryz.func13, Tryz.ntmps13
    go_wp2_with fail
    go_ret
    exact ⟨rfl, by (repeat (first | exact Below.refl _ _ | assumption | refine Below.drew ?_ | refine Below.al ?_ _ | refine Below.setCell ?_ (by first | exact Nat.le_refl _ | (simp; omega) | (simp; done)) _ | refine Below.on ?_ (by assumption)))⟩
end Go.Proofs.YtgplnbdankfobaaGreatDoor.Lk
