import Derived.Test.YtfkiccdjffhhhaaGreatDoorRMay
import Derived.Lib.QuietBelow
import Derived.BigQuiet
/- sameTexts and sameConfig, where they are the same. -/
namespace Go.Proofs.YtfkiccdjffhhhaaGreatDoor.Rt
open Go.RowKit Go.Sort
set_option linter.unusedVariables false

set_option maxHeartbeats 2000000 in
theorem sameT_is {w : World} {a b : Option Addr} {ca cb : Nat} {ss : List ByteArray} (ha : RowS w a ss) (hb : RowS w b ss) (hl : ss.length ≤ 1000) :
    Calls Tryz.prog 18 #[.slice a ss.length ca, .slice b ss.length cb] w fun e w' => e = .returned (.bool true) ∧ Below w.heap.size w w' := by
  have H1 := hid ha; have H2 := hid hb
  clear ha hb
  go_enter Tryz.func18, Tryz.ntmps18
  go_wp2_with fail
  go_loopg [5] ss.length (fun g s5 wr => ∃ k : Nat, k ≤ ss.length ∧ g = ss.length - k ∧ s5 = .int .i64 k ∧ Hid (Below w.heap.size w wr))
  case atStart => exact ⟨0, by omega, by omega, rfl, hid (Below.refl _ _)⟩
  case round =>
    obtain ⟨k, hk, rfl, rfl, HK⟩ := hrel
    by_cases hlt : k < ss.length
    · obtain ⟨b1, o1, rfl, e0⟩ := (H1.out.later HK.out) k hlt
      obtain ⟨b2, o2, rfl, f0⟩ := (H2.out.later HK.out) k hlt
      obtain ⟨x, hx⟩ : ∃ x, x = nthS ss k := ⟨_, rfl⟩
      rw [← hx] at e0 f0
      clear hx
      have k0 := cell_regrown e0
      have l0 := cell_regrown f0
      go_wp2_with fail
      refine wp_region_quiet_below (by kernel_rfl) (by kernel_rfl) ?_
      repeat (go_big_quiet_step (fail))
      refine wpQuiet_nil ?_
      intro wq hq
      replace hq := below_of_regrown hq
      have HQ := hid (Below.on HK.out hq)
      clear hq k0 l0
      go_wp2_with fail
      go_roundg (ss.length - (k + 1))
      case measure => omega
      case rel => exact ⟨k + 1, by omega, rfl, by go_num, HQ⟩
    · obtain rfl : k = ss.length := by omega
      go_wp2_with fail
      go_ret
      exact ⟨rfl, HK.out⟩
set_option maxRecDepth 16000 in
set_option maxHeartbeats 4000000 in
theorem sameC_is {w : World} {c : Cf} {a : Option Addr} {cp : Nat} (h : RowS w c.a c.ss) (ha : RowS w a c.ss) (hl : c.ss.length ≤ 1000) :
    Calls Tryz.prog 8 #[.agg #[.int .i64 c.sh, .int .i64 c.cl, .slice a c.ss.length cp, .int .i64 c.ca, .int .i64 c.pk, .int .u64 c.wi], c.val] w fun e w' => e = .returned (.bool true) ∧ Below w.heap.size w w' := by
  obtain ⟨wb, hwb⟩ : ∃ wb, wb = (w.alloc (.cells #[.int .i64 c.sh, .int .i64 c.cl, .slice a c.ss.length cp, .int .i64 c.ca, .int .i64 c.pk, .int .u64 c.wi] 25)).alloc (.cells #[.int .i64 c.sh, .int .i64 c.cl, .slice c.a c.ss.length c.cp, .int .i64 c.ca, .int .i64 c.pk, .int .u64 c.wi] 25) := ⟨_, rfl⟩
  have hb : Below w.heap.size w wb := by rw [hwb]; (repeat (first | with_reducible exact Below.refl _ _ | with_reducible assumption | with_reducible refine Below.drew ?_ | with_reducible refine Below.al ?_ _ | with_reducible refine Below.setCell ?_ (by first | exact Nat.le_refl _ | (simp; omega) | (simp; done)) _ | with_reducible refine Below.on ?_ (by assumption)))
  have HS := hid (sameT_is (ca := cp) (cb := c.cp) (ha.later hb) (h.later hb) hl)
  have HB := hid hb
  clear hb h ha
  obtain ⟨sh, cl, ca, cp', ss, cca, cpk, cwi⟩ := c
  simp only at hwb HS
  go_enter Tryz.func8, Tryz.ntmps8
  go_wp2_with fail
  rw [← hwb]
  refine HS.out.mono ?_
  rintro e w1 ⟨rfl, hb1⟩
  go_wp2_with fail
  go_ret
  exact ⟨rfl, Below.on HB.out hb1⟩
end Go.Proofs.YtfkiccdjffhhhaaGreatDoor.Rt
