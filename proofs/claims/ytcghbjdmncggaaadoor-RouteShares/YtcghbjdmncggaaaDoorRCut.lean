import Derived.Test.YtcghbjdmncggaaaDoorRSmall
/- A shard's range; the common part of two spans. -/
namespace Go.Proofs.YtcghbjdmncggaaaDoor.Rt
open Go.RowKit Go.Sort
set_option linter.unusedVariables false

abbrev spv (s : T2) : Value := .agg #[.string s.1, .string s.2]

set_option maxHeartbeats 4000000 in
theorem reach_is {c : Cf} {w : World} (h : c.Ok w) (hl : c.ss.length ≤ 5) {n : Nat} (hn : n ≤ c.ss.length) :
    Calls Tryd.prog 28 #[c.val, .int .i64 (n : Int)] w fun e w' => e = .returned (spv (reachN c.ss n)) ∧ Below w.heap.size w w' := by
  have H := hid h.row
  clear h
  obtain ⟨sh, cl, a, cp, ss, ca, pk, wi⟩ := c
  simp only at hl hn
  obtain ⟨lo, hlo⟩ : ∃ lo, lo = prevS ss n := ⟨_, rfl⟩
  obtain ⟨hi, hhi⟩ : ∃ hi, hi = nthS ss n := ⟨_, rfl⟩
  have HE : Hid (reachN ss n = (lo, hi)) := hid (by rw [reachN, hlo, hhi])
  have HR := hid (fun i (hi : i < ss.length) => (H.out.later (w' := ((w.alloc (.cells #[.int .i64 sh, .int .i64 cl, .slice a ss.length cp, .int .i64 ca, .int .i64 pk, .int .u64 wi] 25)).alloc (.cells #[.string ⟨#[]⟩, .string ⟨#[]⟩] 37)).alloc (.cells #[.string ⟨#[]⟩, .string ⟨#[]⟩] 37)) (by (repeat (first | exact Below.refl _ _ | assumption | refine Below.drew ?_ | refine Below.al ?_ _ | refine Below.setCell ?_ (by first | exact Nat.le_refl _ | (simp; omega) | (simp; done)) _ | refine Below.on ?_ (by assumption))))) i hi)
  by_cases h0 : n ≤ 0
  · have hl0 : lo = ⟨#[]⟩ := by rw [hlo, show n = 0 by omega]; rfl
    by_cases h1 : n < ss.length
    · obtain ⟨b, off, rfl, c1⟩ := HR.out n h1
      rw [← hhi] at c1
      clear hlo hhi
      subst hl0
      go_enter Tryd.func28, Tryd.ntmps28
      go_wp2_with fail
      refine bodyPost_ret (v := spv (⟨#[]⟩, hi)) (by simp [results, Tryd.results28, go_sem]) rfl ⟨by rw [HE.out], by (repeat (first | exact Below.refl _ _ | assumption | refine Below.drew ?_ | refine Below.al ?_ _ | refine Below.setCell ?_ (by first | exact Nat.le_refl _ | (simp; omega) | (simp; done)) _ | refine Below.on ?_ (by assumption)))⟩
    · have hh0 : hi = ⟨#[]⟩ := by rw [hhi, show n = ss.length by omega]; exact reach_last _
      clear hlo hhi
      subst hl0 hh0
      go_enter Tryd.func28, Tryd.ntmps28
      go_wp2_with fail
      refine bodyPost_ret (v := spv (⟨#[]⟩, ⟨#[]⟩)) (by simp [results, Tryd.results28, go_sem]) rfl ⟨by rw [HE.out], by (repeat (first | exact Below.refl _ _ | assumption | refine Below.drew ?_ | refine Below.al ?_ _ | refine Below.setCell ?_ (by first | exact Nat.le_refl _ | (simp; omega) | (simp; done)) _ | refine Below.on ?_ (by assumption)))⟩
  · obtain ⟨k, rfl⟩ : ∃ k, n = k + 1 := ⟨n - 1, by omega⟩
    have hlo' : lo = nthS ss k := by rw [hlo]; simp [prevS]
    obtain ⟨b, off, rfl, c0⟩ := HR.out k (by omega)
    rw [← hlo'] at c0
    clear hlo' hlo
    by_cases h1 : k + 1 < ss.length
    · obtain ⟨b', off', e', c1⟩ := (H.out.later (w' := ((w.alloc (.cells #[.int .i64 sh, .int .i64 cl, .slice (some ⟨b, off, none⟩) ss.length cp, .int .i64 ca, .int .i64 pk, .int .u64 wi] 25)).alloc (.cells #[.string ⟨#[]⟩, .string ⟨#[]⟩] 37)).alloc (.cells #[.string lo, .string ⟨#[]⟩] 37)) (by (repeat (first | exact Below.refl _ _ | assumption | refine Below.drew ?_ | refine Below.al ?_ _ | refine Below.setCell ?_ (by first | exact Nat.le_refl _ | (simp; omega) | (simp; done)) _ | refine Below.on ?_ (by assumption))))) (k + 1) h1
      injection e' with e'; injection e' with e1 e2
      subst e1 e2
      rw [← hhi] at c1
      clear hhi
      go_enter Tryd.func28, Tryd.ntmps28
      go_wp2_with fail
      refine bodyPost_ret (v := spv (lo, hi)) (by simp [results, Tryd.results28, go_sem]) rfl ⟨by rw [HE.out], by (repeat (first | exact Below.refl _ _ | assumption | refine Below.drew ?_ | refine Below.al ?_ _ | refine Below.setCell ?_ (by first | exact Nat.le_refl _ | (simp; omega) | (simp; done)) _ | refine Below.on ?_ (by assumption)))⟩
    · have hh0 : hi = ⟨#[]⟩ := by rw [hhi, show k + 1 = ss.length by omega]; exact reach_last _
      clear hhi
      subst hh0
      go_enter Tryd.func28, Tryd.ntmps28
      go_wp2_with fail
      refine bodyPost_ret (v := spv (lo, ⟨#[]⟩)) (by simp [results, Tryd.results28, go_sem]) rfl ⟨by rw [HE.out], by (repeat (first | exact Below.refl _ _ | assumption | refine Below.drew ?_ | refine Below.al ?_ _ | refine Below.setCell ?_ (by first | exact Nat.le_refl _ | (simp; omega) | (simp; done)) _ | refine Below.on ?_ (by assumption)))⟩

end Go.Proofs.YtcghbjdmncggaaaDoor.Rt
