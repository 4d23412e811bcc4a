import Derived.Test.YtodolbekbeccbabMax
import Derived.Test.YtodolbekbeccbabRefLess
namespace Go.Proofs.Ytodolbekbeccbab
open Go.RowKit Go.Sort

set_option maxHeartbeats 1000000 in
theorem refmax_any (a : Option Addr) (c : Nat) (xs : List St) (w : World) (h : Row w a xs) (hl : xs.length ≤ 9223372036854775807) :
    Calls Try.prog 12 #[.slice a xs.length c] w fun e w' => e = .returned (maxSt zst xs).val ∧ Below w.heap.size w w' := by
  go_enter Try.func12, Try.ntmps12
  go_wp2_with fail
  go_loopg [4] xs.length (fun g s4 wr => ∃ k : Nat, k ≤ xs.length ∧ g = xs.length - k ∧ s4 = .int .i64 k ∧ MaxAt w wr w.heap.size (maxSt zst (xs.take k)))
  case atStart =>
    refine ⟨0, by omega, by omega, rfl, ?_, Nat.le_refl _, by simp, ?_, ?_, fun o => by simp [go_sem], fun o => by simp [go_sem]⟩
    · exact ((Below.refl _ _).alloc (Nat.le_refl _) _).alloc (by simp) _
    · refine ⟨?_, ?_, ?_⟩ <;> (simp [go_sem]; done)
    · refine ⟨?_, ?_, ?_⟩ <;> (simp [go_sem, maxSt, zst]; done)
  case round =>
    obtain ⟨k, hk, rfl, rfl, R⟩ := hrel
    obtain ⟨m, hm⟩ : ∃ m, m = maxSt zst (xs.take k) := ⟨_, rfl⟩
    rw [← hm] at R
    have ⟨g0, g1, g2⟩ := R.great
    have ⟨r0, r1, r2⟩ := R.res
    have f1 : ∀ o, wr.frozen? ⟨w.heap.size + 1, o, none⟩ = false := R.loose1
    have f0 : ∀ o, wr.frozen? ⟨w.heap.size, o, none⟩ = false := R.loose
    by_cases hlt : k < xs.length
    · have hs := maxSt_snoc (xs.take k) (nth xs k) zst
      rw [← nth_take hlt, ← hm] at hs
      have HS := hid hs
      obtain ⟨b, off, rfl, c0, c1, c2⟩ := (h.later R.below) k hlt
      obtain ⟨x, hx⟩ : ∃ x, x = nth xs k := ⟨_, rfl⟩
      rw [← hx] at c0 c1 c2 HS
      have hsz := R.size
      have hN0 : w.heap.size < wr.heap.size := by omega
      have hN1 : w.heap.size + 1 < wr.heap.size := by omega
      have kg0 := cell_regrown g0; have kg1 := cell_regrown g1; have kg2 := cell_regrown g2
      have kc0 := cell_regrown c0; have kc1 := cell_regrown c1; have kc2 := cell_regrown c2
      obtain ⟨u, hu⟩ : ∃ u, lessB m.w m.l m.n x.w x.l x.n = u := ⟨_, rfl⟩
      clear hs hx hm hsz
      go_wp2_with fail
      refine wp_region_quiet_below (by kernel_rfl) (by kernel_rfl) ?_
      repeat (go_big_quiet_step ((go_at_call 22; exact Calls.regrown_of (refless_is hu _))))
      refine wpQuiet_nil ?_
      intro w1 hw
      replace hw := below_of_regrown hw
      have R1 := R.later hw
      have ⟨g0, g1, g2⟩ := R1.great
      have c0 := cell_later hw c0; have c1 := cell_later hw c1; have c2 := cell_later hw c2
      have f1 : ∀ o, w1.frozen? ⟨w.heap.size + 1, o, none⟩ = false := R1.loose1
      have HU : Hid (m.less x = u) := hu
      clear hu hw R hN0 hN1 r0 r1 r2 f0 kg0 kg1 kg2 kc0 kc1 kc2
      cases u
      all_goals
        go_wp2_with fail
        go_roundg (xs.length - (k + 1))
        case measure => omega
      · refine ⟨k + 1, by omega, rfl, by go_num, ?_⟩
        rw [HS.out, HU.out]
        exact R1
      · refine ⟨k + 1, by omega, rfl, by go_num, ?_⟩
        rw [HS.out, HU.out]
        exact R1.put x
    · obtain rfl : k = xs.length := by omega
      rw [List.take_of_length_le (Nat.le_refl _)] at hm
      have hsz := R.size
      go_wp2_with fail
      rw [← hm]
      refine bodyPost_ret (v := m.val) (by simp [results, Try.results12, go_sem, r0, r1, r2]) rfl ⟨rfl, ?_⟩
      exact Below.put R.below (Nat.le_refl _) m.w m.l m.n

end Go.Proofs.Ytodolbekbeccbab
