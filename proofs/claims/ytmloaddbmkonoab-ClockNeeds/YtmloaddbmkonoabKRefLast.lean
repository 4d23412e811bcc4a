import Derived.Test.YtmloaddbmkonoabKRef
namespace Go.Proofs.Ytmloaddbmkonoab
open Go.RowKit Go.Sort
set_option linter.unusedVariables false

theorem RefAt.row {w : World} {B : Nat} {x : Rd} (h : RefAt w B x) : Row w (some ⟨x.g3, 0, none⟩) x.ss := by
  obtain ⟨a, c, e, hr⟩ := row_of_owns h.r3
  injection e with e1 _ _
  rw [e1]; exact hr
theorem RefAt.laid {w : World} {B : Nat} {x : Rd} (h : RefAt w B x) {i : Nat} (hi : i < x.ls.length) : w.cell? ⟨x.g4, i, none⟩ = some (.int .u64 (x.ls.getD i 0)) := by
  rw [h.r4.cellAt i (by omega)]
  simp [ints, hi]
theorem RefAt.reading {w : World} {B : Nat} {x : Rd} (h : RefAt w B x) {i : Nat} (hi : i < x.rs.length) : w.cell? ⟨x.g2, i, none⟩ = some (.int .u64 (x.rs.getD i 0)) := by
  rw [h.r2.cellAt i (by omega)]
  simp [ints, hi]

set_option maxHeartbeats 1000000 in
theorem rlast_any (B : Nat) (x : Rd) (w : World) (H : Hid (RefAt w B x)) (hl : x.ss.length ≤ 9223372036854775807) :
    Calls Try.prog 18 #[.pointer (some ⟨x.d, 0, none⟩)] w fun e w' => e = .returned (maxSt zst x.ss).val ∧ Below w.heap.size w w' := by
  have hd := H.out.lt
  have c3 := H.out.c3
  go_enter Try.func18, Try.ntmps18
  go_wp2_with fail
  go_loopg [4] x.ss.length (fun g s4 wr => ∃ k : Nat, k ≤ x.ss.length ∧ g = x.ss.length - k ∧ s4 = .int .i64 k ∧ MaxAt w wr w.heap.size (maxSt zst (x.ss.take k)))
  case atStart =>
    refine ⟨0, by omega, by omega, rfl, ?_, Nat.le_refl _, by simp, ?_, ?_, fun o => by simp [go_sem], fun o => by simp [go_sem]⟩
    · exact ((Below.refl _ _).alloc (Nat.le_refl _) _).alloc (by simp) _
    · refine ⟨?_, ?_, ?_⟩ <;> (simp [go_sem]; done)
    · refine ⟨?_, ?_, ?_⟩ <;> (simp [go_sem, maxSt, zst]; done)
  case round =>
    obtain ⟨k, hk, rfl, rfl, R⟩ := hrel
    obtain ⟨m, hm⟩ : ∃ m, m = maxSt zst (x.ss.take k) := ⟨_, rfl⟩
    rw [← hm] at R
    have ⟨g0, g1, g2⟩ := R.great
    have ⟨r0, r1, r2⟩ := R.res
    have f1 : ∀ o, wr.frozen? ⟨w.heap.size + 1, o, none⟩ = false := R.loose1
    have f0 : ∀ o, wr.frozen? ⟨w.heap.size, o, none⟩ = false := R.loose
    have HR := H.out.later R.below
    have c3 := HR.c3
    by_cases hlt : k < x.ss.length
    · have hs := maxSt_snoc (x.ss.take k) (nth x.ss k) zst
      rw [← nth_take hlt, ← hm] at hs
      have HS := hid hs
      obtain ⟨b, off, e, e0, e1, e2⟩ := HR.row k hlt
      injection e with e
      injection e with eb eo _
      subst eb eo
      simp only [Nat.zero_add] at e0 e1 e2
      obtain ⟨y, hy⟩ : ∃ y, y = nth x.ss k := ⟨_, rfl⟩
      rw [← hy] at e0 e1 e2 HS
      have hsz := R.size
      have hN0 : w.heap.size < wr.heap.size := by omega
      have hN1 : w.heap.size + 1 < wr.heap.size := by omega
      have kg0 := cell_regrown g0; have kg1 := cell_regrown g1; have kg2 := cell_regrown g2
      have kc0 := cell_regrown e0; have kc1 := cell_regrown e1; have kc2 := cell_regrown e2
      have kc3 := cell_regrown c3
      obtain ⟨u, hu⟩ : ∃ u, lessB m.w m.l m.n y.w y.l y.n = u := ⟨_, rfl⟩
      clear hs hy hm hsz HR
      go_wp2_with fail
      refine wp_region_quiet_below (by kernel_rfl) (by kernel_rfl) ?_
      repeat (go_big_quiet_step ((go_at_call 27; exact Calls.regrown_of (after_is hu _))))
      refine wpQuiet_nil ?_
      intro w1 hw
      replace hw := below_of_regrown hw
      have R1 := R.later hw
      have ⟨g0, g1, g2⟩ := R1.great
      have e0 := cell_later hw e0; have e1 := cell_later hw e1; have e2 := cell_later hw e2
      have c3 := cell_later hw c3
      have f1 : ∀ o, w1.frozen? ⟨w.heap.size + 1, o, none⟩ = false := R1.loose1
      have HU : Hid (m.less y = u) := hu
      clear hu hw R hN0 hN1 r0 r1 r2 f0 kg0 kg1 kg2 kc0 kc1 kc2 kc3
      cases u
      all_goals
        go_wp2_with fail
        go_roundg (x.ss.length - (k + 1))
        case measure => omega
      · refine ⟨k + 1, by omega, rfl, by go_num, ?_⟩
        rw [HS.out, HU.out]
        exact R1
      · refine ⟨k + 1, by omega, rfl, by go_num, ?_⟩
        rw [HS.out, HU.out]
        exact R1.put y
    · obtain rfl : k = x.ss.length := by omega
      rw [List.take_of_length_le (Nat.le_refl _)] at hm
      have hsz := R.size
      clear HR
      go_wp2_with fail
      rw [← hm]
      refine bodyPost_ret (v := m.val) (by simp [results, Try.results18, go_sem, r0, r1, r2]) rfl ⟨rfl, ?_⟩
      exact Below.put R.below (Nat.le_refl _) m.w m.l m.n

/-- the greatest of a list, at least m -/
def maxL (m : Int) : List Int → Int
  | [] => m
  | x :: xs => maxL (if m < x then x else m) xs
theorem maxL_snoc (xs : List Int) (x m : Int) : maxL m (xs ++ [x]) = if maxL m xs < x then x else maxL m xs := by
  induction xs generalizing m with
  | nil => rfl
  | cons y ys ih => exact ih _
theorem take_getD {xs : List Int} {k : Nat} (h : k < xs.length) : xs.take (k + 1) = xs.take k ++ [xs.getD k 0] := by
  rw [List.take_succ_eq_append_getElem h]; simp [h]

set_option maxHeartbeats 1000000 in
theorem rceiling_any (B : Nat) (x : Rd) (w : World) (H : Hid (RefAt w B x)) (hl : x.ls.length ≤ 9223372036854775807) :
    Calls Try.prog 24 #[.pointer (some ⟨x.d, 0, none⟩)] w fun e w' => e = .returned (.int .u64 (maxL 0 x.ls)) ∧ Below w.heap.size w w' := by
  have c4 := H.out.c4
  go_enter Try.func24, Try.ntmps24
  go_wp2_with fail
  go_loopg [3, 4] x.ls.length (fun g s3 s4 wr => ∃ k : Nat, k ≤ x.ls.length ∧ g = x.ls.length - k ∧ s3 = .int .u64 (maxL 0 (x.ls.take k)) ∧ s4 = .int .i64 k ∧ Below w.heap.size w wr)
  case atStart => exact ⟨0, by omega, by omega, rfl, rfl, Below.refl _ _⟩
  case round =>
    obtain ⟨k, hk, rfl, rfl, rfl, hb⟩ := hrel
    have HR := H.out.later hb
    have c4 := HR.c4
    obtain ⟨m, hm⟩ : ∃ m, m = maxL 0 (x.ls.take k) := ⟨_, rfl⟩
    rw [← hm]
    by_cases hlt : k < x.ls.length
    · have e0 := HR.laid hlt
      have hs := maxL_snoc (x.ls.take k) (x.ls.getD k 0) 0
      rw [← take_getD hlt, ← hm] at hs
      generalize x.ls.getD k 0 = y at e0 hs
      have HS := hid hs
      clear hs hm HR
      by_cases hy : m < y
      · go_wp2_with fail
        go_roundg (x.ls.length - (k + 1))
        case measure => omega
        case rel => exact ⟨k + 1, by omega, rfl, by rw [HS.out, if_pos hy], by go_num, hb⟩
      · have hy' : decide (m < y) = false := decide_eq_false hy
        have HY := hid hy
        clear hy
        go_wp2_with fail
        go_roundg (x.ls.length - (k + 1))
        case measure => omega
        case rel => exact ⟨k + 1, by omega, rfl, by rw [HS.out, if_neg (by have := HY.out; omega)], by go_num, hb⟩
    · obtain rfl : k = x.ls.length := by omega
      rw [List.take_of_length_le (Nat.le_refl _)] at hm
      clear HR
      have HM := hid hm
      clear hm
      go_wp2_with fail
      go_ret
      exact ⟨by rw [← HM.out]; rfl, hb⟩

end Go.Proofs.Ytmloaddbmkonoab
