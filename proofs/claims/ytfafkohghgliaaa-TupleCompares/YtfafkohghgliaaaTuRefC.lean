import Derived.Test.YtfafkohghgliaaaTuCmpL
/- The document's order of tuples. -/
namespace Go.Proofs.Ytfafkohghgliaaa.Tu
open Go.RowKit Go.Sort Go.Proofs.Ytfafkohghgliaaa
set_option linter.unusedVariables false
set_option linter.unusedSectionVars false
variable [DecidableEq Vl]

set_option maxHeartbeats 1000000 in
theorem before_is {x y : Vl} {u : Bool} (hx : x.ok) (hy : y.ok) (hu : bef x y = u) (w : World) :
    Calls Try.prog 15 #[x.val, y.val] w fun e w' => e = .returned (.bool u) ∧ Below w.heap.size w w' := by
  subst hu
  have q := bless hx.b8 hy.b8
  obtain ⟨k, f, n, s⟩ := x
  obtain ⟨k', f', n', s'⟩ := y
  simp only at q
  by_cases h1 : k = k'
  · subst h1
    have g1 : (k != k) = false := by simp
    by_cases h2 : f = f'
    · subst h2
      have g2 : (f != f) = false := by simp
      by_cases h3 : n = n'
      · subst h3
        have g3 : (n != n) = false := by simp
        have e : bef ⟨k, f, n, s⟩ ⟨k, f, n, s'⟩ = ltL s s' := by simp [bef]
        rw [e, ← q]
        clear q
        go_enter Try.func15, Try.ntmps15
        go_wp2_with fail
        go_ret
        exact ⟨rfl, by (repeat (first | exact Below.refl _ _ | assumption | refine Below.drew ?_ | refine Below.al ?_ _ | refine Below.setCell ?_ (by first | exact Nat.le_refl _ | (simp; omega) | (simp; done)) _ | refine Below.on ?_ (by assumption)))⟩
      · have g3 : (n != n') = true := by simpa using h3
        have e : bef ⟨k, f, n, s⟩ ⟨k, f, n', s'⟩ = decide (n < n') := by simp [bef, h3]
        rw [e]
        clear q
        go_enter Try.func15, Try.ntmps15
        go_wp2_with fail
        go_ret
        exact ⟨rfl, by (repeat (first | exact Below.refl _ _ | assumption | refine Below.drew ?_ | refine Below.al ?_ _ | refine Below.setCell ?_ (by first | exact Nat.le_refl _ | (simp; omega) | (simp; done)) _ | refine Below.on ?_ (by assumption)))⟩
    · have e : bef ⟨k, f, n, s⟩ ⟨k, f', n', s'⟩ = f' := by simp [bef, h2]
      rw [e]
      clear q e hx hy
      cases f <;> cases f' <;> first | exact absurd rfl h2 | skip
      all_goals
       clear h2
       go_enter Try.func15, Try.ntmps15
       go_wp2_with fail
       go_ret
       exact ⟨rfl, by (repeat (first | exact Below.refl _ _ | assumption | refine Below.drew ?_ | refine Below.al ?_ _ | refine Below.setCell ?_ (by first | exact Nat.le_refl _ | (simp; omega) | (simp; done)) _ | refine Below.on ?_ (by assumption)))⟩
  · have g1 : (k != k') = true := by simpa using h1
    have e : bef ⟨k, f, n, s⟩ ⟨k', f', n', s'⟩ = decide (k < k') := by simp [bef, h1]
    rw [e]
    clear q
    go_enter Try.func15, Try.ntmps15
    go_wp2_with fail
    go_ret
    exact ⟨rfl, by (repeat (first | exact Below.refl _ _ | assumption | refine Below.drew ?_ | refine Below.al ?_ _ | refine Below.setCell ?_ (by first | exact Nat.le_refl _ | (simp; omega) | (simp; done)) _ | refine Below.on ?_ (by assumption)))⟩

set_option maxHeartbeats 4000000 in
theorem refcompare_is {a b : Option Addr} {c d : Nat} {xs ys : List Vl} {w : World} (h : RowV w a xs) (k : RowV w b ys) (hx : OkT xs) (hy : OkT ys) (hl : xs.length ≤ 4611686018427387904) (hl2 : ys.length ≤ 4611686018427387904) :
    Calls Try.prog 7 #[.slice a xs.length c, .slice b ys.length d] w fun e w' => e = .returned (.int .i64 (cmpT xs ys)) ∧ Below w.heap.size w w' := by
  obtain ⟨n, hn⟩ : ∃ n, n = xs.length := ⟨_, rfl⟩
  obtain ⟨m, hm⟩ : ∃ m, m = ys.length := ⟨_, rfl⟩
  have HA := hid (show _ ∧ _ ∧ _ ∧ _ from ⟨h, k, hn, hm⟩)
  have HO := hid (show _ ∧ _ from ⟨hx, hy⟩)
  rw [← hn] at hl ⊢
  rw [← hm] at hl2 ⊢
  clear h k hn hm hx hy
  go_enter Try.func7, Try.ntmps7
  go_wp2_with fail
  go_loopg [5, 6, 7] n (fun g s5 s6 s7 wr => ∃ i : Nat, i ≤ n ∧ i ≤ m ∧ g = n - i ∧ s5 = .int .i64 i ∧ Hid (Below w.heap.size w wr) ∧ Hid (xs.take i = ys.take i))
  case atStart => exact ⟨0, by omega, by omega, by omega, rfl, Below.refl _ _, rfl⟩
  case round =>
    obtain ⟨i, hi, him, rfl, rfl, HB, HP⟩ := hrel
    by_cases hlt : i < n ∧ i < m
    · obtain ⟨hlt, hlm⟩ := hlt
      have hl1 : i < xs.length := by have := HA.out.2.2.1; omega
      have hl2 : i < ys.length := by have := HA.out.2.2.2; omega
      obtain ⟨ba, oa, ea, a0, a1, a2, a3⟩ := (HA.out.1.later HB.out) i hl1
      obtain ⟨bb, ob, eb, b0, b1, b2, b3⟩ := (HA.out.2.1.later HB.out) i hl2
      subst ea eb
      obtain ⟨x, hx⟩ : ∃ x, x = nthV xs i := ⟨_, rfl⟩
      obtain ⟨y, hy⟩ : ∃ y, y = nthV ys i := ⟨_, rfl⟩
      have ox : x.ok := by rw [hx]; exact HO.out.1 _ (nthV_mem hl1)
      have oy : y.ok := by rw [hy]; exact HO.out.2 _ (nthV_mem hl2)
      rw [← hx] at a0 a1 a2 a3
      rw [← hy] at b0 b1 b2 b3
      obtain ⟨u, hu⟩ : ∃ u, bef x y = u := ⟨_, rfl⟩
      obtain ⟨v, hv⟩ : ∃ v, bef y x = v := ⟨_, rfl⟩
      have HU : Hid (bef (nthV xs i) (nthV ys i) = u ∧ bef (nthV ys i) (nthV xs i) = v) := by show _ ∧ _; rw [← hx, ← hy]; exact ⟨hu, hv⟩
      have H1 := fun w => hid (before_is ox oy hu w)
      have H2 := fun w => hid (before_is oy ox hv w)
      clear hx hy hu hv hl1 hl2 ox oy
      obtain ⟨xk, xf, xn, xs'⟩ := x
      obtain ⟨yk, yf, yn, ys'⟩ := y
      simp only at a0 a1 a2 a3 b0 b1 b2 b3
      have ka0 := cell_regrown a0; have ka1 := cell_regrown a1; have ka2 := cell_regrown a2; have ka3 := cell_regrown a3
      have kb0 := cell_regrown b0; have kb1 := cell_regrown b1; have kb2 := cell_regrown b2; have kb3 := cell_regrown b3
      go_wp2_with fail
      refine wp_region_quiet_below (by kernel_rfl) (by kernel_rfl) ?_
      repeat (go_big_quiet_step (((go_at_call 15; exact Calls.regrown_of (H1 _).out))))
      refine wpQuiet_nil ?_
      intro w4 hww4
      replace hww4 := below_of_regrown hww4
      have HB4 : Hid (Below w.heap.size w w4) := Below.on HB.out hww4
      clear ka0 ka1 ka2 ka3 kb0 kb1 kb2 kb3
      replace a0 := cell_later hww4 a0; replace a1 := cell_later hww4 a1; replace a2 := cell_later hww4 a2; replace a3 := cell_later hww4 a3
      replace b0 := cell_later hww4 b0; replace b1 := cell_later hww4 b1; replace b2 := cell_later hww4 b2; replace b3 := cell_later hww4 b3
      have ka0 := cell_regrown a0; have ka1 := cell_regrown a1; have ka2 := cell_regrown a2; have ka3 := cell_regrown a3
      have kb0 := cell_regrown b0; have kb1 := cell_regrown b1; have kb2 := cell_regrown b2; have kb3 := cell_regrown b3
      clear hww4
      go_wp2_with fail
      refine wp_region_quiet_below (by kernel_rfl) (by kernel_rfl) ?_
      repeat (go_big_quiet_step (((go_at_call 15; exact Calls.regrown_of (H2 _).out))))
      refine wpQuiet_nil ?_
      intro w5 hww5
      replace hww5 := below_of_regrown hww5
      have HB5 : Hid (Below w.heap.size w w5) := Below.on HB4.out hww5
      clear hww5 a0 a1 a2 a3 b0 b1 b2 b3 ka0 ka1 ka2 ka3 kb0 kb1 kb2 kb3 HB HB4
      cases u with
      | true =>
        have HE : Hid (cmpT xs ys = -1) := by show _ = _; rw [cmp_at (by rw [← HA.out.2.2.1]; exact hlt) (by rw [← HA.out.2.2.2]; exact hlm) HP.out, HU.out.1]; rfl
        go_wp2_with fail
        go_ret
        exact ⟨ret_i (by rw [HE.out]), HB5.out⟩
      | false =>
        cases v with
        | true =>
          have HE : Hid (cmpT xs ys = 1) := by show _ = _; rw [cmp_at (by rw [← HA.out.2.2.1]; exact hlt) (by rw [← HA.out.2.2.2]; exact hlm) HP.out, HU.out.1, HU.out.2]; rfl
          go_wp2_with fail
          go_ret
          exact ⟨ret_i (by rw [HE.out]), HB5.out⟩
        | false =>
          go_wp2_with fail
          go_roundg (n - (i + 1))
          case measure => omega
          case rel => exact ⟨i + 1, by omega, by omega, rfl, by go_num, HB5.out, take_same (by rw [← HA.out.2.2.1]; exact hlt) (by rw [← HA.out.2.2.2]; exact hlm) HP.out HU.out.1 HU.out.2⟩
    · have HE : Hid (cmpT xs ys = if n < m then -1 else if m < n then 1 else 0) := by
        show _ = _
        rw [cmp_end (by rw [← HA.out.2.2.1]; exact hi) (by rw [← HA.out.2.2.2]; exact him) HP.out (by rw [← HA.out.2.2.1, ← HA.out.2.2.2]; omega), ← HA.out.2.2.1, ← HA.out.2.2.2]
      by_cases h1 : n < m
      · have e1 : ¬ i < n := by omega
        go_wp2_with fail
        go_ret
        exact ⟨ret_i (by rw [HE.out, if_pos h1]), HB.out⟩
      · by_cases h2 : m < n
        · have e1 : i < n := by omega
          have e2 : ¬ i < m := by omega
          go_wp2_with fail
          go_ret
          exact ⟨ret_i (by rw [HE.out, if_neg h1, if_pos h2]), HB.out⟩
        · have e1 : ¬ i < n := by omega
          go_wp2_with fail
          go_ret
          exact ⟨ret_i (by rw [HE.out, if_neg h1, if_neg h2]), HB.out⟩
end Go.Proofs.Ytfafkohghgliaaa.Tu
