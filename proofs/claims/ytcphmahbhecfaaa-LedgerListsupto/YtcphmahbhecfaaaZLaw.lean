import Derived.Test.YtcphmahbhecfaaaZLists
/- LedgerLists (written by mk_zlaw.py). -/
namespace Go.Proofs.Ytcphmahbhecfaaa.Lg
open Go.RowKit Go.Sort Go.Shelf Go.Lib Lk
set_option linter.unusedVariables false

abbrev oneL (home : Int) : En := ⟨(9, 9), home, 1, 0, 0, 0⟩
theorem decM_may {M : List En} {e : En} (h : ∀ x ∈ M, mayB x = true) : ∀ x ∈ decM M e, mayB x = true := by
  unfold decM
  split
  · rename_i hm
    cases outM M e.id with
    | none =>
      intro x hx
      have hx' : x ∈ M ++ [e] := hx
      rcases List.mem_append.1 hx' with hx | hx
      · exact h x hx
      · rw [List.mem_singleton.1 hx]; exact hm
    | some f => exact h
  · exact h
theorem led_may (xs : List En) : ∀ e ∈ ledL xs, mayB e = true := by
  have : ∀ (xs M : List En), (∀ x ∈ M, mayB x = true) → ∀ x ∈ xs.foldl decM M, mayB x = true := by
    intro xs
    induction xs with
    | nil => intro M h; exact h
    | cons y xs ih => intro M h; exact ih _ (decM_may h)
  exact this xs [] (by simp)
theorem dec_first {M : List En} {y : En} (hm : ∀ e ∈ M, mayB e = true) (hx : decX M y = 0) (hf : (outM M y.id).getD En.zero = En.zero) : decE M y = y := by
  unfold decX at hx
  unfold decE
  cases hy : mayB y with
  | false => rw [hy] at hx; simp at hx
  | true =>
    rw [if_pos rfl]
    cases ho : outM M y.id with
    | none => rfl
    | some f =>
      rw [ho] at hf
      have hf' : f = En.zero := hf
      have h1 := hm f (outM_some ho).1
      rw [hf'] at h1
      exact absurd h1 (by decide)

set_option maxRecDepth 100000 in
set_option maxHeartbeats 8000000 in
theorem lists_law {W : World} {a : Option Addr} {n c : Nat} {xs : List En} {home : Int} (hrow : RowC En.zero ecs 7 W a xs) (hn : xs.length = n) (hl : n ≤ 1048576) :
    Calls Try.prog 3 #[.agg #[.slice a n c, .int .u32 home]] W fun r w' => r = .returned (.bool true) ∧ Below W.heap.size W w' := by
  have HLN := hid hn
  obtain ⟨W0, hW0⟩ : ∃ W0, W0 = W.alloc (.cells #[.slice a n c, .int .u32 home] 25) := ⟨_, rfl⟩
  have hs0 : W.heap.size < W0.heap.size := by rw [hW0]; simp
  have hb0 : Below W.heap.size W W0 := by rw [hW0]; exact Below.al (Below.refl _ _) _
  have hk0 : W0.heap[W.heap.size]? = some (.cells #[.slice a n c, .int .u32 home] 25) := by rw [hW0]; exact (MapKept.heap_alloc _ _).1
  have HR := hid (RowC.later hrow hb0)
  have NEW := hid (new_is W0)
  have HB0 := hid hb0
  have HK : Hid (∀ w, Below W0.heap.size W0 w → w.heap[W.heap.size]? = some (.cells #[.slice a n c, .int .u32 home] 25)) := fun w hb => (hb.block _ hs0).trans hk0
  clear hrow hn hb0 hk0 hs0
  go_enter Try.func3, Try.ntmps3
  go_wp2_with fail
  rw [← hW0]
  clear hW0
  refine NEW.out.mono ?_
  rintro r w1 ⟨rfl, hL1, hb1⟩
  obtain ⟨p, hp⟩ : ∃ p, p = W0.heap.size := ⟨_, rfl⟩
  rw [← hp] at hL1 ⊢
  have S1 : Hid (StL W0 w1 p none [] (.slice none 0 0) []) := ⟨hL1, by omega, (fun b e => by cases e), ⟨World.ownsRow_nil _ _ _ _, fun e he => by cases he⟩, hb1⟩
  have d0 : w1.cell? ⟨W.heap.size, 0, none⟩ = some (.slice a n c) := cell_of_obj (HK.out w1 hb1) rfl
  have d1 : w1.cell? ⟨W.heap.size, 1, none⟩ = some (.int .u32 home) := cell_of_obj (HK.out w1 hb1) rfl
  have DEC : Hid (Calls Try.prog 5 #[.pointer (some ⟨p, 0, none⟩), .agg #[.int .u32 9, .int .u32 9, .int .u32 home, .int .i64 1, .int .u64 0, .int .u32 0, .int .u32 0]] w1 fun r w' => ∃ (m : Option Nat) (v : Value), r = .returned v ∧ Hid (StL W0 w' p m (ledL [oneL home]) (.slice none 0 0) [])) :=
    (decide_is S1.out.led (oneL home)).mono fun r w' ⟨m', f, x, h1, h2, h3, h4, h5, h6⟩ => ⟨m', _, h1, S1.out.dec h6.out h4.out h5.out⟩
  clear hL1 hb1 hp NEW
  go_wp2_with fail
  refine DEC.out.mono ?_
  rintro r w2 ⟨m2, v2, rfl, HS2⟩
  clear DEC d0 d1 S1
  go_wp2_with fail
  go_loopg [5, 26] n (fun g s5 s26 wr => ∃ (k : Nat) (m : Option Nat) (bk : List En2), k ≤ n ∧ g = n - k ∧ s26 = .int .i64 k ∧ Hid (StL W0 wr p m (ledL (oneL home :: xs.take k)) s5 bk) ∧ Hid (bk.length = 8 * k))
  case atStart => exact ⟨0, m2, [], by omega, by omega, rfl, by rw [List.take_zero]; exact HS2, rfl⟩
  case round =>
    obtain ⟨k, m, bk, hk, rfl, rfl, HS, HBL⟩ := hrel
    clear HS2
    obtain ⟨v5, hv5⟩ : ∃ v5, v5 = u5 := ⟨_, rfl⟩
    rw [← hv5] at HS ⊢
    clear hv5
    have HPOS : Hid (0 < (ledL (oneL home :: xs.take k)).length) := List.length_pos_of_mem (led_first _ _ rfl)
    have HLEN : Hid ((ledL (oneL home :: xs.take k)).length ≤ k + 1) := by
      have h1 := ledL_length (oneL home :: xs.take k)
      rw [List.length_cons, List.length_take] at h1
      exact hid (by omega)
    have HMAY := hid (led_may (oneL home :: xs.take k))
    obtain ⟨M, hM⟩ : ∃ M, M = ledL (oneL home :: xs.take k) := ⟨_, rfl⟩
    rw [← hM] at HS HPOS HLEN HMAY
    have HMM := hid hM
    clear hM
    by_cases hlt : k < n
    · obtain ⟨b, off, eb, hc⟩ := RowC.later HR.out HS.out.below k (by rw [HLN.out]; exact hlt)
      have hk1 : (k : Int) < (n : Int) := by omega
      obtain ⟨y, hye⟩ : ∃ y, y = nthE xs k := ⟨_, rfl⟩
      have hye' : (xs[k]?).getD En.zero = y := hye.symm
      rw [hye'] at hc
      have HME : Hid (ledL (oneL home :: xs.take (k + 1)) = decM M y) := by
        show _ = _
        rw [nthE_take (by rw [HLN.out]; exact hlt), ← List.cons_append, ledL_snoc, hye, HMM.out]
      have HRY : Hid (∀ w, Below W0.heap.size W0 w → ∀ o u, (ecs y)[o]? = some u → w.cell? ⟨b, off + k * 7 + o, none⟩ = some u) := fun w hb => by
        obtain ⟨b', off', eb', hc'⟩ := RowC.later HR.out hb k (by rw [HLN.out]; exact hlt)
        rw [eb] at eb'
        injection eb' with eb'
        injection eb' with e1 e2 _
        subst e1 e2
        rw [hye'] at hc'
        exact hc'
      subst eb
      have g0 : wr.cell? ⟨b, off + k * 7, none⟩ = some (.int .u32 y.id.1) := hc 0 _ rfl
      have g1 : wr.cell? ⟨b, off + k * 7 + 1, none⟩ = some (.int .u32 y.id.2) := hc 1 _ rfl
      have g2 : wr.cell? ⟨b, off + k * 7 + 2, none⟩ = some (.int .u32 y.home) := hc 2 _ rfl
      have g3 : wr.cell? ⟨b, off + k * 7 + 3, none⟩ = some (.int .i64 y.oc) := hc 3 _ rfl
      have g4 : wr.cell? ⟨b, off + k * 7 + 4, none⟩ = some (.int .u64 y.w) := hc 4 _ rfl
      have g5 : wr.cell? ⟨b, off + k * 7 + 5, none⟩ = some (.int .u32 y.l) := hc 5 _ rfl
      have g6 : wr.cell? ⟨b, off + k * 7 + 6, none⟩ = some (.int .u32 y.n) := hc 6 _ rfl
      have OUT := hid (outcome_is HS.out.led y.id)
      clear hc hye hye'
      go_upto_region 11 with (go_at_call 6; refine OUT.out.mono ?_; rintro r w3 ⟨f, ok, rfl, hok, HF, HB3⟩)
      obtain ⟨w4, hw4⟩ : ∃ w4, w4 = w3.alloc (.cells #[.int .u32 f.id.1, .int .u32 f.id.2, .int .u32 f.home, .int .i64 f.oc, .int .u64 f.w, .int .u32 f.l, .int .u32 f.n] 36) := ⟨_, rfl⟩
      have hb4 : Below wr.heap.size wr w4 := by rw [hw4]; exact Below.al HB3.out _
      have hs4 : wr.heap.size ≤ w3.heap.size ∧ w3.heap.size < w4.heap.size := ⟨HB3.out.size, by rw [hw4]; simp⟩
      have hk4 : w4.heap[w3.heap.size]? = some (.cells #[.int .u32 f.id.1, .int .u32 f.id.2, .int .u32 f.home, .int .i64 f.oc, .int .u64 f.w, .int .u32 f.l, .int .u32 f.n] 36) := by rw [hw4]; exact (MapKept.heap_alloc _ _).1
      have HS4 := hid (HS.out.later hb4)
      have HIT : Hid (∀ i, ItsL p m i → i < wr.heap.size) := fun i hi => HS.out.led.its_lt hi
      have HK4 := hid hk4
      rw [← hw4]
      clear hw4 hb4 hk4 g0 g1 g2 g3 g4 g5 g6 OUT HS hok
      have hc := HRY.out w4 HS4.out.below
      have g0 : w4.cell? ⟨b, off + k * 7, none⟩ = some (.int .u32 y.id.1) := hc 0 _ rfl
      have g1 : w4.cell? ⟨b, off + k * 7 + 1, none⟩ = some (.int .u32 y.id.2) := hc 1 _ rfl
      have g2 : w4.cell? ⟨b, off + k * 7 + 2, none⟩ = some (.int .u32 y.home) := hc 2 _ rfl
      have g3 : w4.cell? ⟨b, off + k * 7 + 3, none⟩ = some (.int .i64 y.oc) := hc 3 _ rfl
      have g4 : w4.cell? ⟨b, off + k * 7 + 4, none⟩ = some (.int .u64 y.w) := hc 4 _ rfl
      have g5 : w4.cell? ⟨b, off + k * 7 + 5, none⟩ = some (.int .u32 y.l) := hc 5 _ rfl
      have g6 : w4.cell? ⟨b, off + k * 7 + 6, none⟩ = some (.int .u32 y.n) := hc 6 _ rfl
      have DEC := hid (decide_is HS4.out.led y)
      clear hc
      go_upto_region 12 with (go_at_call 5; refine DEC.out.mono ?_; rintro r w5 ⟨m5, e5, x5, rfl, HE5, HX5, HL5, HM5, HO5⟩)
      obtain ⟨w6, hw6⟩ : ∃ w6, w6 = w5.alloc (.cells #[.int .u32 e5.id.1, .int .u32 e5.id.2, .int .u32 e5.home, .int .i64 e5.oc, .int .u64 e5.w, .int .u32 e5.l, .int .u32 e5.n] 36) := ⟨_, rfl⟩
      have hb6 : Below w5.heap.size w5 w6 := by rw [hw6]; exact Below.al (Below.refl _ _) _
      have S5 := HS4.out.dec HO5.out HL5.out HM5.out
      have HS6 := hid (S5.later hb6)
      have hk6 : w6.heap[w5.heap.size]? = some (.cells #[.int .u32 e5.id.1, .int .u32 e5.id.2, .int .u32 e5.home, .int .i64 e5.oc, .int .u64 e5.w, .int .u32 e5.l, .int .u32 e5.n] 36) := by rw [hw6]; exact (MapKept.heap_alloc _ _).1
      have hf5 : w5.heap[w3.heap.size]? = some (.cells #[.int .u32 f.id.1, .int .u32 f.id.2, .int .u32 f.home, .int .i64 f.oc, .int .u64 f.w, .int .u32 f.l, .int .u32 f.n] 36) := (HO5.out.block _ hs4.2 (fun hi => by have := HIT.out _ hi; omega)).trans HK4.out
      have hf6 : w6.heap[w3.heap.size]? = some (.cells #[.int .u32 f.id.1, .int .u32 f.id.2, .int .u32 f.home, .int .i64 f.oc, .int .u64 f.w, .int .u32 f.l, .int .u32 f.n] 36) := (hb6.block _ (Nat.lt_of_lt_of_le hs4.2 HO5.out.size)).trans hf5
      have HD1 : Hid (x5 = 0 → f = En.zero → e5 = y) := fun h1 h2 => by
        rw [HE5.out]
        exact dec_first HMAY.out (by rw [← HX5.out]; exact h1) (by rw [← HF.out]; exact h2)
      rw [← hw6]
      clear hw6 hb6 S5 hf5 g0 g1 g2 g3 g4 g5 g6 DEC HS4 HO5 HL5 HM5 HE5 HX5 HF HIT HK4 HB3
      go_cut [62] from 27 to 80 (fun s62 wz => ∃ w7, w7 = wz ∧ s62 = .bool false ∧ Below w6.heap.size w6 w7)
      case first =>
        by_cases hx : x5 = 0
        · have qx : (x5 == 0) = true := by simpa using hx
          have f0 : w6.cell? ⟨w3.heap.size, 0, none⟩ = some (.int .u32 f.id.1) := cell_of_obj hf6 rfl
          have f1 : w6.cell? ⟨w3.heap.size, 1, none⟩ = some (.int .u32 f.id.2) := cell_of_obj hf6 rfl
          have f2 : w6.cell? ⟨w3.heap.size, 2, none⟩ = some (.int .u32 f.home) := cell_of_obj hf6 rfl
          have f3 : w6.cell? ⟨w3.heap.size, 3, none⟩ = some (.int .i64 f.oc) := cell_of_obj hf6 rfl
          have f4 : w6.cell? ⟨w3.heap.size, 4, none⟩ = some (.int .u64 f.w) := cell_of_obj hf6 rfl
          have f5 : w6.cell? ⟨w3.heap.size, 5, none⟩ = some (.int .u32 f.l) := cell_of_obj hf6 rfl
          have f6 : w6.cell? ⟨w3.heap.size, 6, none⟩ = some (.int .u32 f.n) := cell_of_obj hf6 rfl
          have s0 := cell_regrown f0
          have s1 := cell_regrown f1
          have s2 := cell_regrown f2
          have s3 := cell_regrown f3
          have s4 := cell_regrown f4
          have s5 := cell_regrown f5
          have s6 := cell_regrown f6
          by_cases hz : f = En.zero
          · have he : e5 = y := HD1.out hx hz
            subst he
            have qz : ∀ W', (binOp .eql 36 (.agg #[.int .u32 f.id.1, .int .u32 f.id.2, .int .u32 f.home, .int .i64 f.oc, .int .u64 f.w, .int .u32 f.l, .int .u32 f.n]) (.agg #[.int .u32 0, .int .u32 0, .int .u32 0, .int .i64 0, .int .u64 0, .int .u32 0, .int .u32 0])).run Try.prog W' = .ok (.bool true) W' := fun W' => by have := run_eqE f En.zero W'; rw [sameE_iff.2 hz] at this; exact this
            have qn : ∀ W', (binOp .neq 36 (.agg #[.int .u32 e5.id.1, .int .u32 e5.id.2, .int .u32 e5.home, .int .i64 e5.oc, .int .u64 e5.w, .int .u32 e5.l, .int .u32 e5.n]) (.agg #[.int .u32 e5.id.1, .int .u32 e5.id.2, .int .u32 e5.home, .int .i64 e5.oc, .int .u64 e5.w, .int .u32 e5.l, .int .u32 e5.n])).run Try.prog W' = .ok (.bool false) W' := fun W' => by have := run_neE e5 e5 W'; rw [sameE_self] at this; exact this
            have hc := HRY.out w6 HS6.out.below
            have g0 : w6.cell? ⟨b, off + k * 7, none⟩ = some (.int .u32 e5.id.1) := hc 0 _ rfl
            have g1 : w6.cell? ⟨b, off + k * 7 + 1, none⟩ = some (.int .u32 e5.id.2) := hc 1 _ rfl
            have g2 : w6.cell? ⟨b, off + k * 7 + 2, none⟩ = some (.int .u32 e5.home) := hc 2 _ rfl
            have g3 : w6.cell? ⟨b, off + k * 7 + 3, none⟩ = some (.int .i64 e5.oc) := hc 3 _ rfl
            have g4 : w6.cell? ⟨b, off + k * 7 + 4, none⟩ = some (.int .u64 e5.w) := hc 4 _ rfl
            have g5 : w6.cell? ⟨b, off + k * 7 + 5, none⟩ = some (.int .u32 e5.l) := hc 5 _ rfl
            have g6 : w6.cell? ⟨b, off + k * 7 + 6, none⟩ = some (.int .u32 e5.n) := hc 6 _ rfl
            have t0 := cell_regrown g0
            have t1 := cell_regrown g1
            have t2 := cell_regrown g2
            have t3 := cell_regrown g3
            have t4 := cell_regrown g4
            have t5 := cell_regrown g5
            have t6 := cell_regrown g6
            have h0 : w6.cell? ⟨w5.heap.size, 0, none⟩ = some (.int .u32 e5.id.1) := cell_of_obj hk6 rfl
            have h1 : w6.cell? ⟨w5.heap.size, 1, none⟩ = some (.int .u32 e5.id.2) := cell_of_obj hk6 rfl
            have h2 : w6.cell? ⟨w5.heap.size, 2, none⟩ = some (.int .u32 e5.home) := cell_of_obj hk6 rfl
            have h3 : w6.cell? ⟨w5.heap.size, 3, none⟩ = some (.int .i64 e5.oc) := cell_of_obj hk6 rfl
            have h4 : w6.cell? ⟨w5.heap.size, 4, none⟩ = some (.int .u64 e5.w) := cell_of_obj hk6 rfl
            have h5 : w6.cell? ⟨w5.heap.size, 5, none⟩ = some (.int .u32 e5.l) := cell_of_obj hk6 rfl
            have h6 : w6.cell? ⟨w5.heap.size, 6, none⟩ = some (.int .u32 e5.n) := cell_of_obj hk6 rfl
            have r0 := cell_regrown h0
            have r1 := cell_regrown h1
            have r2 := cell_regrown h2
            have r3 := cell_regrown h3
            have r4 := cell_regrown h4
            have r5 := cell_regrown h5
            have r6 := cell_regrown h6
            clear hc g0 g1 g2 g3 g4 g5 g6 h0 h1 h2 h3 h4 h5 h6 f0 f1 f2 f3 f4 f5 f6 hx hz
            refine wp_region_quiet_below (by kernel_rfl) (by kernel_rfl) ?_
            repeat (go_big_quiet_step (fail))
            refine wpQuiet_nil ?_
            intro wn hwn
            replace hwn := below_of_regrown hwn
            go_wp2_with fail
            go_meet
            exact ⟨_, rfl, rfl, hwn⟩
          · have qz : ∀ W', (binOp .eql 36 (.agg #[.int .u32 f.id.1, .int .u32 f.id.2, .int .u32 f.home, .int .i64 f.oc, .int .u64 f.w, .int .u32 f.l, .int .u32 f.n]) (.agg #[.int .u32 0, .int .u32 0, .int .u32 0, .int .i64 0, .int .u64 0, .int .u32 0, .int .u32 0])).run Try.prog W' = .ok (.bool false) W' := fun W' => by have := run_eqE f En.zero W'; rw [sameE_no hz] at this; exact this
            clear f0 f1 f2 f3 f4 f5 f6 hx hz
            refine wp_region_quiet_below (by kernel_rfl) (by kernel_rfl) ?_
            repeat (go_big_quiet_step (fail))
            refine wpQuiet_nil ?_
            intro wn hwn
            replace hwn := below_of_regrown hwn
            go_wp2_with fail
            go_meet
            exact ⟨_, rfl, rfl, hwn⟩
        · have qx : (x5 == 0) = false := by simpa using hx
          clear hx
          refine wp_region_quiet_below (by kernel_rfl) (by kernel_rfl) ?_
          repeat (go_big_quiet_step (fail))
          refine wpQuiet_nil ?_
          intro wn hwn
          replace hwn := below_of_regrown hwn
          go_wp2_with fail
          go_meet
          exact ⟨_, rfl, rfl, hwn⟩
      case rest =>
        obtain ⟨w7, rfl, rfl, hb7⟩ := hcut
        have HS7 := hid (HS6.out.later hb7)
        have d1 : w7.cell? ⟨W.heap.size, 1, none⟩ = some (.int .u32 home) := cell_of_obj (HK.out w7 HS7.out.below) rfl
        have hd : (decM M y).length ≤ k + 2 := Nat.le_trans (decM_length M y) (by have := HLEN.out; omega)
        have hd0 : 0 < (decM M y).length := by
          have : (M ≠ []) := List.ne_nil_of_length_pos HPOS.out
          obtain ⟨z, hz⟩ := List.exists_mem_of_ne_nil M this
          exact List.length_pos_of_mem (decM_mem hz)
        have LI : Hid (∀ i : Int, Calls Try.prog 7 #[.pointer (some ⟨p, 0, none⟩), .int .u32 home, .int .i64 i, v5] w7 fun e w' => ∃ v' l', e = .returned (.tuple #[v', .bool true]) ∧ Hid (StL W0 w' p m5 (decM M y) v' l') ∧ Hid (l'.length = bk.length + 8)) := fun i => lists_is HS7.out hd0 (by omega) (by have := HBL.out; omega)
        clear hb7 hd hd0 HS6 hk6 hf6
        go_wp2_with fail
        refine (LI.out _).mono ?_
        rintro r w8 ⟨v8, l8, rfl, HS8, HL8⟩
        obtain ⟨ba, bc, rfl, hrw⟩ := HS8.out.book.own.row
        have SI := hid (still_is (c := bc) hrw rfl HS8.out.book.ent (by have h1 := HBL.out; have h2 := HL8.out; omega))
        clear hrw d1 LI
        go_wp2_with (go_at_call 8; refine SI.out.mono ?_; rintro e w9 ⟨rfl, hb9⟩)
        have HS9 := hid (HS8.out.later hb9)
        go_roundg (n - (k + 1))
        case measure => omega
        case rel => exact ⟨k + 1, m5, l8, by omega, rfl, by go_num, by rw [HME.out]; exact HS9, by show _ = _; rw [HL8.out, HBL.out]; omega⟩
    · obtain rfl : k = n := by omega
      have d1 : wr.cell? ⟨W.heap.size, 1, none⟩ = some (.int .u32 home) := cell_of_obj (HK.out wr HS.out.below) rfl
      have LI : Hid (∀ i : Int, Calls Try.prog 7 #[.pointer (some ⟨p, 0, none⟩), .int .u32 home, .int .i64 i, v5] wr fun e w' => ∃ v' l', e = .returned (.tuple #[v', .bool true]) ∧ Hid (StL W0 w' p m M v' l') ∧ Hid (l'.length = bk.length + 8)) := fun i => lists_is HS.out HPOS.out (by have := HLEN.out; omega) (by have := HBL.out; omega)
      clear hlt
      go_wp2_with fail
      refine (LI.out _).mono ?_
      rintro r w8 ⟨v8, l8, rfl, HS8, HL8⟩
      obtain ⟨ba, bc, rfl, hrw⟩ := HS8.out.book.own.row
      have SI := hid (still_is (c := bc) hrw rfl HS8.out.book.ent (by have h1 := HBL.out; have h2 := HL8.out; omega))
      clear hrw d1 LI HS
      go_wp2_with (first
        | (go_at_call 8; refine SI.out.mono ?_; rintro e w9 ⟨rfl, hb9⟩)
        | (go_at_call 10; refine (ents_is (HS8.out.led.later hb9) (by have := HLEN.out; omega)).mono ?_; rintro e w10 ⟨a10, n10, c10, U, rfl, HU1, HU2, HU3, HU4, HB10⟩)
        | (go_at_call 9; refine (sorted_is (own_row (n := n10) (by have h := HU2.out; rw [OwnE, HU1.out] at h; exact h) HU1.out) HU1.out (by have h1 := HU3.out.length_eq; have h2 := HU1.out; have h3 := HLEN.out; omega) (by rw [← HU1.out]; exact rise_ids (ids_nodup HU3.out HS8.out.led.nodup) HU4.out)).mono ?_; rintro e w11 ⟨rfl, hb11⟩))
      go_ret
      exact ⟨rfl, Below.on HB0.out (Below.on (Below.on (Below.on HS8.out.below hb9) HB10.out) hb11)⟩
end Go.Proofs.Ytcphmahbhecfaaa.Lg
