import Derived.Test.YtogjhpknlopajaaXSrt
/- The document's Entries and Commits; sameEntries. -/
namespace Go.Proofs.Ytogjhpknlopajaa.Lg
open Go.RowKit Go.Sort Go.Shelf Go.Lib Lk
set_option linter.unusedVariables false

theorem rents_nil (w : World) : Calls Try.prog 61 #[.pointer none] w fun r w' => r = .returned (.slice none 0 0) ∧ w' = w := by
  go_enter Try.func61, Try.ntmps61
  go_wp2_with fail
  go_ret
  exact ⟨rfl, rfl⟩
set_option maxHeartbeats 2000000 in
theorem rentries_is {w : World} {q n c : Nat} {a : Option Addr} {M : List En} (T : Rl w q a n c M) (hl : n ≤ 3518437208882) :
    Calls Try.prog 61 #[.pointer (some ⟨q, 0, none⟩)] w fun r w' => ∃ (a' : Option Addr) (c' : Nat), r = .returned (.slice a' n c') ∧ Hid (OwnL w.heap.size w' (.slice a' n c') n (srtL false M)) ∧ Hid (Below w.heap.size w w') := by
  have HT := hid T
  have HLN := hid T.len
  clear T
  go_enter Try.func61, Try.ntmps61
  go_wp2_with fail
  go_loopg [3, 4] n (fun g s3 s4 wr => ∃ (k : Nat) (a' : Option Addr) (c' : Nat), k ≤ n ∧ g = n - k ∧ s4 = .int .i64 k ∧ s3 = .slice a' k c' ∧ Hid (OwnL w.heap.size wr (.slice a' k c') k (srtL false (M.take k))) ∧ Hid (Below w.heap.size w wr))
  case atStart => exact ⟨0, none, 0, by omega, by omega, rfl, rfl, ⟨rfl, .inl ⟨rfl, rfl⟩⟩, Below.refl _ _⟩
  case round =>
    obtain ⟨k, a', c', hk, rfl, rfl, rfl, HO, HB⟩ := hrel
    have c0 := (HT.out.later HB.out).c0
    by_cases hlt : k < n
    · obtain ⟨b, off, eb, hc⟩ := (HT.out.later HB.out).row k (by rw [HLN.out]; exact hlt)
      have hk1 : (k : Int) < (n : Int) := by omega
      obtain ⟨x, hxe⟩ : ∃ x, x = nthE M k := ⟨_, rfl⟩
      have hxe' : (M[k]?).getD En.zero = x := hxe.symm
      rw [hxe'] at hc
      subst eb
      have g0 : wr.cell? ⟨b, off + k * 7, none⟩ = some (.int .u32 x.id.1) := hc 0 _ rfl
      have g1 : wr.cell? ⟨b, off + k * 7 + 1, none⟩ = some (.int .u32 x.id.2) := hc 1 _ rfl
      have g2 : wr.cell? ⟨b, off + k * 7 + 2, none⟩ = some (.int .u32 x.home) := hc 2 _ rfl
      have g3 : wr.cell? ⟨b, off + k * 7 + 3, none⟩ = some (.int .i64 x.oc) := hc 3 _ rfl
      have g4 : wr.cell? ⟨b, off + k * 7 + 4, none⟩ = some (.int .u64 x.w) := hc 4 _ rfl
      have g5 : wr.cell? ⟨b, off + k * 7 + 5, none⟩ = some (.int .u32 x.l) := hc 5 _ rfl
      have g6 : wr.cell? ⟨b, off + k * 7 + 6, none⟩ = some (.int .u32 x.n) := hc 6 _ rfl
      have hle : (srtL false (M.take k)).length = k := by rw [(srt_perm false _).length_eq, List.length_take, HLN.out]; omega
      have LA := hid (laid_is (c := c') (e := x) (s := false) (own_row HO.out hle) hle (by omega))
      have HX : Hid (srtL false (M.take (k + 1)) = insL (befB false) (srtL false (M.take k)) x) := by
        show _ = _
        rw [nthE_take (by rw [HLN.out]; exact hlt), srtL_snoc, hxe]
      clear hc hxe hxe' hle
      go_wp2_with fail
      refine LA.out.mono ?_
      rintro r w1 ⟨a1, c1, rfl, H1, H2⟩
      have HO1 : Hid (OwnL w.heap.size w1 (.slice a1 (k + 1) c1) (k + 1) (srtL false (M.take (k + 1)))) := by rw [HX.out]; exact owns_base H1.out HB.out.size
      have HB1 : Hid (Below w.heap.size w w1) := Below.on HB.out H2.out
      clear LA H1 H2 g0 g1 g2 g3 g4 g5 g6 c0
      go_wp2_with fail
      go_roundg (n - (k + 1))
      case measure => omega
      case rel => exact ⟨k + 1, a1, c1, by omega, rfl, by go_num, rfl, HO1, HB1⟩
    · obtain rfl : k = n := by omega
      have HF : Hid (OwnL w.heap.size wr (.slice a' k c') k (srtL false M)) := by
        have := HO.out
        rwa [show M.take k = M by rw [← HLN.out, List.take_length]] at this
      go_wp2_with fail
      go_ret
      exact ⟨a', c', rfl, HF, HB⟩
set_option maxHeartbeats 2000000 in
theorem rcommits_is {w : World} {q n c : Nat} {a : Option Addr} {M : List En} (T : Rl w q a n c M) (hl : n ≤ 3518437208882) (home : Int) :
    Calls Try.prog 62 #[.pointer (some ⟨q, 0, none⟩), .int .u32 home] w fun r w' => ∃ (a' : Option Addr) (n' c' : Nat), r = .returned (.slice a' n' c') ∧ Hid ((srtL true (M.filter (comB home))).length = n') ∧ Hid (OwnL w.heap.size w' (.slice a' n' c') n' (srtL true (M.filter (comB home)))) ∧ Hid (Below w.heap.size w w') := by
  have HT := hid T
  have HLN := hid T.len
  clear T
  go_enter Try.func62, Try.ntmps62
  go_wp2_with fail
  go_loopg [5, 6] n (fun g s5 s6 wr => ∃ (k : Nat) (a' : Option Addr) (n' c' : Nat), k ≤ n ∧ g = n - k ∧ s6 = .int .i64 k ∧ s5 = .slice a' n' c' ∧ n' ≤ k ∧ Hid ((srtL true ((M.take k).filter (comB home))).length = n') ∧ Hid (OwnL w.heap.size wr (.slice a' n' c') n' (srtL true ((M.take k).filter (comB home)))) ∧ Hid (Below w.heap.size w wr))
  case atStart => exact ⟨0, none, 0, 0, by omega, by omega, rfl, rfl, by omega, rfl, ⟨rfl, .inl ⟨rfl, rfl⟩⟩, Below.refl _ _⟩
  case round =>
    obtain ⟨k, a', n', c', hk, rfl, rfl, rfl, hnk, HN, HO, HB⟩ := hrel
    have c0 := (HT.out.later HB.out).c0
    by_cases hlt : k < n
    · obtain ⟨b, off, eb, hc⟩ := (HT.out.later HB.out).row k (by rw [HLN.out]; exact hlt)
      have hk1 : (k : Int) < (n : Int) := by omega
      obtain ⟨x, hxe⟩ : ∃ x, x = nthE M k := ⟨_, rfl⟩
      have hxe' : (M[k]?).getD En.zero = x := hxe.symm
      rw [hxe'] at hc
      subst eb
      have g0 : wr.cell? ⟨b, off + k * 7, none⟩ = some (.int .u32 x.id.1) := hc 0 _ rfl
      have g1 : wr.cell? ⟨b, off + k * 7 + 1, none⟩ = some (.int .u32 x.id.2) := hc 1 _ rfl
      have g2 : wr.cell? ⟨b, off + k * 7 + 2, none⟩ = some (.int .u32 x.home) := hc 2 _ rfl
      have g3 : wr.cell? ⟨b, off + k * 7 + 3, none⟩ = some (.int .i64 x.oc) := hc 3 _ rfl
      have g4 : wr.cell? ⟨b, off + k * 7 + 4, none⟩ = some (.int .u64 x.w) := hc 4 _ rfl
      have g5 : wr.cell? ⟨b, off + k * 7 + 5, none⟩ = some (.int .u32 x.l) := hc 5 _ rfl
      have g6 : wr.cell? ⟨b, off + k * 7 + 6, none⟩ = some (.int .u32 x.n) := hc 6 _ rfl
      obtain ⟨u, hu⟩ : ∃ u, comB home x = u := ⟨_, rfl⟩
      have hfl : (M.take (k + 1)).filter (comB home) = (M.take k).filter (comB home) ++ (if u then [x] else []) := by
        rw [nthE_take (by rw [HLN.out]; exact hlt), List.filter_append, ← hxe]
        cases u <;> simp [hu]
      have HFL := hid hfl
      have LA := hid (laid_is (c := c') (e := x) (s := true) (own_row HO.out HN.out) HN.out (by omega))
      clear hc hxe hxe' hfl
      cases u with
      | false =>
        have HN1 : Hid ((srtL true ((M.take (k + 1)).filter (comB home))).length = n') := by show _ = _; rw [HFL.out]; simpa using HN.out
        have HO1 : Hid (OwnL w.heap.size wr (.slice a' n' c') n' (srtL true ((M.take (k + 1)).filter (comB home)))) := by rw [HFL.out]; exact hid (by simpa using HO.out)
        by_cases h1 : x.oc = 1
        · have h1' : (x.oc == 1) = true := by simp [h1]
          have h2' : (x.home == home) = false := by
            have := hu
            simp only [comB, h1', Bool.true_and] at this
            exact this
          clear hu h1 LA
          go_wp2_with fail
          go_roundg (n - (k + 1))
          case measure => omega
          case rel => exact ⟨k + 1, a', n', c', by omega, rfl, by go_num, rfl, by omega, HN1, HO1, HB⟩
        · have h1' : (x.oc == 1) = false := by simpa using h1
          clear hu h1 LA
          go_wp2_with fail
          go_roundg (n - (k + 1))
          case measure => omega
          case rel => exact ⟨k + 1, a', n', c', by omega, rfl, by go_num, rfl, by omega, HN1, HO1, HB⟩
      | true =>
        have h1' : (x.oc == 1) = true := by simp only [comB, Bool.and_eq_true] at hu; exact hu.1
        have h2' : (x.home == home) = true := by simp only [comB, Bool.and_eq_true] at hu; exact hu.2
        have HFX : Hid (srtL true ((M.take (k + 1)).filter (comB home)) = insL (befB true) (srtL true ((M.take k).filter (comB home))) x) := by show _ = _; rw [HFL.out]; exact srtL_snoc _ _ _
        clear hu
        go_wp2_with fail
        refine LA.out.mono ?_
        rintro r w1 ⟨a1, c1, rfl, H1, H2⟩
        have HN1 : Hid ((srtL true ((M.take (k + 1)).filter (comB home))).length = n' + 1) := by show _ = _; rw [HFX.out, insL_length, HN.out]
        have HO1 : Hid (OwnL w.heap.size w1 (.slice a1 (n' + 1) c1) (n' + 1) (srtL true ((M.take (k + 1)).filter (comB home)))) := by rw [HFX.out]; exact owns_base H1.out HB.out.size
        have HB1 : Hid (Below w.heap.size w w1) := Below.on HB.out H2.out
        clear LA H1 H2 g0 g1 g2 g3 g4 g5 g6 c0
        go_wp2_with fail
        go_roundg (n - (k + 1))
        case measure => omega
        case rel => exact ⟨k + 1, a1, n' + 1, c1, by omega, rfl, by go_num, rfl, by omega, HN1, HO1, HB1⟩
    · obtain rfl : k = n := by omega
      have ek : M.take k = M := by rw [← HLN.out, List.take_length]
      have HF : Hid ((srtL true (M.filter (comB home))).length = n') := by have := HN.out; rwa [ek] at this
      have HF2 : Hid (OwnL w.heap.size wr (.slice a' n' c') n' (srtL true (M.filter (comB home)))) := by have := HO.out; rwa [ek] at this
      clear ek
      go_wp2_with fail
      go_ret
      exact ⟨a', n', c', rfl, HF, HF2, HB⟩
set_option maxHeartbeats 1000000 in
/-- sameEntries, at lists that hold the same -/
theorem sameEntries_is {w : World} {a a' : Option Addr} {n c c' : Nat} {X : List En} (h1 : RowC En.zero ecs 7 w a X) (h2 : RowC En.zero ecs 7 w a' X) (hn : X.length = n) (hl : n ≤ 9223372036854775807) :
    Calls Try.prog 42 #[.slice a n c, .slice a' n c'] w fun r w' => r = .returned (.bool true) ∧ Below w.heap.size w w' := by
  have H1 := hid h1
  have H2 := hid h2
  have HLN := hid hn
  have h0 : ((n : Int) != (n : Int)) = false := by simp
  clear h1 h2 hn
  go_enter Try.func42, Try.ntmps42
  go_wp2_with fail
  go_loopg [13] n (fun g s13 wr => ∃ k : Nat, k ≤ n ∧ g = n - k ∧ s13 = .int .i64 k ∧ Hid (Below w.heap.size w wr))
  case atStart => exact ⟨0, by omega, by omega, rfl, Below.refl _ _⟩
  case round =>
    obtain ⟨k, hk, rfl, rfl, HB⟩ := hrel
    by_cases hlt : k < n
    · obtain ⟨b, off, eb, hc⟩ := RowC.later H1.out HB.out k (by rw [HLN.out]; exact hlt)
      obtain ⟨b', off', eb', hc'⟩ := RowC.later H2.out HB.out k (by rw [HLN.out]; exact hlt)
      subst eb eb'
      have hk1 : (k : Int) < (n : Int) := by omega
      obtain ⟨x, hxe⟩ : ∃ x, x = (X[k]?).getD En.zero := ⟨_, rfl⟩
      rw [← hxe] at hc hc'
      have qq : ∀ W, (binOp .neq 33 (.agg #[.int .u32 x.id.1, .int .u32 x.id.2, .int .u32 x.home, .int .i64 x.oc, .int .u64 x.w, .int .u32 x.l, .int .u32 x.n]) (.agg #[.int .u32 x.id.1, .int .u32 x.id.2, .int .u32 x.home, .int .i64 x.oc, .int .u64 x.w, .int .u32 x.l, .int .u32 x.n])).run Try.prog W = .ok (.bool false) W := fun W => by have := run_neE x x W; rw [sameE_self] at this; exact this
      have s0 := cell_regrown (show wr.cell? ⟨b, off + k * 7, none⟩ = some (.int .u32 x.id.1) from hc 0 _ rfl)
      have s1 := cell_regrown (show wr.cell? ⟨b, off + k * 7 + 1, none⟩ = some (.int .u32 x.id.2) from hc 1 _ rfl)
      have s2 := cell_regrown (show wr.cell? ⟨b, off + k * 7 + 2, none⟩ = some (.int .u32 x.home) from hc 2 _ rfl)
      have s3 := cell_regrown (show wr.cell? ⟨b, off + k * 7 + 3, none⟩ = some (.int .i64 x.oc) from hc 3 _ rfl)
      have s4 := cell_regrown (show wr.cell? ⟨b, off + k * 7 + 4, none⟩ = some (.int .u64 x.w) from hc 4 _ rfl)
      have s5 := cell_regrown (show wr.cell? ⟨b, off + k * 7 + 5, none⟩ = some (.int .u32 x.l) from hc 5 _ rfl)
      have s6 := cell_regrown (show wr.cell? ⟨b, off + k * 7 + 6, none⟩ = some (.int .u32 x.n) from hc 6 _ rfl)
      have t0 := cell_regrown (show wr.cell? ⟨b', off' + k * 7, none⟩ = some (.int .u32 x.id.1) from hc' 0 _ rfl)
      have t1 := cell_regrown (show wr.cell? ⟨b', off' + k * 7 + 1, none⟩ = some (.int .u32 x.id.2) from hc' 1 _ rfl)
      have t2 := cell_regrown (show wr.cell? ⟨b', off' + k * 7 + 2, none⟩ = some (.int .u32 x.home) from hc' 2 _ rfl)
      have t3 := cell_regrown (show wr.cell? ⟨b', off' + k * 7 + 3, none⟩ = some (.int .i64 x.oc) from hc' 3 _ rfl)
      have t4 := cell_regrown (show wr.cell? ⟨b', off' + k * 7 + 4, none⟩ = some (.int .u64 x.w) from hc' 4 _ rfl)
      have t5 := cell_regrown (show wr.cell? ⟨b', off' + k * 7 + 5, none⟩ = some (.int .u32 x.l) from hc' 5 _ rfl)
      have t6 := cell_regrown (show wr.cell? ⟨b', off' + k * 7 + 6, none⟩ = some (.int .u32 x.n) from hc' 6 _ rfl)
      clear hc hc' hxe
      go_wp2_with fail
      refine wp_region_quiet_below (by kernel_rfl) (by kernel_rfl) ?_
      repeat (go_big_quiet_step (fail))
      refine wpQuiet_nil ?_
      intro wn hwn
      replace hwn := below_of_regrown hwn
      go_wp2_with fail
      go_roundg (n - (k + 1))
      case measure => omega
      case rel => exact ⟨k + 1, by omega, rfl, by go_num, Below.on HB.out hwn⟩
    · obtain rfl : k = n := by omega
      go_wp2_with fail
      go_ret
      exact ⟨rfl, HB.out⟩
end Go.Proofs.Ytogjhpknlopajaa.Lg
