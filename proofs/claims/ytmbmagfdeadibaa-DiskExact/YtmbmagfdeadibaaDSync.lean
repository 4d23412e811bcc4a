import Derived.Test.YtmbmagfdeadibaaDSure
namespace Go.Proofs.Ytmbmagfdeadibaa
open Go.RowKit Go.Sort
set_option linter.unusedVariables false

theorem sureP_all {b : List Nat} (m : Nat) (hm : m ≤ b.length) : mkC b (sureP m m) = mkC b (sureP b.length b.length) := by
  apply List.ext_getElem?
  intro i
  simp only [mkC, List.getElem?_mapIdx]
  by_cases h : i < b.length
  · rw [List.getElem?_eq_getElem h]
    simp only [Option.map_some, Option.some.injEq, Cc.mk.injEq, true_and]
    unfold sureP
    rw [Bool.eq_iff_iff]
    simp
    omega
  · rw [List.getElem?_eq_none (by omega)]; rfl

set_option maxHeartbeats 8000000 in
theorem rsync_is {w : World} {x : Rf} {b0 b1 : List Nat} {m0 m1 : Nat} (h : RefD w x) (h0 : x.r 0 = mkC b0 (sureP m0 b0.length)) (h1 : x.r 1 = mkC b1 (sureP m1 b1.length)) (hm0 : m0 ≤ b0.length) (hm1 : m1 ≤ b1.length) :
    Calls Try.prog 33 #[.pointer (some ⟨x.p, 0, none⟩)] w fun e w' => e = .returned (.tuple #[]) ∧ ∃ y, Then w w' x y (mkC b0 (sureP b0.length b0.length)) (mkC b1 (sureP b1.length b1.length)) := by
  have H : Hid (Then w w x x (mkC b0 (sureP m0 b0.length)) (mkC b1 (sureP m1 b1.length))) := (Then.start h).rows h0 h1
  have HM : Hid (m0 ≤ b0.length ∧ m1 ≤ b1.length) := ⟨hm0, hm1⟩
  clear h h0 h1 hm0 hm1
  go_enter Try.func33, Try.ntmps33
  go_wp2_with fail
  go_loopg [2] 2 (fun g s2 wr => ∃ s : Nat, s ≤ 2 ∧ g = 2 - s ∧ s2 = .int .i64 s ∧ ∃ y, Hid (Then w wr x y (if s = 0 then mkC b0 (sureP m0 b0.length) else mkC b0 (sureP b0.length b0.length)) (if s ≤ 1 then mkC b1 (sureP m1 b1.length) else mkC b1 (sureP b1.length b1.length))))
  case atStart => exact ⟨0, by omega, by omega, rfl, x, H⟩
  case round =>
    obtain ⟨s, hs, rfl, rfl, y, HY⟩ := hrel
    have hc : s = 0 ∨ s = 1 ∨ s = 2 := by omega
    rcases hc with rfl | rfl | rfl
    · simp only [if_pos, Nat.zero_le] at HY
      have hy0 := HY.out.at'
      have ep := HY.out.p
      obtain ⟨a, cp, ev, -⟩ := hy0.row0
      have cc := hy0.c1
      rw [ep] at cc
      rw [ev, HY.out.r0, mkC_length] at cc
      have HB0 : Hid (m0 ≤ b0.length ∧ b0.length ≤ 1048576) := ⟨HM.out.1, by have := hy0.l0; rw [HY.out.r0, mkC_length] at this; exact this⟩
      have hbl := HB0.out.2
      have hml := HB0.out.1
      clear hy0 ep ev
      have hwl : IntKind.i64.wrap ((b0.length : Int) - 1) = (b0.length : Int) - 1 := by rw [IntKind.wrap_i64]; omega
      obtain ⟨W1, hW1⟩ : ∃ W, W = wr := ⟨_, rfl⟩
      rw [← hW1] at HY cc ⊢
      clear hW1 wr
      go_wp2_with fail
      go_loopg [3] b0.length (fun g s3 wr => ∃ q : Nat, m0 ≤ q ∧ q ≤ b0.length ∧ g = q ∧ s3 = .int .i64 ((q : Int) - 1) ∧ ∃ y, Hid (Then w wr x y (mkC b0 (sureP m0 q)) (mkC b1 (sureP m1 b1.length))))
      case atStart => exact ⟨b0.length, hml, Nat.le_refl _, rfl, by first | rfl | rw [hwl] | go_num, y, HY⟩
      case round =>
        obtain ⟨_, hq1, hq2, rfl, rfl, z, HZ⟩ := hrel
        clear cc
        have hz := HZ.out.at'
        have ep := HZ.out.p
        obtain ⟨a', cp', ev, hrow⟩ := hz.row0
        have cc := hz.c1
        have hl : (z.r 0).length = b0.length := by rw [HZ.out.r0, mkC_length]
        rw [ep] at cc
        rw [ev, hl] at cc
        have row_at : ∀ i, i < (z.r 0).length → ∃ (g2 cap2 : Nat), a' = some ⟨g2, 0, none⟩ ∧ (∀ o, wr.frozen? ⟨g2, o, none⟩ = false) ∧ z.v 0 = .slice (some ⟨g2, 0, none⟩) (z.r 0).length cap2 ∧ wr.cell? ⟨g2, i * 2 + 1, none⟩ = some (.bool (nthC (z.r 0) i).s) := by
          intro i hi
          obtain ⟨gb, off, ha, d0, d1⟩ := hrow i hi
          have ho := hz.o0
          obtain ⟨_, ⟨hv, h0⟩ | ⟨g2, cap2, cur, hv, r⟩⟩ := id ho
          · omega
          · rw [hv] at ho
            rw [hv] at ev
            simp only [Value.slice.injEq] at ev
            obtain ⟨e1, -, -⟩ := ev
            rw [← e1] at ha
            simp only [Option.some.injEq, Addr.mk.injEq] at ha
            obtain ⟨rfl, rfl, -⟩ := ha
            exact ⟨g2, cap2, e1.symm, fun o => ho.frozenAt o, hv, by simpa using d1⟩
        have HAT := hid row_at
        have HZV := hid hz
        have HL := hid hl
        clear row_at hrow hz hl ev ep
        by_cases hlt : m0 < gk
        · obtain ⟨j, rfl⟩ : ∃ j, gk = j + 1 := ⟨gk - 1, by omega⟩
          have hji : ((j + 1 : Nat) : Int) - 1 = (j : Int) := by omega
          rw [hji]
          have hi : j < (z.r 0).length := by have := HL.out; omega
          obtain ⟨g2, cap2, rfl, hfz, hzv, d1⟩ := HAT.out j hi
          have hb : j < b0.length := by omega
          have hnth : nthC (z.r 0) j = ⟨b0[j], false⟩ := by
            rw [HZ.out.r0, mkC_nth hb]
            congr 1
            unfold sureP; rw [Bool.eq_iff_iff]; simp; omega
          rw [hnth] at d1
          obtain ⟨z', hz', -⟩ := HZV.out.sure0 (i := j) hzv hi
          have er : (z.r 0).set j ⟨(nthC (z.r 0) j).b, true⟩ = mkC b0 (sureP m0 j) := by
            rw [hnth, HZ.out.r0]
            exact mkC_set hb _ (by rw [List.getElem?_eq_getElem hb])
          have HZ' := hid ((HZ.out.and hz').rows er HZ.out.r1)
          have hw1 : IntKind.i64.wrap ((j : Int) - 1) = (j : Int) - 1 := by rw [IntKind.wrap_i64]; omega
          have hw2 : wrap64 ((j : Int) - 1) = (j : Int) - 1 := by unfold wrap64; omega
          have hjl : (j : Int) < (b0.length : Int) := by omega
          have hj0 : (0 : Int) ≤ (j : Int) := by omega
          clear er hz' hnth hzv hi hji
          go_wp2_with fail
          go_roundg j
          case measure => omega
          case rel => exact ⟨j, by omega, by omega, rfl, by first | rfl | rw [hw1] | rw [hw2] | go_num, z', HZ'⟩
        · obtain rfl : gk = m0 := by omega
          have HF := hid (HZ.out.rows (sureP_all _ (by omega)) rfl)
          clear HZ
          by_cases h0 : gk = 0
          · subst h0
            go_wp2_with fail
            go_roundg (2 - (0 + 1))
            case measure => omega
            case rel => exact ⟨0 + 1, by omega, rfl, by go_num, z, HF⟩
          · obtain ⟨j, rfl⟩ : ∃ j, gk = j + 1 := ⟨gk - 1, by omega⟩
            have hji : ((j + 1 : Nat) : Int) - 1 = (j : Int) := by omega
            rw [hji]
            have hi : j < (z.r 0).length := by have := HL.out; omega
            obtain ⟨g2, cap2, rfl, hfz, hzv, d1⟩ := HAT.out j hi
            have hb : j < b0.length := by omega
            have hnth : (nthC (z.r 0) j).s = true := by
              rw [HF.out.r0, mkC_nth hb]
              show sureP _ _ j = true
              unfold sureP; rw [Bool.eq_iff_iff]; simp; omega
            rw [hnth] at d1
            have hjl : (j : Int) < (b0.length : Int) := by omega
            have hj0 : (0 : Int) ≤ (j : Int) := by omega
            clear hnth hzv hi hji hfz
            go_wp2_with fail
            go_roundg (2 - (0 + 1))
            case measure => omega
            case rel => exact ⟨0 + 1, by omega, rfl, by go_num, z, HF⟩
    · simp only [Nat.one_ne_zero, if_false, Nat.le_refl, if_true] at HY
      have hy0 := HY.out.at'
      have ep := HY.out.p
      obtain ⟨a, cp, ev, -⟩ := hy0.row1
      have cc := hy0.c2
      rw [ep] at cc
      rw [ev, HY.out.r1, mkC_length] at cc
      have HB1 : Hid (m1 ≤ b1.length ∧ b1.length ≤ 1048576) := ⟨HM.out.2, by have := hy0.l1; rw [HY.out.r1, mkC_length] at this; exact this⟩
      have hbl := HB1.out.2
      have hml := HB1.out.1
      clear hy0 ep ev
      have hwl : IntKind.i64.wrap ((b1.length : Int) - 1) = (b1.length : Int) - 1 := by rw [IntKind.wrap_i64]; omega
      obtain ⟨W1, hW1⟩ : ∃ W, W = wr := ⟨_, rfl⟩
      rw [← hW1] at HY cc ⊢
      clear hW1 wr
      go_wp2_with fail
      go_loopg [3] b1.length (fun g s3 wr => ∃ q : Nat, m1 ≤ q ∧ q ≤ b1.length ∧ g = q ∧ s3 = .int .i64 ((q : Int) - 1) ∧ ∃ y, Hid (Then w wr x y (mkC b0 (sureP b0.length b0.length)) (mkC b1 (sureP m1 q))))
      case atStart => exact ⟨b1.length, hml, Nat.le_refl _, rfl, by first | rfl | rw [hwl] | go_num, y, HY⟩
      case round =>
        obtain ⟨_, hq1, hq2, rfl, rfl, z, HZ⟩ := hrel
        clear cc
        have hz := HZ.out.at'
        have ep := HZ.out.p
        obtain ⟨a', cp', ev, hrow⟩ := hz.row1
        have cc := hz.c2
        have hl : (z.r 1).length = b1.length := by rw [HZ.out.r1, mkC_length]
        rw [ep] at cc
        rw [ev, hl] at cc
        have row_at : ∀ i, i < (z.r 1).length → ∃ (g2 cap2 : Nat), a' = some ⟨g2, 0, none⟩ ∧ (∀ o, wr.frozen? ⟨g2, o, none⟩ = false) ∧ z.v 1 = .slice (some ⟨g2, 0, none⟩) (z.r 1).length cap2 ∧ wr.cell? ⟨g2, i * 2 + 1, none⟩ = some (.bool (nthC (z.r 1) i).s) := by
          intro i hi
          obtain ⟨gb, off, ha, d0, d1⟩ := hrow i hi
          have ho := hz.o1
          obtain ⟨_, ⟨hv, h0⟩ | ⟨g2, cap2, cur, hv, r⟩⟩ := id ho
          · omega
          · rw [hv] at ho
            rw [hv] at ev
            simp only [Value.slice.injEq] at ev
            obtain ⟨e1, -, -⟩ := ev
            rw [← e1] at ha
            simp only [Option.some.injEq, Addr.mk.injEq] at ha
            obtain ⟨rfl, rfl, -⟩ := ha
            exact ⟨g2, cap2, e1.symm, fun o => ho.frozenAt o, hv, by simpa using d1⟩
        have HAT := hid row_at
        have HZV := hid hz
        have HL := hid hl
        clear row_at hrow hz hl ev ep
        by_cases hlt : m1 < gk
        · obtain ⟨j, rfl⟩ : ∃ j, gk = j + 1 := ⟨gk - 1, by omega⟩
          have hji : ((j + 1 : Nat) : Int) - 1 = (j : Int) := by omega
          rw [hji]
          have hi : j < (z.r 1).length := by have := HL.out; omega
          obtain ⟨g2, cap2, rfl, hfz, hzv, d1⟩ := HAT.out j hi
          have hb : j < b1.length := by omega
          have hnth : nthC (z.r 1) j = ⟨b1[j], false⟩ := by
            rw [HZ.out.r1, mkC_nth hb]
            congr 1
            unfold sureP; rw [Bool.eq_iff_iff]; simp; omega
          rw [hnth] at d1
          obtain ⟨z', hz', -⟩ := HZV.out.sure1 (i := j) hzv hi
          have er : (z.r 1).set j ⟨(nthC (z.r 1) j).b, true⟩ = mkC b1 (sureP m1 j) := by
            rw [hnth, HZ.out.r1]
            exact mkC_set hb _ (by rw [List.getElem?_eq_getElem hb])
          have HZ' := hid ((HZ.out.and hz').rows HZ.out.r0 er)
          have hw1 : IntKind.i64.wrap ((j : Int) - 1) = (j : Int) - 1 := by rw [IntKind.wrap_i64]; omega
          have hw2 : wrap64 ((j : Int) - 1) = (j : Int) - 1 := by unfold wrap64; omega
          have hjl : (j : Int) < (b1.length : Int) := by omega
          have hj0 : (0 : Int) ≤ (j : Int) := by omega
          clear er hz' hnth hzv hi hji
          go_wp2_with fail
          go_roundg j
          case measure => omega
          case rel => exact ⟨j, by omega, by omega, rfl, by first | rfl | rw [hw1] | rw [hw2] | go_num, z', HZ'⟩
        · obtain rfl : gk = m1 := by omega
          have HF := hid (HZ.out.rows rfl (sureP_all _ (by omega)))
          clear HZ
          by_cases h0 : gk = 0
          · subst h0
            go_wp2_with fail
            go_roundg (2 - (1 + 1))
            case measure => omega
            case rel => exact ⟨1 + 1, by omega, rfl, by go_num, z, HF⟩
          · obtain ⟨j, rfl⟩ : ∃ j, gk = j + 1 := ⟨gk - 1, by omega⟩
            have hji : ((j + 1 : Nat) : Int) - 1 = (j : Int) := by omega
            rw [hji]
            have hi : j < (z.r 1).length := by have := HL.out; omega
            obtain ⟨g2, cap2, rfl, hfz, hzv, d1⟩ := HAT.out j hi
            have hb : j < b1.length := by omega
            have hnth : (nthC (z.r 1) j).s = true := by
              rw [HF.out.r1, mkC_nth hb]
              show sureP _ _ j = true
              unfold sureP; rw [Bool.eq_iff_iff]; simp; omega
            rw [hnth] at d1
            have hjl : (j : Int) < (b1.length : Int) := by omega
            have hj0 : (0 : Int) ≤ (j : Int) := by omega
            clear hnth hzv hi hji hfz
            go_wp2_with fail
            go_roundg (2 - (1 + 1))
            case measure => omega
            case rel => exact ⟨1 + 1, by omega, rfl, by go_num, z, HF⟩
    · simp only [show ¬ (2 : Nat) = 0 by decide, if_false, show ¬ (2 : Nat) ≤ 1 by decide] at HY
      go_wp2_with fail
      go_end0
      exact ⟨rfl, y, HY.out⟩

end Go.Proofs.Ytmbmagfdeadibaa
