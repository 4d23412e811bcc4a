import Derived.Test.YtodolbekbeccbabDoorScan
import Derived.Test.YtodolbekbeccbabDoorTexts
namespace Go.Proofs.YtodolbekbeccbabDoor
open Go.RowKit Go.Sort

/-- the result's block and the three numbers -/
structure ScanAt (w wr : World) (N : Nat) (s : Sc) : Prop where
  below : Below w.heap.size w wr
  base : w.heap.size ≤ N
  size : N + 2 ≤ wr.heap.size
  res : StampAt wr N 0 0 0
  loose : Loose wr N
  c0 : wr.cell? ⟨N + 1, 0, none⟩ = some (.int .u64 s.x)
  c1 : wr.cell? ⟨N + 1, 1, none⟩ = some (.int .u64 s.y)
  c2 : wr.cell? ⟨N + 1, 2, none⟩ = some (.int .u64 s.z)
  loose1 : Loose wr (N + 1)

/-- the bounds of the three numbers -/
def ScB (s : Sc) : Prop := s.k ≤ 2 ∧ (0 ≤ s.x ∧ s.x < 18446744073709551616) ∧ (0 ≤ s.y ∧ s.y < 18446744073709551616) ∧ (0 ≤ s.z ∧ s.z < 18446744073709551616)

theorem ScanAt.later {w wr wc : World} {N : Nat} {s : Sc} (R : ScanAt w wr N s) (hb : Below wr.heap.size wr wc) : ScanAt w wc N s :=
  ⟨Below.on R.below hb, R.base, Nat.le_trans R.size hb.size, R.res.later hb, R.loose.later hb (by have := R.size; omega), cell_later hb R.c0, cell_later hb R.c1, cell_later hb R.c2, R.loose1.later hb (by have := R.size; omega)⟩

theorem wrapE (x : Int) (c : UInt8) : IntKind.u64.wrap (IntKind.u64.wrap (IntKind.u64.wrap (x * 10) + IntKind.u64.wrap (c.toNat : Int)) - 48) = nextV x c := by
  rw [IntKind.wrap_u64, IntKind.wrap_u64, IntKind.wrap_u64, IntKind.wrap_u64]
  unfold nextV
  omega
theorem nextV_bound (x : Int) (c : UInt8) : 0 ≤ nextV x c ∧ nextV x c < 18446744073709551616 := by unfold nextV; omega

theorem ScanAt.set0 {w wr : World} {N k : Nat} {x y z : Int} (R : ScanAt w wr N ⟨k, x, y, z⟩) (v : Int) : ScanAt w (wr.setCell ⟨N + 1, 0, none⟩ (.int .u64 v)).drew N ⟨k, v, y, z⟩ := by
  have hb := R.base
  refine ⟨(Below.setCell (p := ⟨N + 1, 0, none⟩) R.below (by show w.heap.size ≤ N + 1; omega) _).drew, R.base, by simpa [World.setCell] using R.size, ⟨?_, ?_, ?_⟩, fun o => ?_, ?_, ?_, ?_, fun o => ?_⟩
  · exact (World.cell?_setCell_other _ _ _ _ (by simp)).trans R.res.1
  · exact (World.cell?_setCell_other _ _ _ _ (by simp)).trans R.res.2.1
  · exact (World.cell?_setCell_other _ _ _ _ (by simp)).trans R.res.2.2
  · exact (World.frozen?_setCell _ _ _ _).trans (R.loose o)
  · exact World.cell?_setCell_same _ _ _ R.c0
  · exact (World.cell?_setCell_other _ _ _ _ (by simp)).trans R.c1
  · exact (World.cell?_setCell_other _ _ _ _ (by simp)).trans R.c2
  · exact (World.frozen?_setCell _ _ _ _).trans (R.loose1 o)
theorem ScanAt.set1 {w wr : World} {N k : Nat} {x y z : Int} (R : ScanAt w wr N ⟨k, x, y, z⟩) (v : Int) : ScanAt w (wr.setCell ⟨N + 1, 1, none⟩ (.int .u64 v)).drew N ⟨k, x, v, z⟩ := by
  have hb := R.base
  refine ⟨(Below.setCell (p := ⟨N + 1, 1, none⟩) R.below (by show w.heap.size ≤ N + 1; omega) _).drew, R.base, by simpa [World.setCell] using R.size, ⟨?_, ?_, ?_⟩, fun o => ?_, ?_, ?_, ?_, fun o => ?_⟩
  · exact (World.cell?_setCell_other _ _ _ _ (by simp)).trans R.res.1
  · exact (World.cell?_setCell_other _ _ _ _ (by simp)).trans R.res.2.1
  · exact (World.cell?_setCell_other _ _ _ _ (by simp)).trans R.res.2.2
  · exact (World.frozen?_setCell _ _ _ _).trans (R.loose o)
  · exact (World.cell?_setCell_other _ _ _ _ (by simp)).trans R.c0
  · exact World.cell?_setCell_same _ _ _ R.c1
  · exact (World.cell?_setCell_other _ _ _ _ (by simp)).trans R.c2
  · exact (World.frozen?_setCell _ _ _ _).trans (R.loose1 o)
theorem ScanAt.set2 {w wr : World} {N k : Nat} {x y z : Int} (R : ScanAt w wr N ⟨k, x, y, z⟩) (v : Int) : ScanAt w (wr.setCell ⟨N + 1, 2, none⟩ (.int .u64 v)).drew N ⟨k, x, y, v⟩ := by
  have hb := R.base
  refine ⟨(Below.setCell (p := ⟨N + 1, 2, none⟩) R.below (by show w.heap.size ≤ N + 1; omega) _).drew, R.base, by simpa [World.setCell] using R.size, ⟨?_, ?_, ?_⟩, fun o => ?_, ?_, ?_, ?_, fun o => ?_⟩
  · exact (World.cell?_setCell_other _ _ _ _ (by simp)).trans R.res.1
  · exact (World.cell?_setCell_other _ _ _ _ (by simp)).trans R.res.2.1
  · exact (World.cell?_setCell_other _ _ _ _ (by simp)).trans R.res.2.2
  · exact (World.frozen?_setCell _ _ _ _).trans (R.loose o)
  · exact (World.cell?_setCell_other _ _ _ _ (by simp)).trans R.c0
  · exact (World.cell?_setCell_other _ _ _ _ (by simp)).trans R.c1
  · exact World.cell?_setCell_same _ _ _ R.c2
  · exact (World.frozen?_setCell _ _ _ _).trans (R.loose1 o)

theorem refparse_long (s : ByteArray) (w : World) (hs : 42 < s.size) :
    Calls Tryd.prog 8 #[.string s] w fun e w' => e = .returned (.tuple #[stv 0 0 0, .int .i64 10]) ∧ Below w.heap.size w w' := by
  go_enter Tryd.func8, Tryd.ntmps8
  go_wp2_with fail
  exact bodyPost_ret (v := .tuple #[stv 0 0 0, .int .i64 10]) (by simp [results, Tryd.results8, go_sem]) rfl ⟨rfl, Below.al (Below.refl _ _) _⟩

set_option maxHeartbeats 4000000 in
theorem refparse_short (s : ByteArray) (w : World) (hs : s.size ≤ 42) :
    Calls Tryd.prog 8 #[.string s] w fun e w' => (∃ (a b c : Int) (er : Int), e = .returned (.tuple #[stv a b c, .int .i64 er]) ∧ ((StB a b c ∧ s = txt a b c ∧ er = 0) ∨ (prs s.data.toList = none ∧ a = 0 ∧ b = 0 ∧ c = 0 ∧ er = 10))) ∧ Below w.heap.size w w' := by
  go_enter Tryd.func8, Tryd.ntmps8
  go_wp2_with fail
  go_loopg [5, 6] s.size (fun g s5 s6 wr => ∃ (i : Nat) (st : Sc), i ≤ s.size ∧ g = s.size - i ∧ s5 = .int .i64 st.k ∧ s6 = .int .i64 i ∧ scan (s.data.toList.take i) sc0 = some st ∧ ScB st ∧ ScanAt w wr w.heap.size st)
  case atStart =>
    refine ⟨0, sc0, by omega, by omega, rfl, rfl, rfl, ⟨by decide, by decide, by decide, by decide⟩, ?_, Nat.le_refl _, by simp, ⟨by simp [go_sem], by simp [go_sem], by simp [go_sem]⟩, fun o => by simp [go_sem], by simp [go_sem, sc0], by simp [go_sem, sc0], by simp [go_sem, sc0], fun o => by simp [go_sem]⟩
    exact Below.al (Below.al (Below.refl _ _) _) _
  case round =>
    obtain ⟨i, st, hi, rfl, rfl, rfl, hsc, hB, R⟩ := hrel
    by_cases hlt : i < s.size
    · have hts : scan (s.data.toList.take (i + 1)) sc0 = st.step s[i] := by
        have e : s.data.toList.take (i + 1) = s.data.toList.take i ++ [s[i]] := by
          rw [List.take_succ_eq_append_getElem (by simpa using hlt)]; rfl
        rw [e, scan_append, hsc]
        show (st.step s[i]).bind (scan []) = _
        cases st.step s[i] <;> rfl
      have HT := hid hts
      have ⟨r0, r1, r2⟩ := R.res
      have f0 : ∀ o, wr.frozen? ⟨w.heap.size, o, none⟩ = false := R.loose
      have hk2 : st.k ≤ 2 := hB.1
      clear hsc hts
      by_cases h46 : s[i].toNat = 46
      · have hb : ((s[i].toNat : Int) == 46) = true := by rw [beq_iff_eq]; omega
        by_cases hk : 2 < st.k + 1
        · have hk' : (2 : Int) < (st.k : Int) + 1 := by omega
          have hnone : Hid (prs s.data.toList = none) := by
            refine prs_of_scan_none (scan_take_none (i := i + 1) ?_)
            rw [HT.out, Sc.step, if_pos h46, if_pos hk]
          clear HT h46 hk
          go_wp2_with fail
          exact bodyPost_ret (v := .tuple #[stv 0 0 0, .int .i64 10]) (by simp [results, Tryd.results8, go_sem, r0, r1, r2]) rfl ⟨⟨0, 0, 0, 10, rfl, .inr ⟨hnone.out, rfl, rfl, rfl, rfl⟩⟩, Below.put0 R.below⟩
        · have hk' : ¬ (2 : Int) < (st.k : Int) + 1 := by omega
          have hnx : Hid (scan (s.data.toList.take (i + 1)) sc0 = some ⟨st.k + 1, st.x, st.y, st.z⟩) := by
            show _ = _
            rw [HT.out, Sc.step, if_pos h46, if_neg hk]
          clear HT h46
          go_wp2_with fail
          go_roundg (s.size - (i + 1))
          case measure => omega
          case rel => exact ⟨i + 1, ⟨st.k + 1, st.x, st.y, st.z⟩, by omega, rfl, by go_num, by go_num, hnx.out, ⟨by dsimp only; omega, hB.2⟩, ⟨R.below, R.base, R.size, R.res, R.loose, R.c0, R.c1, R.c2, R.loose1⟩⟩
      · have hb : ((s[i].toNat : Int) == 46) = false := by rw [beq_eq_false_iff_ne]; omega
        have hnx : Hid (scan (s.data.toList.take (i + 1)) sc0 = some (st.put (nextV st.get s[i]))) := by
          show _ = _
          rw [HT.out, Sc.step, if_neg h46]
        clear HT h46
        obtain ⟨hkb, ⟨x0, x1⟩, ⟨y0, y1⟩, z0, z1⟩ := hB
        obtain ⟨k, x, y, z⟩ := st
        have hk3 : k = 0 ∨ k = 1 ∨ k = 2 := by dsimp only at hkb; omega
        have ⟨_, _, _, _, _, c0, c1, c2, l1⟩ := R
        have f1 : ∀ o, wr.frozen? ⟨w.heap.size + 1, o, none⟩ = false := l1
        rcases hk3 with rfl | rfl | rfl
        · go_wp2_with fail
          go_region
          all_goals go_wp2_with fail
          go_roundg (s.size - (i + 1))
          case measure => omega
          case rel =>
            rw [wrapE]
            exact ⟨i + 1, ⟨0, nextV x s[i], y, z⟩, by omega, rfl, by go_num, by go_num, hnx.out, ⟨by dsimp only; omega, nextV_bound _ _, ⟨y0, y1⟩, z0, z1⟩, R.set0 _⟩
        · go_wp2_with fail
          go_region
          all_goals go_wp2_with fail
          go_roundg (s.size - (i + 1))
          case measure => omega
          case rel =>
            rw [wrapE]
            exact ⟨i + 1, ⟨1, x, nextV y s[i], z⟩, by omega, rfl, by go_num, by go_num, hnx.out, ⟨by dsimp only; omega, ⟨x0, x1⟩, nextV_bound _ _, z0, z1⟩, R.set1 _⟩
        · go_wp2_with fail
          go_region
          all_goals go_wp2_with fail
          go_roundg (s.size - (i + 1))
          case measure => omega
          case rel =>
            rw [wrapE]
            exact ⟨i + 1, ⟨2, x, y, nextV z s[i]⟩, by omega, rfl, by go_num, by go_num, hnx.out, ⟨by dsimp only; omega, ⟨x0, x1⟩, ⟨y0, y1⟩, (nextV_bound _ _).1, (nextV_bound _ _).2⟩, R.set2 _⟩
    · obtain rfl : i = s.size := by omega
      rw [List.take_of_length_le (by simp)] at hsc
      obtain ⟨k, x, y, z⟩ := st
      obtain ⟨hkb, ⟨x0, x1⟩, ⟨y0, y1⟩, z0, z1⟩ := hB
      have ⟨_, _, _, ⟨r0, r1, r2⟩, l0, c0, c1, c2, l1⟩ := R
      have f0 : ∀ o, wr.frozen? ⟨w.heap.size, o, none⟩ = false := l0
      obtain ⟨b', hb'⟩ : ∃ b', IntKind.u32.wrap y = b' := ⟨_, rfl⟩
      obtain ⟨c', hc'⟩ : ∃ c', IntKind.u32.wrap z = c' := ⟨_, rfl⟩
      have eb : b' = y % 4294967296 := by rw [← hb', wrap_u32_eq]
      have ec : c' = z % 4294967296 := by rw [← hc', wrap_u32_eq]
      have hst : Hid (StB x b' c') := ⟨⟨x0, by dsimp only at x1; omega⟩, ⟨by omega, by omega⟩, by omega, by omega⟩
      have hprs : Hid (txt x b' c' ≠ s → prs s.data.toList = none) := fun hne => by
        refine prs_of_ne hsc ?_
        dsimp only
        rw [← eb, ← ec]
        intro e
        exact hne (ByteArray.ext (Array.toList_inj.1 e))
      have hsz := R.size
      clear hsc eb ec hkb hlt hi
      by_cases heq : txt x b' c' = s
      · have HE := hid heq.symm
        clear heq
        go_wp2_with fail
        refine (reftext_is hst.out HE.out _).mono ?_
        rintro e w1 ⟨rfl, hw⟩
        have R1 := (R.later (Below.al (Below.refl _ _) _)).later hw
        have A7 := (show StampAt (wr.alloc (.cells #[.int .u64 x, .int .u32 b', .int .u32 c'] 25)) wr.heap.size x b' c' from ⟨by simp [go_sem], by simp [go_sem], by simp [go_sem]⟩).later hw
        have ⟨q0, q1, q2⟩ := A7
        have ⟨r0, r1, r2⟩ := R1.res
        have f0 : ∀ o, w1.frozen? ⟨w.heap.size, o, none⟩ = false := R1.loose
        clear hw R A7 c0 c1 c2 l0 l1 hb' hc'
        go_wp2_with fail
        exact bodyPost_ret (v := .tuple #[stv x b' c', .int .i64 0]) (by simp [results, Tryd.results8, go_sem, r0, r1, r2]) rfl ⟨⟨x, b', c', 0, rfl, .inl ⟨hst.out, HE.out, rfl⟩⟩, Below.put0 R1.below⟩
      · have HE := hid (hprs.out heq)
        obtain ⟨p, hp⟩ : ∃ p, p = txt x b' c' := ⟨_, rfl⟩
        have hne : (p.toList == s.toList) = false := by
          rw [beq_eq_false_iff_ne, ByteArray.toList_eq, ByteArray.toList_eq, hp]
          exact fun e => heq (ByteArray.ext (Array.toList_inj.1 e))
        have HP := hid hp
        clear heq hp
        go_wp2_with fail
        refine (reftext_is hst.out HP.out _).mono ?_
        rintro e w1 ⟨rfl, hw⟩
        have R1 := (R.later (Below.al (Below.refl _ _) _)).later hw
        have A7 := (show StampAt (wr.alloc (.cells #[.int .u64 x, .int .u32 b', .int .u32 c'] 25)) wr.heap.size x b' c' from ⟨by simp [go_sem], by simp [go_sem], by simp [go_sem]⟩).later hw
        have ⟨q0, q1, q2⟩ := A7
        have ⟨r0, r1, r2⟩ := R1.res
        have f0 : ∀ o, w1.frozen? ⟨w.heap.size, o, none⟩ = false := R1.loose
        clear hw R A7 c0 c1 c2 l0 l1 hb' hc'
        go_wp2_with fail
        exact bodyPost_ret (v := .tuple #[stv 0 0 0, .int .i64 10]) (by simp [results, Tryd.results8, go_sem, r0, r1, r2]) rfl ⟨⟨0, 0, 0, 10, rfl, .inr ⟨HE.out, rfl, rfl, rfl, rfl⟩⟩, Below.put0 R1.below⟩

end Go.Proofs.YtodolbekbeccbabDoor
