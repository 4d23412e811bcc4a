import Derived.Test.YtpnbgdbkiokooaaDoorFxBegin
/- FlightExact. -/
namespace Go.Proofs.YtpnbgdbkiokooaaDoor.Fl
open Go.RowKit Go.Sort Go.Proofs.YtpnbgdbkiokooaaDoor
set_option linter.unusedVariables false

section
variable {W w : World} {p r : Nat → Nat} {X : Nat → List ByteArray} {b m : Nat}
theorem Bo.bq {c : Nat → Nat} {s : Bv} (h : Bo s m) (hb : Bk w W.heap.size b c s) : Bq W w b c s m := ⟨hb, h.L, fun i _ => by rw [h.XY], h.x, h.M, h.le⟩
theorem Bq.bo {c : Nat → Nat} {s : Bv} (h : Bq W w b c s m) : Bo s m := by
  refine ⟨h.L, ?_, h.x, h.M, h.le, h.bk.lx⟩
  apply List.ext_getElem?
  intro i
  by_cases hi : i < s.F.length
  · have h1 := h.XY i hi
    unfold nthX at h1
    rw [List.getElem?_eq_getElem (by rw [h.bk.ly]; exact hi), List.getElem?_eq_getElem (by rw [h.bk.lx]; exact hi)] at h1 ⊢
    exact congrArg some h1
  · rw [List.getElem?_eq_none (by rw [h.bk.ly]; omega), List.getElem?_eq_none (by rw [h.bk.lx]; omega)]
theorem Ss.bl (h : Ss W w p r X b m) : Below W.heap.size W w := by
  obtain ⟨c, v, u, s, h, _⟩ := h
  exact h.bl
theorem Wd.ss {w' : World} {c c' : Nat → Nat} {v u : Nat → Value} {s s' : Bv} (h : St W w c p r v u X X b s []) (k : Wd W w w' b c c' s s' m) : Ss W w' p r X b m :=
  ⟨c', v, u, s', h.book k.onl k.col k.bq.bk (fun e he => by cases he) (h.bl.trans k.bl), k.bq.bo⟩
theorem Ss.whole (hP : PowTab W) (h : Ss W w p r X b m) (hm : m ≤ 1073741824) : Calls Tryd.prog 15 #[pt b] w fun e w' => e = .returned (.bool true) ∧ Hid (Ss W w' p r X b m) := by
  obtain ⟨c, v, u, s, h, hbo⟩ := h
  refine (whole_is hP (hbo.bq h.bk) h.bl hm).mono ?_
  rintro e w' ⟨rfl, c', s', k⟩
  exact ⟨rfl, Wd.ss h k⟩
theorem Ss.settle (hP : PowTab W) (h : Ss W w p r X b m) (hm : m ≤ 1073741824) : Calls Tryd.prog 16 #[pt b] w fun e w' => e = .returned (.bool true) ∧ Hid (Ss W w' p r X b m) := by
  obtain ⟨c, v, u, s, h, hbo⟩ := h
  refine (Bq.settle hP (hbo.bq h.bk) h.bl hm).mono ?_
  rintro e w' ⟨rfl, c', s', k⟩
  exact ⟨rfl, Wd.ss h k⟩
theorem Ss.later {w' : World} (h : Ss W w p r X b m) (hb : Below w.heap.size w w') : Ss W w' p r X b m := by
  obtain ⟨c, v, u, s, h, hbo⟩ := h
  exact ⟨_, v, u, s, h.later hb 12, hbo⟩
end

theorem and_one_i64 (o : Int) : ∃ j : Nat, j < 2 ∧ bits BinOp.and IntKind.i64 o 1 = (j : Int) := by
  refine ⟨(o % 2).toNat, by omega, ?_⟩
  show IntKind.i64.wrap (((BitVec.ofInt 64 o &&& BitVec.ofInt 64 1).toNat : Nat) : Int) = _
  rw [BitVec.toNat_and, BitVec.toNat_ofInt, show (BitVec.ofInt 64 1).toNat = 1 from by decide, Nat.and_one_is_mod, IntKind.wrap_i64]
  omega

set_option maxRecDepth 16000 in
set_option maxHeartbeats 16000000 in
theorem law_exact {W : World} {a : Option Addr} {c : Nat} {xs : List Sp} (hP : PowTab W) (hrow : RowP W a xs) (hrd : ∀ s ∈ xs, Rd W s.v s.l) (hsz : sz xs ≤ 1048576) :
    Calls Tryd.prog 4 #[.slice a xs.length c] W fun e w' => e = .returned (.bool true) ∧ Below W.heap.size W w' := by
  have HROW := hid hrow
  have HRD := hid hrd
  have HSZ := hid hsz
  have HP := hid hP
  have hm20 := Nat.le_trans (sz_len xs) hsz
  obtain ⟨m, hm⟩ : ∃ m, m = xs.length := ⟨_, rfl⟩
  have HM := hid hm
  rw [← hm] at hm20 ⊢
  obtain ⟨w0, hw0⟩ : ∃ w0, w0 = (W.alloc (.cells #[.pointer none, .pointer none] 36)).alloc (.cells #[.pointer none, .pointer none] 38) := ⟨_, rfl⟩
  obtain ⟨A, hA⟩ : ∃ A, A = W.heap.size := ⟨_, rfl⟩
  have HA := hid hA
  have HW0 := hid hw0
  clear hrow hrd hsz hm hP hA hw0
  go_enter Tryd.func4, Tryd.ntmps4
  go_wp2_with fail
  rw [← HW0.out, ← HA.out]
  have HL0 : Hid (L1 W w0 A 0 (fun _ => 0) (fun _ => 0) (fun _ => pn) (fun _ => pn)) := by
    have hw := HW0.out
    have hA := HA.out
    have o1 : w0.heap[A + 1]? = some (.cells #[.pointer none, .pointer none] 38 (0, 0)) := by
      rw [hw, hA, ← World.size_alloc]; exact World.alloc_heap_new _ _
    have o0 : w0.heap[A]? = some (.cells #[.pointer none, .pointer none] 36 (0, 0)) := by
      rw [hw, hA, Below.heap_alloc _ _ _ (by rw [World.size_alloc]; omega)]; exact World.alloc_heap_new _ _
    refine ⟨fun j hj => by omega, fun j hj => by omega, fun j hj => by omega, fun j hj => by omega, fun j hj => by omega, fun j hj => ?_, fun j hj => ?_, fun o => by simp [World.frozen?, o0], fun o => by simp [World.frozen?, o1], by rw [hw, hA, World.size_alloc, World.size_alloc]; omega, by rw [hw, hA]; exact Below.al (Below.al (Below.refl _ _) _) _, hA⟩
    · rw [if_neg (by omega)]
      match j, hj with
      | 0, _ => exact cell_obj o0 rfl
      | 1, _ => exact cell_obj o0 rfl
    · rw [if_neg (by omega)]
      match j, hj with
      | 0, _ => exact cell_obj o1 rfl
      | 1, _ => exact cell_obj o1 rfl
  go_loopg [5] 2 (fun g s5 wr => ∃ i : Nat, i ≤ 2 ∧ g = 2 - i ∧ s5 = .int .i64 i ∧ Hid (∃ p r v u, L1 W wr A i p r v u))
  case atStart => exact ⟨0, by omega, by omega, rfl, _, _, _, _, HL0.out⟩
  case round =>
    obtain ⟨i, hi, rfl, rfl, HLI⟩ := hrel
    clear HL0 HW0
    obtain ⟨p, r, v, u, hl⟩ := HLI.out
    have HL := hid hl
    by_cases hlt : i < 2
    · have hI : (i : Int) < 2 := by omega
      clear HLI hl
      go_wp2_with fail
      refine (new_is wr).mono ?_
      rintro e w1 ⟨p', rfl, HF1, HB1⟩
      have c1 : w1.cell? ⟨A, i, none⟩ = some (.pointer none) := by
        have := HL.out.a0 i hlt
        rw [if_neg (by omega)] at this
        exact cell_later HB1.out this
      have f1 : w1.frozen? ⟨A, i, none⟩ = false := (HB1.out.frozen (p := ⟨A, i, none⟩) (by show A < wr.heap.size; have := HL.out.sz; omega)).trans (HL.out.l0 i)
      obtain ⟨w2, hw2⟩ : ∃ w2, w2 = w1.setCell ⟨A, i, none⟩ (pt p') := ⟨_, rfl⟩
      have HW2 := hid hw2
      clear hw2
      go_wp2_with fail
      rw [← HW2.out]
      refine (rnew_is w2).mono ?_
      rintro e w3 ⟨r', rfl, HF3, HB3⟩
      obtain ⟨w4, hw4⟩ : ∃ w4, w4 = w3.setCell ⟨A + 1, i, none⟩ (pt r') := ⟨_, rfl⟩
      have HW4 := hid hw4
      obtain ⟨-, -, c3, f3, c3b, hmd⟩ := HL.out.made hlt HF1.out HB1.out HW2.out HF3.out HB3.out hw4
      have HMD := hid hmd
      have c4 := hmd.c
      obtain ⟨w5, hw5⟩ : ∃ w5, w5 = w4.alloc (.cells #[.string th] 9) := ⟨_, rfl⟩
      have hb5 : Below w4.heap.size w4 w5 := by rw [hw5]; exact Below.al (Below.refl _ _) _
      have HSE := hid (send_is (u := .slice (some ⟨w4.heap.size, 0, none⟩) 1 1) (hmd.fl.later hb5) (by rw [hw5]; exact rd_one w4 th) (by decide) (Nat.le_trans hmd.sz hb5.size))
      have HW5 := hid hw5
      have HB5 := hid hb5
      have hq4 : w4.heap.size = w3.heap.size := by rw [hw4]; simp [World.setCell]
      rw [hq4] at HSE
      clear hw4 hmd hw5 hb5 HF1 HB1 HF3 HB3 c1 f1 HW2 hq4 c4
      go_wp2_with fail
      rw [← HW4.out, ← HW5.out]
      refine HSE.out.mono ?_
      rintro e w6 ⟨rfl, hmv⟩
      obtain ⟨v6, m6⟩ := hmv
      rw [List.nil_append] at m6
      have HM6 := hid m6
      have hb46 : Below wr.heap.size w4 w6 := (HB5.out.mono HMD.out.sz).trans (m6.below (HMD.out.fl.later HB5.out) (Nat.le_trans HMD.out.sz HB5.out.size))
      have c6 := cell_of_below hb46 (show A < wr.heap.size by have := HMD.out.s2; omega) HMD.out.c
      have c6r := cell_of_below hb46 (show A + 1 < wr.heap.size by have := HMD.out.s2; omega) HMD.out.cr
      have rf5 := HMD.out.rf.later HB5.out
      have rf6 : Rf w6 wr.heap.size r' (.slice none 0 0) [] := rf5.keep fun k hk => m6.onl.block k (rf5.its hk).2 (fun hf => by
        rcases hk with rfl | hk
        · rcases hf with e | e
          · exact HMD.out.ne e.symm
          · cases e
        · cases hk)
      obtain ⟨w7, hw7⟩ : ∃ w7, w7 = w6.alloc (.cells #[.string th] 9) := ⟨_, rfl⟩
      have hb7 : Below w6.heap.size w6 w7 := by rw [hw7]; exact Below.al (Below.refl _ _) _
      have HRS := hid (rsend_is (u := .slice (some ⟨w6.heap.size, 0, none⟩) 1 1) (rf6.later hb7) (by rw [hw7]; exact rd_one w6 th) (fun _ g hg hk => by
        injection hg with hg
        have hg : w6.heap.size = g := hg
        have h1 := (rf6.its hk).2
        omega) (Nat.le_trans (Nat.le_trans HMD.out.sz HB5.out.size) (Nat.le_trans m6.onl.size hb7.size)) (by decide))
      have HW7 := hid hw7
      have HB7 := hid hb7
      clear HSE m6 hb46 hw7 hb7 rf5 rf6 HW4 HW5 c3 f3 c3b
      go_wp2_with fail
      rw [← HW7.out]
      refine HRS.out.mono ?_
      rintro e w8 ⟨rfl, hmw⟩
      obtain ⟨u8, m8⟩ := hmw
      rw [List.nil_append] at m8
      obtain ⟨c8, hf8, hnx⟩ := Md.next HL.out hlt HMD.out HB5.out HM6.out HB7.out m8
      have HNX := hid hnx
      have HLEN := hid (len_is hf8)
      clear c6 c6r HRS m8 hf8 hnx HW7 HB7 HM6 HB5
      go_wp2_with fail
      refine HLEN.out.mono ?_
      rintro e w9 ⟨rfl, rfl⟩
      go_wp2_with fail
      go_roundg (2 - (i + 1))
      case measure => omega
      case rel => exact ⟨i + 1, by omega, rfl, by go_num, HNX.out⟩
    · obtain rfl : i = 2 := by omega
      obtain ⟨w1, hw1⟩ : ∃ w1, w1 = wr.alloc (.cells #[.slice none 0 0, .slice none 0 0, .slice none 0 0, .slice none 0 0] 43) := ⟨_, rfl⟩
      obtain ⟨b, hb⟩ : ∃ b, b = wr.heap.size := ⟨_, rfl⟩
      have hA := HA.out
      have hsz := hl.sz
      have hbl := hl.bl
      have hl2 : L1 W wr W.heap.size 2 p r v u := by rw [← hA]; exact hl
      have HS0 := hl2.ss hw1
      rw [← hb] at HS0
      have HS0 := hid HS0
      rw [hA] at hsz hbl
      obtain ⟨Wb, hWb⟩ : ∃ Wb, Wb = baseW W wr := ⟨_, rfl⟩
      have HWW : Hid (Below W.heap.size W Wb) := by show Below _ _ _; rw [hWb]; exact below_baseW hbl hsz
      have hbase := baseW_below hsz
      have hbsz := baseW_size hsz
      rw [← hWb] at HS0 hbase hbsz
      have HAR : Hid (∀ wz, Below Wb.heap.size Wb wz → ∀ j, j < 2 → wz.cell? ⟨A, j, none⟩ = some (pt (p j)) ∧ wz.cell? ⟨A + 1, j, none⟩ = some (pt (r j))) := fun wz hb j hj => by
        have e0 := hl.a0 j hj
        have e1 := hl.a1 j hj
        rw [if_pos hj] at e0 e1
        constructor
        · rw [cell_eq_below hb (by omega), ← cell_eq_below hbase (by omega)]; exact e0
        · rw [cell_eq_below hb (by omega), ← cell_eq_below hbase (by omega)]; exact e1
      have HPB := hid (HP.out.later HWW.out)
      have HBLO : Hid (∀ wz, Below Wb.heap.size Wb wz → Below W.heap.size W wz) := fun wz hb => HWW.out.trans (hb.mono (by omega))
      have HW1 := hid hw1
      have HBB := hid hb
      have HS1 : Hid (∃ X, Ss Wb w1 p r X b (2 * 0) ∧ ∀ j, j < 2 → (X j).length ≤ 1 + sz (xs.take 0)) := ⟨_, HS0.out, fun j hj => by simp⟩
      clear hlt hi HLI hl hl2 HL hA hsz hbl hWb hbase hbsz hw1 hb HS0
      go_wp2_with fail
      rw [← HW1.out, ← HBB.out]
      clear HW1 HBB
      go_loopg [7] m (fun g s7 ws => ∃ i : Nat, i ≤ m ∧ g = m - i ∧ s7 = .int .i64 i ∧ Hid (∃ X, Ss Wb ws p r X b (2 * i) ∧ ∀ j, j < 2 → (X j).length ≤ 1 + sz (xs.take i)))
      case atStart => exact ⟨0, by omega, by omega, rfl, HS1.out⟩
      case round =>
        obtain ⟨i, hi, rfl, rfl, HI⟩ := hrel
        clear HS1
        obtain ⟨X, hss, hX⟩ := HI.out
        have hbl := hss.bl
        by_cases hlt : i < m
        · have hlt' : i < xs.length := by rw [← HM.out]; exact hlt
          obtain ⟨bb, off, rfl, hc⟩ := RowP.later HROW.out (HBLO.out _ hbl) i hlt'
          replace hc : ∀ o u, (spc (nthP xs i))[o]? = some u → wr.cell? ⟨bb, off + i * 4 + o, none⟩ = some u := hc
          have hle := sz_le xs (i + 1)
          rw [sz_take hlt'] at hle
          have hs3 := HSZ.out
          obtain ⟨s, hs⟩ : ∃ s, s = nthP xs i := ⟨_, rfl⟩
          rw [← hs] at hc hle
          have hrdW : Rd W s.v s.l := by rw [hs]; exact HRD.out _ (nthP_mem hlt')
          have hrdB : Rd Wb s.v s.l := hrdW.later HWW.out
          have g0 : wr.cell? ⟨bb, off + i * 4, none⟩ = some (.int .i64 s.k) := by have := hc 0 _ rfl; simpa using this
          have g1 : wr.cell? ⟨bb, off + i * 4 + 1, none⟩ = some (.int .i64 s.o) := by have := hc 1 _ rfl; simpa using this
          have g2 : wr.cell? ⟨bb, off + i * 4 + 2, none⟩ = some (.int .i64 s.i) := by have := hc 2 _ rfl; simpa using this
          have g3 : wr.cell? ⟨bb, off + i * 4 + 3, none⟩ = some s.v := by have := hc 3 _ rfl; simpa using this
          obtain ⟨a4, c4, hv4, -⟩ := hrdW
          rw [hv4] at g3
          obtain ⟨j, hj, hand⟩ := and_one_i64 s.o
          have hxj := hX j hj
          have hJ : (j : Int) < 2 := by omega
          obtain ⟨B0, hB0⟩ : ∃ B0, B0 = wr.heap.size := ⟨_, rfl⟩
          obtain ⟨wz, hwz⟩ : ∃ wz, wz = wr.alloc (.cells #[.int .i64 s.k, .int .i64 s.o, .int .i64 s.i, .slice a4 s.l.length c4] 45) := ⟨_, rfl⟩
          have hbz : Below wr.heap.size wr wz := by rw [hwz]; exact Below.al (Below.refl _ _) _
          have hblk : wz.heap[B0]? = some (.cells #[.int .i64 s.k, .int .i64 s.o, .int .i64 s.i, .slice a4 s.l.length c4] 45 (0, 0)) := by rw [hwz, hB0]; exact World.alloc_heap_new _ _
          have z0 : wz.cell? ⟨B0, 0, none⟩ = some (.int .i64 s.k) := cell_obj hblk rfl
          have z1 : wz.cell? ⟨B0, 1, none⟩ = some (.int .i64 s.o) := cell_obj hblk rfl
          have z2 : wz.cell? ⟨B0, 2, none⟩ = some (.int .i64 s.i) := cell_obj hblk rfl
          have z3 : wz.cell? ⟨B0, 3, none⟩ = some (.slice a4 s.l.length c4) := cell_obj hblk rfl
          obtain ⟨k0, k1⟩ := HAR.out wz (Below.on hbl hbz) j hj
          have e4 : s.val = .agg #[.int .i64 s.k, .int .i64 s.o, .int .i64 s.i, .slice a4 s.l.length c4] := by show Value.agg #[_, _, _, s.v] = _; rw [hv4]
          have HD : Hid (∀ w1, Below wz.heap.size wz w1 → Calls Tryd.prog 14 #[pt (p j), pt (r j), .agg #[.int .i64 s.k, .int .i64 s.o, .int .i64 s.i, .slice a4 s.l.length c4], pt b] w1 fun e w' => e = .returned (.bool true) ∧ Hid (Da Wb w' p r X b (2 * i) j s.l)) := fun w1 hb1 => by
            rw [← e4]
            exact does_is HPB.out ((hss.later hbz).later hb1) hj s hrdB (by omega) (by omega) (by omega)
          have HWH : Hid (∀ w1, Da Wb w1 p r X b (2 * i) j s.l → Calls Tryd.prog 15 #[pt b] w1 fun e w' => e = .returned (.bool true) ∧ Hid (∃ X, Ss Wb w' p r X b (2 * (i + 1)) ∧ ∀ j, j < 2 → (X j).length ≤ 1 + sz (xs.take (i + 1)))) := fun w1 hd => by
            obtain ⟨ys, hys, hs2⟩ := hd
            refine (hs2.whole HPB.out (by omega)).mono ?_
            rintro e w' ⟨rfl, h9⟩
            refine ⟨rfl, _, h9.out, fun k hk => ?_⟩
            rw [sz_take hlt', ← hs]
            by_cases e : k = j
            · subst e; rw [upd_same]; omega
            · rw [upd_other _ _ e]; have := hX k hk; omega
          have HB0 := hid hB0
          have HWZ := hid hwz
          have hI : (i : Int) < (m : Int) := by omega
          obtain ⟨sk, so, si, sv, sl⟩ := s
          simp only at g0 g1 g2 g3 z0 z1 z2 z3 hand HD HWH HWZ hxj
          clear hX hle hs3 hs hB0 hwz hbz hblk e4 hv4 hss hbl hc hrdB HI hxj hlt'
          go_wp2_with fail
          rw [← HWZ.out, ← HB0.out]
          clear g0 g1 g2 g3 HWZ HB0
          go_region_with (first
            | (go_at_call 14; refine (HD.out _ (by (repeat (first | with_reducible exact Below.refl _ _ | with_reducible assumption | with_reducible refine Below.drew ?_ | with_reducible refine Below.al ?_ _ | with_reducible refine Below.setCell ?_ (by first | exact Nat.le_refl _ | (simp; omega) | (simp; done)) _ | with_reducible refine Below.on ?_ (by assumption))))).mono ?_; rintro e w1 ⟨rfl, HA1⟩)
            | (go_at_call 15; refine (HWH.out _ HA1.out).mono ?_; rintro e w2 ⟨rfl, HS2⟩))
          all_goals (try go_wp2_with fail)
          all_goals go_roundg (m - (i + 1))
          all_goals first | omega | exact ⟨i + 1, by omega, rfl, by go_num, HS2.out⟩
        · obtain rfl : m = i := by omega
          have HST : Hid (∀ w1, Below wr.heap.size wr w1 → Calls Tryd.prog 16 #[pt b] w1 fun e w' => e = .returned (.bool true) ∧ Hid (Ss Wb w' p r X b (2 * m))) := fun w1 hb1 => (hss.later hb1).settle HPB.out (by omega)
          have HWH : Hid (∀ w1, Ss Wb w1 p r X b (2 * m) → Calls Tryd.prog 15 #[pt b] w1 fun e w' => e = .returned (.bool true) ∧ Hid (Below W.heap.size W w')) := fun w1 h1 => by
            refine (h1.whole HPB.out (by omega)).mono ?_
            rintro e w' ⟨rfl, h9⟩
            exact ⟨rfl, HBLO.out _ h9.out.bl⟩
          clear hX hss hbl HI hlt hi
          go_wp2_with fail
          refine (HST.out _ (by (repeat (first | with_reducible exact Below.refl _ _ | with_reducible assumption | with_reducible refine Below.drew ?_ | with_reducible refine Below.al ?_ _ | with_reducible refine Below.setCell ?_ (by first | exact Nat.le_refl _ | (simp; omega) | (simp; done)) _ | with_reducible refine Below.on ?_ (by assumption))))).mono ?_
          rintro e w1 ⟨rfl, HA1⟩
          go_wp2_with fail
          refine (HWH.out _ HA1.out).mono ?_
          rintro e w2 ⟨rfl, HS2⟩
          go_wp2_with fail
          go_ret
          exact ⟨rfl, HS2.out⟩
end Go.Proofs.YtpnbgdbkiokooaaDoor.Fl
