import Derived.Test.YtogjhpknlopajaaXDecided
/- LedgerFirst. -/
namespace Go.Proofs.Ytogjhpknlopajaa.Lg
open Go.RowKit Go.Sort Lk
set_option linter.unusedVariables false

/-- behind a Decide nothing below the ledger's blocks has changed -/
theorem dec_below {B : Nat} {w w' : World} {p : Nat} {m : Option Nat} {M : List En} (T : Lg w p m M) (hp : B ≤ p) (hm : ∀ b, m = some b → B ≤ b) (hB : B ≤ w.heap.size) (ho : Onl (ItsL p m) w w') : Below B w w' :=
  ho.below (fun k hk => by
    rcases hk with rfl | e
    · exact hp
    · exact hm k e) hB
abbrev oneE : En := ⟨(1, 1), 0, 2, 0, 0, 0⟩
set_option maxHeartbeats 4000000 in
theorem first_law {W : World} {a : Option Addr} {n c : Nat} {xs : List En} (hrow : RowC En.zero ecs 7 W a xs) (hn : xs.length = n) (hl : n ≤ 9223372036854775806) (hcap : n ≤ c) :
    Calls Try.prog 3 #[.slice a n c] W fun r w' => r = .returned (.bool true) ∧ Below W.heap.size W w' := by
  have HR := hid hrow
  have HLN := hid hn
  have NEW := hid (new_is W)
  clear hrow hn
  go_enter Try.func3, Try.ntmps3
  go_wp2_with fail
  refine NEW.out.mono ?_
  rintro r w0 ⟨rfl, hL0, hb0⟩
  have HL0 := hid hL0
  have HB0 := hid hb0
  clear hL0 hb0 NEW
  go_wp2_with fail
  go_loopg [22] n (fun g s22 wr => ∃ (k : Nat) (m : Option Nat), k ≤ n ∧ g = n - k ∧ s22 = .int .i64 k ∧ Hid (Lg wr W.heap.size m (ledL (xs.take k))) ∧ Hid (∀ b, m = some b → W.heap.size ≤ b) ∧ Hid (Below W.heap.size W wr))
  case atStart => exact ⟨0, none, by omega, by omega, rfl, by simpa [ledL] using HL0, (fun b e => by cases e), HB0⟩
  case round =>
    obtain ⟨k, m, hk, rfl, rfl, HL, HM, HB⟩ := hrel
    by_cases hlt : k < n
    · obtain ⟨b, off, eb, hc⟩ := RowC.later HR.out HB.out k (by rw [HLN.out]; exact hlt)
      have hk1 : (k : Int) < (n : Int) := by omega
      obtain ⟨y, hye⟩ : ∃ y, y = nthE xs k := ⟨_, rfl⟩
      have hye' : (xs[k]?).getD En.zero = y := hye.symm
      rw [hye'] at hc
      have HY := hid hye
      subst eb
      have g0 : wr.cell? ⟨b, off + k * 7, none⟩ = some (.int .u32 y.id.1) := hc 0 _ rfl
      have g1 : wr.cell? ⟨b, off + k * 7 + 1, none⟩ = some (.int .u32 y.id.2) := hc 1 _ rfl
      have g2 : wr.cell? ⟨b, off + k * 7 + 2, none⟩ = some (.int .u32 y.home) := hc 2 _ rfl
      have g3 : wr.cell? ⟨b, off + k * 7 + 3, none⟩ = some (.int .i64 y.oc) := hc 3 _ rfl
      have g4 : wr.cell? ⟨b, off + k * 7 + 4, none⟩ = some (.int .u64 y.w) := hc 4 _ rfl
      have g5 : wr.cell? ⟨b, off + k * 7 + 5, none⟩ = some (.int .u32 y.l) := hc 5 _ rfl
      have g6 : wr.cell? ⟨b, off + k * 7 + 6, none⟩ = some (.int .u32 y.n) := hc 6 _ rfl
      have DEC := hid (decide_is HL.out y)
      clear hc hye hye'
      go_wp2_with fail
      refine DEC.out.mono ?_
      rintro r w1 ⟨m', f, x, rfl, HF, HX, HL1, HM1, HO1⟩
      have HB1 : Hid (Below W.heap.size wr w1) := dec_below HL.out (Nat.le_refl _) HM.out HB.out.size HO1.out
      have HBW : Hid (Below W.heap.size W w1) := HB.out.trans HB1.out
      have DD : Hid (∀ W', Below w1.heap.size w1 W' → Calls Try.prog 11 #[.slice (some ⟨b, off, none⟩) n c, .int .i64 k, .agg #[.int .u32 f.id.1, .int .u32 f.id.2, .int .u32 f.home, .int .i64 f.oc, .int .u64 f.w, .int .u32 f.l, .int .u32 f.n], .int .i64 x] W' fun r w' => r = .returned (.bool true) ∧ Hid (Below W'.heap.size W' w')) := fun W' hb => by
        obtain ⟨h1, h2⟩ := led_dec (xs := xs) (k := k) (by rw [HLN.out]; exact hlt)
        rw [← HY.out, ← HF.out, ← HX.out] at h1 h2
        refine decided_is (RowC.later HR.out (Below.on HBW.out hb)) HLN.out hl hcap hlt ?_ ?_
        · rw [← HY.out]; exact h1
        · rw [← HY.out]; exact h2
      have HLN' : Hid (decM (ledL (xs.take k)) y = ledL (xs.take (k + 1))) := by
        show _ = _
        rw [nthE_take (by rw [HLN.out]; exact hlt), ledL_snoc, HY.out]
      clear DEC g0 g1 g2 g3 g4 g5 g6
      go_wp2_with (go_at_call 11; refine (DD.out _ (by (repeat (first | with_reducible exact Below.refl _ _ | with_reducible assumption | with_reducible refine Below.drew ?_ | with_reducible refine Below.al ?_ _ | with_reducible refine Below.setCell ?_ (by first | exact Nat.le_refl _ | (simp; omega) | (simp; done)) _ | with_reducible refine Below.on ?_ (by assumption))))).mono ?_; rintro r w2 ⟨rfl, HB2⟩; have HB12 : Hid (Below w1.heap.size w1 w2) := hid (Below.on (Below.al (Below.refl _ _) _) HB2.out); clear HB2)
      go_roundg (n - (k + 1))
      case measure => omega
      case rel =>
        refine ⟨k + 1, m', by omega, rfl, by go_num, ?_, ?_, Below.on HBW.out HB12.out⟩
        · have := HL1.out.later HB12.out
          rw [HLN'.out] at this
          exact this
        · intro b' e
          rcases HM1.out with h | ⟨b2, h, hle⟩
          · exact HM.out b' (by rw [← h, e])
          · rw [e] at h
            injection h with h
            subst h
            exact Nat.le_trans HB.out.size hle
    · obtain rfl : k = n := by omega
      have HLL : Hid (Lg wr W.heap.size m (ledL xs)) := by
        have := HL.out
        rwa [← HLN.out, List.take_length] at this
      rename World => w3
      clear HL HL0
      go_wp2_with fail
      go_loopg [43] k (fun g s43 wr => ∃ j : Nat, j ≤ k ∧ g = k - j ∧ s43 = .int .i64 j ∧ Hid (Below w3.heap.size w3 wr))
      case atStart => exact ⟨0, by omega, by omega, rfl, Below.refl _ _⟩
      case round =>
        obtain ⟨j, hj, rfl, rfl, HJ⟩ := hrel
        by_cases hjt : j < k
        · obtain ⟨b, off, eb, hc⟩ := RowC.later HR.out (Below.on HB.out HJ.out) j (by rw [HLN.out]; exact hjt)
          have hj1 : (j : Int) < (k : Int) := by omega
          obtain ⟨y, hye⟩ : ∃ y, y = nthE xs j := ⟨_, rfl⟩
          have hye' : (xs[j]?).getD En.zero = y := hye.symm
          rw [hye'] at hc
          subst eb
          have g0 : wr.cell? ⟨b, off + j * 7, none⟩ = some (.int .u32 y.id.1) := hc 0 _ rfl
          have g1 : wr.cell? ⟨b, off + j * 7 + 1, none⟩ = some (.int .u32 y.id.2) := hc 1 _ rfl
          obtain ⟨v, hv⟩ : ∃ v, v = (fstL xs y.id).getD En.zero := ⟨_, rfl⟩
          obtain ⟨o, ho⟩ : ∃ o, o = (fstL xs y.id).isSome := ⟨_, rfl⟩
          have OUT : Hid (∀ W', Below wr.heap.size wr W' → Calls Try.prog 12 #[.pointer (some ⟨W.heap.size, 0, none⟩), .agg #[.int .u32 y.id.1, .int .u32 y.id.2]] W' fun r w' => r = .returned (.tuple #[.agg #[.int .u32 v.id.1, .int .u32 v.id.2, .int .u32 v.home, .int .i64 v.oc, .int .u64 v.w, .int .u32 v.l, .int .u32 v.n], .bool o]) ∧ Below W'.heap.size W' w') := fun W' hb =>
            (outcome_is (HLL.out.later (Below.on HJ.out hb)) y.id).mono fun r w' ⟨f, ok, h1, h2, h3, h4⟩ => by
              have h2' : ok = o := by rw [ho, ← led_fst]; exact h2
              have h3' : f = v := by rw [hv, ← led_fst]; exact h3
              subst h2' h3'
              exact ⟨h1, h4⟩
          have FST : Hid (∀ W', Below wr.heap.size wr W' → Calls Try.prog 13 #[.slice (some ⟨b, off, none⟩) k c, .agg #[.int .u32 y.id.1, .int .u32 y.id.2]] W' fun r w' => r = .returned (.tuple #[.agg #[.int .u32 v.id.1, .int .u32 v.id.2, .int .u32 v.home, .int .i64 v.oc, .int .u64 v.w, .int .u32 v.l, .int .u32 v.n], .bool o]) ∧ Below W'.heap.size W' w') := fun W' hb =>
            (first_is (c := c) (RowC.later HR.out (Below.on HB.out (Below.on HJ.out hb))) HLN.out (by omega) y.id).mono fun r w' ⟨f, ok, h1, h2, h3, h4⟩ => by
              have h2' : ok = o := by rw [ho]; exact h2
              have h3' : f = v := by rw [hv]; exact h3
              subst h2' h3'
              exact ⟨h1, h4⟩
          have qq : ∀ W', (binOp .neq 33 (.agg #[.int .u32 v.id.1, .int .u32 v.id.2, .int .u32 v.home, .int .i64 v.oc, .int .u64 v.w, .int .u32 v.l, .int .u32 v.n]) (.agg #[.int .u32 v.id.1, .int .u32 v.id.2, .int .u32 v.home, .int .i64 v.oc, .int .u64 v.w, .int .u32 v.l, .int .u32 v.n])).run Try.prog W' = .ok (.bool false) W' := fun W' => by have := run_neE v v W'; rw [sameE_self] at this; exact this
          clear hc hye hye' hv ho
          go_wp2_with fail
          refine (OUT.out _ (Below.refl _ _)).mono ?_
          rintro r w4 ⟨rfl, hb4⟩
          obtain ⟨w5, hw5⟩ : ∃ w5, w5 = w4.alloc (.cells #[.int .u32 v.id.1, .int .u32 v.id.2, .int .u32 v.home, .int .i64 v.oc, .int .u64 v.w, .int .u32 v.l, .int .u32 v.n] 33) := ⟨_, rfl⟩
          have hb45 : Below wr.heap.size wr w5 := by rw [hw5]; exact Below.al hb4 _
          have hk5 : w5.heap[w4.heap.size]? = some (.cells #[.int .u32 v.id.1, .int .u32 v.id.2, .int .u32 v.home, .int .i64 v.oc, .int .u64 v.w, .int .u32 v.l, .int .u32 v.n] 33) := by rw [hw5]; exact (MapKept.heap_alloc _ _).1
          have hs5 : w4.heap.size < w5.heap.size := by rw [hw5]; simp
          have g0 := cell_later hb45 g0
          have g1 := cell_later hb45 g1
          have HB45 := hid hb45
          have HK5 := hid hk5
          have y0 : (w4.alloc (.cells #[.int .u32 v.id.1, .int .u32 v.id.2, .int .u32 v.home, .int .i64 v.oc, .int .u64 v.w, .int .u32 v.l, .int .u32 v.n] 33)).cell? ⟨b, off + j * 7, none⟩ = some (.int .u32 y.id.1) := by rw [← hw5]; exact g0
          have y1 : (w4.alloc (.cells #[.int .u32 v.id.1, .int .u32 v.id.2, .int .u32 v.home, .int .i64 v.oc, .int .u64 v.w, .int .u32 v.l, .int .u32 v.n] 33)).cell? ⟨b, off + j * 7 + 1, none⟩ = some (.int .u32 y.id.2) := by rw [← hw5]; exact g1
          clear hb45 hk5 hb4 OUT g0 g1
          go_wp2_with fail
          rw [← hw5]
          clear y0 y1 hw5
          refine (FST.out _ HB45.out).mono ?_
          rintro r w6 ⟨rfl, hb6⟩
          have hk6 := (hb6.block _ hs5).trans HK5.out
          have k0 : (w6.alloc (.cells #[.int .u32 v.id.1, .int .u32 v.id.2, .int .u32 v.home, .int .i64 v.oc, .int .u64 v.w, .int .u32 v.l, .int .u32 v.n] 33)).cell? ⟨w4.heap.size, 0, none⟩ = some (.int .u32 v.id.1) := cell_later (Below.al (Below.refl _ _) _) (cell_of_obj hk6 rfl)
          have k1 : (w6.alloc (.cells #[.int .u32 v.id.1, .int .u32 v.id.2, .int .u32 v.home, .int .i64 v.oc, .int .u64 v.w, .int .u32 v.l, .int .u32 v.n] 33)).cell? ⟨w4.heap.size, 1, none⟩ = some (.int .u32 v.id.2) := cell_later (Below.al (Below.refl _ _) _) (cell_of_obj hk6 rfl)
          have k2 : (w6.alloc (.cells #[.int .u32 v.id.1, .int .u32 v.id.2, .int .u32 v.home, .int .i64 v.oc, .int .u64 v.w, .int .u32 v.l, .int .u32 v.n] 33)).cell? ⟨w4.heap.size, 2, none⟩ = some (.int .u32 v.home) := cell_later (Below.al (Below.refl _ _) _) (cell_of_obj hk6 rfl)
          have k3 : (w6.alloc (.cells #[.int .u32 v.id.1, .int .u32 v.id.2, .int .u32 v.home, .int .i64 v.oc, .int .u64 v.w, .int .u32 v.l, .int .u32 v.n] 33)).cell? ⟨w4.heap.size, 3, none⟩ = some (.int .i64 v.oc) := cell_later (Below.al (Below.refl _ _) _) (cell_of_obj hk6 rfl)
          have k4 : (w6.alloc (.cells #[.int .u32 v.id.1, .int .u32 v.id.2, .int .u32 v.home, .int .i64 v.oc, .int .u64 v.w, .int .u32 v.l, .int .u32 v.n] 33)).cell? ⟨w4.heap.size, 4, none⟩ = some (.int .u64 v.w) := cell_later (Below.al (Below.refl _ _) _) (cell_of_obj hk6 rfl)
          have k5 : (w6.alloc (.cells #[.int .u32 v.id.1, .int .u32 v.id.2, .int .u32 v.home, .int .i64 v.oc, .int .u64 v.w, .int .u32 v.l, .int .u32 v.n] 33)).cell? ⟨w4.heap.size, 5, none⟩ = some (.int .u32 v.l) := cell_later (Below.al (Below.refl _ _) _) (cell_of_obj hk6 rfl)
          have k6 : (w6.alloc (.cells #[.int .u32 v.id.1, .int .u32 v.id.2, .int .u32 v.home, .int .i64 v.oc, .int .u64 v.w, .int .u32 v.l, .int .u32 v.n] 33)).cell? ⟨w4.heap.size, 6, none⟩ = some (.int .u32 v.n) := cell_later (Below.al (Below.refl _ _) _) (cell_of_obj hk6 rfl)
          have hne6 : w4.heap.size ≠ w6.heap.size := by have := hb6.size; omega
          have HB6 : Hid (Below wr.heap.size wr w6) := Below.on HB45.out hb6
          clear hk6 hb6 FST
          cases o with
          | true =>
            go_wp2_with fail
            go_roundg (k - (j + 1))
            case measure => omega
            case rel => exact ⟨j + 1, by omega, rfl, by go_num, Below.on HJ.out (Below.al HB6.out _)⟩
          | false =>
            go_wp2_with fail
            go_roundg (k - (j + 1))
            case measure => omega
            case rel => exact ⟨j + 1, by omega, rfl, by go_num, Below.on HJ.out (Below.al HB6.out _)⟩
        · obtain rfl : j = k := by omega
          rename World => w4
          have HB4 : Hid (Below W.heap.size W w4) := Below.on HB.out HJ.out
          have L4 : Hid (Lg w4 W.heap.size m (ledL xs)) := HLL.out.later HJ.out
          obtain ⟨wx, hwx⟩ : ∃ wx, wx = w4.alloc (.cells #[.int .u32 1, .int .u32 1, .int .u32 0, .int .i64 2, .int .u64 0, .int .u32 0, .int .u32 0] 33) := ⟨_, rfl⟩
          have hbx : Below w4.heap.size w4 wx := by rw [hwx]; exact Below.al (Below.refl _ _) _
          have hkx : wx.heap[w4.heap.size]? = some (.cells #[.int .u32 1, .int .u32 1, .int .u32 0, .int .i64 2, .int .u64 0, .int .u32 0, .int .u32 0] 33) := by rw [hwx]; exact (MapKept.heap_alloc _ _).1
          have hsx : w4.heap.size < wx.heap.size := by rw [hwx]; simp
          obtain ⟨v, hv⟩ : ∃ v, v = (fstL xs (1, 1)).getD En.zero := ⟨_, rfl⟩
          obtain ⟨o, ho⟩ : ∃ o, o = (fstL xs (1, 1)).isSome := ⟨_, rfl⟩
          have HBX := hid hbx
          have HKX := hid hkx
          have FST : Hid (∀ W', Below W.heap.size W W' → Calls Try.prog 13 #[.slice a j c, .agg #[.int .u32 1, .int .u32 1]] W' fun r w' => r = .returned (.tuple #[.agg #[.int .u32 v.id.1, .int .u32 v.id.2, .int .u32 v.home, .int .i64 v.oc, .int .u64 v.w, .int .u32 v.l, .int .u32 v.n], .bool o]) ∧ Below W'.heap.size W' w') := fun W' hb =>
            (first_is (c := c) (RowC.later HR.out hb) HLN.out (by omega) (1, 1)).mono fun r w' ⟨f, ok, h1, h2, h3, h4⟩ => by
              have h2' : ok = o := by rw [ho]; exact h2
              have h3' : f = v := by rw [hv]; exact h3
              subst h2' h3'
              exact ⟨h1, h4⟩
          have LX := L4.out.later HBX.out
          have DEC : Hid (Calls Try.prog 10 #[.pointer (some ⟨W.heap.size, 0, none⟩), .agg #[.int .u32 1, .int .u32 1, .int .u32 0, .int .i64 2, .int .u64 0, .int .u32 0, .int .u32 0]] wx fun r w' => ∃ (f : En) (x : Int), r = .returned (.tuple #[.agg #[.int .u32 f.id.1, .int .u32 f.id.2, .int .u32 f.home, .int .i64 f.oc, .int .u64 f.w, .int .u32 f.l, .int .u32 f.n], .int .i64 x]) ∧ Hid (f = if o then v else oneE) ∧ Hid (o = false → x = 0) ∧ Hid (Below W.heap.size wx w') ∧ Hid (Onl (ItsL W.heap.size m) wx w')) :=
            (decide_is LX oneE).mono fun r w' ⟨m', f, x, h1, h2, h3, h4, h5, h6⟩ => by
              have hmm : mayB oneE = true := rfl
              have h2' : f = decE (ledL xs) oneE := h2
              have h3' : x = decX (ledL xs) oneE := h3
              refine ⟨f, x, h1, ?_, ?_, dec_below LX (Nat.le_refl _) HM.out (Nat.le_trans HB4.out.size HBX.out.size) h6, h6⟩
              · show _ = _
                rw [h2', decE, if_pos hmm, led_fst, hv, ho]
                cases fstL xs oneE.id <;> rfl
              · intro e
                rw [h3', decX, if_pos hmm, led_fst]
                rw [ho] at e
                cases hf : fstL xs oneE.id with
                | none => simp [agrB_self]
                | some g => rw [show ((1, 1) : Ix) = oneE.id from rfl, hf] at e; cases e
          clear hbx hkx hv ho
          go_wp2_with fail
          rw [← hwx]
          clear hwx
          refine DEC.out.mono ?_
          rintro r w5 ⟨f, x, rfl, HF, HX, hb5, hO5⟩
          have hkp : ¬ ItsL W.heap.size m w4.heap.size := ItsL.keep (w' := W) L4.out (Nat.le_refl _)
          have hk5 := (hO5.out.block _ hsx hkp).trans HKX.out
          have HB5 : Hid (Below W.heap.size W w5) := (Below.on HB4.out HBX.out).trans hb5.out
          have p0 : w5.cell? ⟨w4.heap.size, 0, none⟩ = some (.int .u32 1) := cell_of_obj hk5 rfl
          have p1 : w5.cell? ⟨w4.heap.size, 1, none⟩ = some (.int .u32 1) := cell_of_obj hk5 rfl
          have p2 : w5.cell? ⟨w4.heap.size, 2, none⟩ = some (.int .u32 0) := cell_of_obj hk5 rfl
          have p3 : w5.cell? ⟨w4.heap.size, 3, none⟩ = some (.int .i64 2) := cell_of_obj hk5 rfl
          have p4 : w5.cell? ⟨w4.heap.size, 4, none⟩ = some (.int .u64 0) := cell_of_obj hk5 rfl
          have p5 : w5.cell? ⟨w4.heap.size, 5, none⟩ = some (.int .u32 0) := cell_of_obj hk5 rfl
          have p6 : w5.cell? ⟨w4.heap.size, 6, none⟩ = some (.int .u32 0) := cell_of_obj hk5 rfl
          obtain ⟨w6, hw6⟩ : ∃ w6, w6 = w5.alloc (.cells #[.int .u32 f.id.1, .int .u32 f.id.2, .int .u32 f.home, .int .i64 f.oc, .int .u64 f.w, .int .u32 f.l, .int .u32 f.n] 33) := ⟨_, rfl⟩
          have hs5 : w4.heap.size < w5.heap.size := Nat.lt_of_lt_of_le hsx hO5.out.size
          have hne5 : w4.heap.size ≠ w5.heap.size := by omega
          have hb6 : Below w5.heap.size w5 w6 := by rw [hw6]; exact Below.al (Below.refl _ _) _
          have hk6 : w6.heap[w5.heap.size]? = some (.cells #[.int .u32 f.id.1, .int .u32 f.id.2, .int .u32 f.home, .int .i64 f.oc, .int .u64 f.w, .int .u32 f.l, .int .u32 f.n] 33) := by rw [hw6]; exact (MapKept.heap_alloc _ _).1
          have hs6 : w5.heap.size < w6.heap.size := by rw [hw6]; simp
          have HK5 := hid hk5
          have HK6 := hid hk6
          have HB6 := hid hb6
          clear hk5 hk6 hb6 hb5 hO5 DEC
          go_wp2_with fail
          rw [← hw6]
          clear hw6
          refine (FST.out _ (Below.on HB5.out HB6.out)).mono ?_
          rintro r w7 ⟨rfl, hb7⟩
          have hk7 := (hb7.block _ (Nat.lt_trans hs5 hs6)).trans ((HB6.out.block _ hs5).trans HK5.out)
          have hf7 := (hb7.block _ hs6).trans HK6.out
          have q0 : (w7.alloc (.cells #[.int .u32 v.id.1, .int .u32 v.id.2, .int .u32 v.home, .int .i64 v.oc, .int .u64 v.w, .int .u32 v.l, .int .u32 v.n] 33)).cell? ⟨w4.heap.size, 0, none⟩ = some (.int .u32 1) := cell_later (Below.al (Below.refl _ _) _) (cell_of_obj hk7 rfl)
          have q1 : (w7.alloc (.cells #[.int .u32 v.id.1, .int .u32 v.id.2, .int .u32 v.home, .int .i64 v.oc, .int .u64 v.w, .int .u32 v.l, .int .u32 v.n] 33)).cell? ⟨w4.heap.size, 1, none⟩ = some (.int .u32 1) := cell_later (Below.al (Below.refl _ _) _) (cell_of_obj hk7 rfl)
          have q2 : (w7.alloc (.cells #[.int .u32 v.id.1, .int .u32 v.id.2, .int .u32 v.home, .int .i64 v.oc, .int .u64 v.w, .int .u32 v.l, .int .u32 v.n] 33)).cell? ⟨w4.heap.size, 2, none⟩ = some (.int .u32 0) := cell_later (Below.al (Below.refl _ _) _) (cell_of_obj hk7 rfl)
          have q3 : (w7.alloc (.cells #[.int .u32 v.id.1, .int .u32 v.id.2, .int .u32 v.home, .int .i64 v.oc, .int .u64 v.w, .int .u32 v.l, .int .u32 v.n] 33)).cell? ⟨w4.heap.size, 3, none⟩ = some (.int .i64 2) := cell_later (Below.al (Below.refl _ _) _) (cell_of_obj hk7 rfl)
          have q4 : (w7.alloc (.cells #[.int .u32 v.id.1, .int .u32 v.id.2, .int .u32 v.home, .int .i64 v.oc, .int .u64 v.w, .int .u32 v.l, .int .u32 v.n] 33)).cell? ⟨w4.heap.size, 4, none⟩ = some (.int .u64 0) := cell_later (Below.al (Below.refl _ _) _) (cell_of_obj hk7 rfl)
          have q5 : (w7.alloc (.cells #[.int .u32 v.id.1, .int .u32 v.id.2, .int .u32 v.home, .int .i64 v.oc, .int .u64 v.w, .int .u32 v.l, .int .u32 v.n] 33)).cell? ⟨w4.heap.size, 5, none⟩ = some (.int .u32 0) := cell_later (Below.al (Below.refl _ _) _) (cell_of_obj hk7 rfl)
          have q6 : (w7.alloc (.cells #[.int .u32 v.id.1, .int .u32 v.id.2, .int .u32 v.home, .int .i64 v.oc, .int .u64 v.w, .int .u32 v.l, .int .u32 v.n] 33)).cell? ⟨w4.heap.size, 6, none⟩ = some (.int .u32 0) := cell_later (Below.al (Below.refl _ _) _) (cell_of_obj hk7 rfl)
          have u0 : (w7.alloc (.cells #[.int .u32 v.id.1, .int .u32 v.id.2, .int .u32 v.home, .int .i64 v.oc, .int .u64 v.w, .int .u32 v.l, .int .u32 v.n] 33)).cell? ⟨w5.heap.size, 0, none⟩ = some (.int .u32 f.id.1) := cell_later (Below.al (Below.refl _ _) _) (cell_of_obj hf7 rfl)
          have u1 : (w7.alloc (.cells #[.int .u32 v.id.1, .int .u32 v.id.2, .int .u32 v.home, .int .i64 v.oc, .int .u64 v.w, .int .u32 v.l, .int .u32 v.n] 33)).cell? ⟨w5.heap.size, 1, none⟩ = some (.int .u32 f.id.2) := cell_later (Below.al (Below.refl _ _) _) (cell_of_obj hf7 rfl)
          have u2 : (w7.alloc (.cells #[.int .u32 v.id.1, .int .u32 v.id.2, .int .u32 v.home, .int .i64 v.oc, .int .u64 v.w, .int .u32 v.l, .int .u32 v.n] 33)).cell? ⟨w5.heap.size, 2, none⟩ = some (.int .u32 f.home) := cell_later (Below.al (Below.refl _ _) _) (cell_of_obj hf7 rfl)
          have u3 : (w7.alloc (.cells #[.int .u32 v.id.1, .int .u32 v.id.2, .int .u32 v.home, .int .i64 v.oc, .int .u64 v.w, .int .u32 v.l, .int .u32 v.n] 33)).cell? ⟨w5.heap.size, 3, none⟩ = some (.int .i64 f.oc) := cell_later (Below.al (Below.refl _ _) _) (cell_of_obj hf7 rfl)
          have u4 : (w7.alloc (.cells #[.int .u32 v.id.1, .int .u32 v.id.2, .int .u32 v.home, .int .i64 v.oc, .int .u64 v.w, .int .u32 v.l, .int .u32 v.n] 33)).cell? ⟨w5.heap.size, 4, none⟩ = some (.int .u64 f.w) := cell_later (Below.al (Below.refl _ _) _) (cell_of_obj hf7 rfl)
          have u5 : (w7.alloc (.cells #[.int .u32 v.id.1, .int .u32 v.id.2, .int .u32 v.home, .int .i64 v.oc, .int .u64 v.w, .int .u32 v.l, .int .u32 v.n] 33)).cell? ⟨w5.heap.size, 5, none⟩ = some (.int .u32 f.l) := cell_later (Below.al (Below.refl _ _) _) (cell_of_obj hf7 rfl)
          have u6 : (w7.alloc (.cells #[.int .u32 v.id.1, .int .u32 v.id.2, .int .u32 v.home, .int .i64 v.oc, .int .u64 v.w, .int .u32 v.l, .int .u32 v.n] 33)).cell? ⟨w5.heap.size, 6, none⟩ = some (.int .u32 f.n) := cell_later (Below.al (Below.refl _ _) _) (cell_of_obj hf7 rfl)
          have hn1 : w4.heap.size ≠ w7.heap.size := by have := hb7.size; omega
          have hn2 : w5.heap.size ≠ w7.heap.size := by have := hb7.size; omega
          have HB7 : Hid (Below W.heap.size W w7) := Below.on (Below.on HB5.out HB6.out) hb7
          clear hk7 hf7 hb7 FST p0 p1 p2 p3 p4 p5 p6
          cases o with
          | true =>
            have hfv : f = v := HF.out
            subst hfv
            have qq : ∀ W', (binOp .eql 33 (.agg #[.int .u32 f.id.1, .int .u32 f.id.2, .int .u32 f.home, .int .i64 f.oc, .int .u64 f.w, .int .u32 f.l, .int .u32 f.n]) (.agg #[.int .u32 f.id.1, .int .u32 f.id.2, .int .u32 f.home, .int .i64 f.oc, .int .u64 f.w, .int .u32 f.l, .int .u32 f.n])).run Try.prog W' = .ok (.bool true) W' := fun W' => by have := run_eqE f f W'; rw [sameE_self] at this; exact this
            go_wp2_with fail
            go_ret
            exact ⟨by simp, Below.al HB7.out _⟩
          | false =>
            have hfv : f = oneE := HF.out
            have hx0 : x = 0 := HX.out rfl
            subst hfv hx0
            have qq : ∀ W', (binOp .eql 33 (.agg #[.int .u32 1, .int .u32 1, .int .u32 0, .int .i64 2, .int .u64 0, .int .u32 0, .int .u32 0]) (.agg #[.int .u32 1, .int .u32 1, .int .u32 0, .int .i64 2, .int .u64 0, .int .u32 0, .int .u32 0])).run Try.prog W' = .ok (.bool true) W' := fun W' => by have := run_eqE oneE oneE W'; rw [sameE_self] at this; exact this
            go_wp2_with fail
            go_ret
            exact ⟨by simp, Below.al HB7.out _⟩
end Go.Proofs.Ytogjhpknlopajaa.Lg
