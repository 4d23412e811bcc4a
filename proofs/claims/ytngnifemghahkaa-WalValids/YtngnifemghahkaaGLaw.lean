import Derived.Test.YtngnifemghahkaaGOver
namespace Go.Proofs.Ytngnifemghahkaa
open Go.RowKit Go.Sort
set_option linter.unusedVariables false

/-- what the law asks of the program -/
def FaceV : Prop := ∀ (w : World) (m : Rg), m.ok w → Calls Try.prog 5 #[m.val] w fun e w' => e = .returned (.int .i64 m.err) ∧ Below w.heap.size w w'
theorem own_valid (m : Rg) (g1 g2 : Nat) : (m.own g1 g2).valid = m.valid := by
  unfold Rg.valid Rg.named Rg.rules
  show (sameR (m.own g1 g2) (if m.k = 1 then _ else if m.k = 2 then _ else if m.k = 3 then _ else if m.k = 4 then _ else if m.k = 5 then _ else _) && _) = _
  by_cases g1' : m.k = 1
  · rw [if_pos g1', if_pos g1']; rfl
  rw [if_neg g1', if_neg g1']
  by_cases g2' : m.k = 2
  · rw [if_pos g2', if_pos g2']; rfl
  rw [if_neg g2', if_neg g2']
  by_cases g3' : m.k = 3
  · rw [if_pos g3', if_pos g3']; rfl
  rw [if_neg g3', if_neg g3']
  by_cases g4' : m.k = 4
  · rw [if_pos g4', if_pos g4']; rfl
  rw [if_neg g4', if_neg g4']
  by_cases g5' : m.k = 5
  · rw [if_pos g5', if_pos g5']; rfl
  rw [if_neg g5', if_neg g5']; rfl
theorem own_err (m : Rg) (g1 g2 : Nat) : (m.own g1 g2).err = m.err := by unfold Rg.err; rw [own_valid]

/-- behind over: another record at the same places -/
theorem over_other {m : Rg} {w' : World} {g1 g2 : Nat} {xs : List T2} {ys : List Wr} (hx : xs.length = m.rs.length) (hy : ys.length = m.ws.length) (h1 : Row2 w' (some ⟨g1, 0, none⟩) xs) (h2 : RowW w' (some ⟨g2, 0, none⟩) ys) (hl : m.rs.length ≤ 9223372036854775807) (hl2 : m.ws.length ≤ 9223372036854775807) (hrg : 0 ≤ m.s ∧ 0 ≤ m.w ∧ m.w ≤ 18446744073709551615) :
    ∃ n : Rg, n.val = (m.own g1 g2).val ∧ n.ok w' := by
  refine ⟨{ m.own g1 g2 with rs := xs, ws := ys }, ?_, ⟨h1, h2, by rw [show ({ m.own g1 g2 with rs := xs, ws := ys } : Rg).rs = xs from rfl, hx]; exact hl, by rw [show ({ m.own g1 g2 with rs := xs, ws := ys } : Rg).ws = ys from rfl, hy]; exact hl2, hrg⟩⟩
  show Value.agg #[_, _, _, _, _, _, _, _, _, .slice _ xs.length _, .slice _ ys.length _, _] = _
  rw [hx, hy]
  rfl

set_option maxHeartbeats 8000000 in
set_option maxRecDepth 4000 in
theorem law_valids (V : FaceV) {m : Rg} {w : World} (h : m.ok w) (hl : m.rs.length + 1 ≤ 8796093022208) (hl2 : m.ws.length + 1 ≤ 7036874417766) :
    Calls Try.prog 3 #[m.val] w fun e w' => e = .returned (.bool true) ∧ Below w.heap.size w w' := by
  obtain ⟨wa, hwa⟩ : ∃ wa, wa = w.alloc (.cells m.cells 33) := ⟨_, rfl⟩
  have hba : Below w.heap.size w wa := by rw [hwa]; exact Below.al (Below.refl _ _) _
  have hbx : BoxG wa w.heap.size m := by rw [hwa]; exact boxG w m _
  have HV : Hid FaceV := V
  have H := hid h
  have HOK := hid (h.later hba)
  have HBX := hid hbx
  have HBA := hid hba
  have HW := hid hwa
  clear h V hwa hba hbx
  go_enter Try.func3, Try.ntmps3
  go_wp2_with fail
  rw [← HW.out]
  refine (copied_is HOK.out hl hl2).mono ?_
  rintro e w1 ⟨g1, g2, rfl, hr1, hr2, hne⟩
  have hb1 := hr1.bl
  obtain ⟨w2, hw2⟩ : ∃ w2, w2 = w1.alloc (.cells (m.own g1 g2).cells 33) := ⟨_, rfl⟩
  have hb2 : Below w1.heap.size w1 w2 := by rw [hw2]; exact Below.al (Below.refl _ _) _
  have hx2 : BoxG w2 w1.heap.size (m.own g1 g2) := by rw [hw2]; exact boxG w1 _ _
  have hm2 : BoxG w2 w.heap.size m := (HBX.out.later hb1).later hb2
  have hokm : m.ok w2 := (HOK.out.later hb1).later hb2
  have hR1 := hr1.later hb2
  have hR2 := hr2.later hb2
  have hoko : (m.own g1 g2).ok w2 := own_ok hokm hR1 hR2
  obtain ⟨q, hq⟩ : ∃ q, q = w1.heap.size := ⟨_, rfl⟩
  have hq1 : q ≠ g1 := by have := hr1.lt; omega
  have hq2 : q ≠ g2 := by have := hr2.lt; omega
  have hlow1 : wa.heap.size ≤ g1 := hr1.low
  have hlow2 : wa.heap.size ≤ g2 := hr2.low
  have hmq : w.heap.size < wa.heap.size := World.block_lt_of_cell? _ _ HBX.out.c0
  have hbw2 : Below w.heap.size w w2 := Below.on (Below.on HBA.out hb1) hb2
  rw [← hq] at hx2
  obtain ⟨O, hO⟩ : ∃ O, O = m.own g1 g2 := ⟨_, rfl⟩
  have HO := hid hO
  rw [← hO] at hx2 hoko
  have HW2 : Hid (w2 = w1.alloc (.cells O.cells 33)) := by show _ = _; rw [hw2, hO]
  have H2 : Hid (BoxG w2 q O ∧ BoxG w2 w.heap.size m ∧ m.ok w2 ∧ O.ok w2 ∧ Room2 wa w2 g1 m.rs ∧ RoomW wa w2 g2 m.ws ∧ g1 ≠ g2 ∧ Below w.heap.size w w2) := ⟨hx2, hm2, hokm, hoko, hR1, hR2, hne, hbw2⟩
  have HQ := hid hq
  have HE : Hid (O.err = m.err) := by show _ = _; rw [hO]; exact own_err m g1 g2
  rw [← hO]
  clear hr1 hr2 hne hb1 hw2 hb2 hx2 hm2 hokm hR1 hR2 hoko hq hO hbw2
  go_wp2_with fail
  rw [← HW2.out, ← HQ.out]
  refine (HV.out w2 O H2.out.2.2.2.1).mono ?_
  rintro e w3 ⟨rfl, hb3⟩
  rw [HE.out]
  have HB3 := hid hb3
  have hm3 := H2.out.2.1.later hb3
  have a0 := hm3.c0; have a1 := hm3.c1; have a2 := hm3.c2; have a3 := hm3.c3; have a4 := hm3.c4; have a5 := hm3.c5; have a6 := hm3.c6; have a7 := hm3.c7; have a8 := hm3.c8; have a9 := hm3.c9; have a10 := hm3.c10; have a11 := hm3.c11
  clear hb3 hm3
  go_wp2_with fail
  refine (refValid_is (H2.out.2.2.1.later HB3.out)).mono ?_
  rintro e w4 ⟨rfl, hb4⟩
  have HB4 := hid (Below.on HB3.out hb4)
  have hm4 := H2.out.2.1.later HB4.out
  have ho4 := H2.out.1.later HB4.out
  have b0 := hm4.c0; have b1 := hm4.c1; have b2 := hm4.c2; have b3 := hm4.c3; have b4 := hm4.c4; have b5 := hm4.c5; have b6 := hm4.c6; have b7 := hm4.c7; have b8 := hm4.c8; have b9 := hm4.c9; have b10 := hm4.c10; have b11 := hm4.c11
  have d0 := ho4.c0; have d1 := ho4.c1; have d2 := ho4.c2; have d3 := ho4.c3; have d4 := ho4.c4; have d5 := ho4.c5; have d6 := ho4.c6; have d7 := ho4.c7; have d8 := ho4.c8; have d9 := ho4.c9; have d10 := ho4.c10; have d11 := ho4.c11
  have HLF : Hid (Calls Try.prog 7 #[O.val, m.val] w4 fun e w' => e = .returned (.bool true) ∧ Below w4.heap.size w4 w') := by
    rw [HO.out]; exact left_is (H2.out.2.2.1.later HB4.out) (H2.out.2.2.2.2.1.later HB4.out) (H2.out.2.2.2.2.2.1.later HB4.out) hl hl2
  clear hb4 hm4 ho4 a0 a1 a2 a3 a4 a5 a6 a7 a8 a9 a10 a11
  go_wp2_with fail
  refine HLF.out.mono ?_
  rintro e w5 ⟨rfl, hb5⟩
  have HB5 := hid (Below.on HB4.out hb5)
  have ho5 := H2.out.1.later HB5.out
  have x0 := ho5.c0; have x1 := ho5.c1; have x2 := ho5.c2; have x3 := ho5.c3; have x4 := ho5.c4; have x5 := ho5.c5; have x6 := ho5.c6; have x7 := ho5.c7; have x8 := ho5.c8; have x9 := ho5.c9; have x10 := ho5.c10; have x11 := ho5.c11
  have HOV : Hid (Calls Try.prog 8 #[O.val] w5 fun e w' => e = .returned (.tuple #[]) ∧ Onl (fun k => k = g1 ∨ k = g2) w5 w' ∧ ∃ xs ys, xs.length = m.rs.length ∧ ys.length = m.ws.length ∧ Row2 w' (some ⟨g1, 0, none⟩) xs ∧ RowW w' (some ⟨g2, 0, none⟩) ys) := by
    rw [HO.out]; exact over_is (H2.out.2.2.2.2.1.later HB5.out) (H2.out.2.2.2.2.2.1.later HB5.out) H2.out.2.2.2.2.2.2.1 hl hl2
  clear hb5 ho5 HLF b0 b1 b2 b3 b4 b5 b6 b7 b8 b9 b10 b11 d0 d1 d2 d3 d4 d5 d6 d7 d8 d9 d10 d11
  go_wp2_with fail
  refine HOV.out.mono ?_
  rintro e w6 ⟨rfl, ho6, xs, ys, hxl, hyl, hrx, hry⟩
  obtain ⟨n, hn, hnok⟩ := over_other (m := m) hxl hyl hrx hry (by omega) (by omega) HOK.out.rg
  have hbw6 : Below w.heap.size w w6 := (Below.on H2.out.2.2.2.2.2.2.2 HB5.out).trans (ho6.below (fun k hk => by rcases hk with e | e <;> omega) (Below.on H2.out.2.2.2.2.2.2.2 HB5.out).size)
  have hox : BoxG w6 q O := (H2.out.1.later HB5.out).onl ho6 (fun hk => by rcases hk with e | e; exact hq1 e; exact hq2 e)
  rw [← HO.out] at hn
  have hcs : n.cells = O.cells := by injection hn
  have hnx : BoxG w6 q n := by
    have e0 : BoxG w6 q O := hox
    simp only [Rg.cells] at hcs
    injection hcs with hcs
    injection hcs with i0 hcs
    injection hcs with i1 hcs
    injection hcs with i2 hcs
    injection hcs with i3 hcs
    injection hcs with i4 hcs
    injection hcs with i5 hcs
    injection hcs with i6 hcs
    injection hcs with i7 hcs
    injection hcs with i8 hcs
    injection hcs with i9 hcs
    injection hcs with i10 hcs
    injection hcs with i11 hcs
    exact ⟨by rw [i0]; exact e0.c0, by rw [i1]; exact e0.c1, by rw [i2]; exact e0.c2, by rw [i3]; exact e0.c3, by rw [i4]; exact e0.c4, by rw [i5]; exact e0.c5, by rw [i6]; exact e0.c6, by rw [i7]; exact e0.c7, by rw [i8]; exact e0.c8, by rw [i9]; exact e0.c9, by rw [i10]; exact e0.c10, by rw [i11]; exact e0.c11⟩
  have HN := hid hnok
  have HBW := hid hbw6
  have k0 := cell_regrown hnx.c0; have k1 := cell_regrown hnx.c1; have k2 := cell_regrown hnx.c2; have k3 := cell_regrown hnx.c3; have k4 := cell_regrown hnx.c4; have k5 := cell_regrown hnx.c5; have k6 := cell_regrown hnx.c6; have k7 := cell_regrown hnx.c7; have k8 := cell_regrown hnx.c8; have k9 := cell_regrown hnx.c9; have k10 := cell_regrown hnx.c10; have k11 := cell_regrown hnx.c11
  clear ho6 hxl hyl hrx hry hn hnok hbw6 hox hcs hnx HOV x0 x1 x2 x3 x4 x5 x6 x7 x8 x9 x10 x11
  go_wp2_with fail
  refine wp_region_quiet_below (by kernel_rfl) (by kernel_rfl) ?_
  repeat (go_big_quiet_step (first | (go_at_call 5; exact Calls.regrown_of (HV.out _ n (HN.out.later (below_regrown _ _ _)))) | (go_at_call 6; exact Calls.regrown_of (refValid_is (HN.out.later (below_regrown _ _ _))))))
  refine wpQuiet_nil ?_
  intro w7 hw7
  replace hw7 := below_of_regrown hw7
  have HB7 := hid (Below.on HBW.out hw7)
  clear hw7 k0 k1 k2 k3 k4 k5 k6 k7 k8 k9 k10 k11
  go_wp2_with fail
  go_ret
  exact ⟨ret_bool (by simp), HB7.out⟩

end Go.Proofs.Ytngnifemghahkaa
