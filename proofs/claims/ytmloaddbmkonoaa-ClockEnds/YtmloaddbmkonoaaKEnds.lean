import Derived.Test.YtmloaddbmkonoaaKBox
namespace Go.Proofs.Ytmloaddbmkonoaa
open Go.RowKit Go.Sort
set_option linter.unusedVariables false

/-- the argument's box and two clocks -/
structure TwoAt (w W : World) (N p q : Nat) (vs : List Value) (c d : Ck) : Prop where
  below : Below w.heap.size w W
  box : BoxAt W N vs
  ck : ClockAt W p c
  dk : ClockAt W q d
  n0 : w.heap.size ≤ N
  np : N ≠ p
  nq : N ≠ q
  pq : p ≠ q
  p0 : w.heap.size ≤ p
  q0 : w.heap.size ≤ q

theorem TwoAt.later {w W W' : World} {N p q : Nat} {vs : List Value} {c d : Ck} (R : TwoAt w W N p q vs c d) (hb : Below W.heap.size W W') : TwoAt w W' N p q vs c d :=
  ⟨Below.on R.below hb, R.box.later hb, R.ck.later hb, R.dk.later hb, R.n0, R.np, R.nq, R.pq, R.p0, R.q0⟩
theorem TwoAt.onC {w W W' : World} {N p q : Nat} {vs : List Value} {c d c' : Ck} (R : TwoAt w W N p q vs c d) (hb : Only p W W') (h : ClockAt W' p c') : TwoAt w W' N p q vs c' d :=
  ⟨R.below.trans (hb.below R.p0 R.below.size), R.box.only hb R.np, h, R.dk.only hb (fun e => R.pq e.symm), R.n0, R.np, R.nq, R.pq, R.p0, R.q0⟩
theorem TwoAt.onD {w W W' : World} {N p q : Nat} {vs : List Value} {c d d' : Ck} (R : TwoAt w W N p q vs c d) (hb : Only q W W') (h : ClockAt W' q d') : TwoAt w W' N p q vs c d' :=
  ⟨R.below.trans (hb.below R.q0 R.below.size), R.box.only hb R.nq, R.ck.only hb R.pq, h, R.n0, R.np, R.nq, R.pq, R.p0, R.q0⟩

set_option maxHeartbeats 4000000 in
theorem ends_walk (a b d n g r E : Int) (w : World) (hs : StB a b d) (hn : U32 n) (hg : U64 g) (hr : U64 r) (he : obsE ⟨a, b, d⟩ = E) (hx : (E == 0) = (a != 18446744073709551615)) :
    Calls Try.prog 5 #[.agg #[.int .u64 a, .int .u32 b, .int .u32 d, .int .u32 n, .int .u64 g, .int .u64 r]] w fun e w' => e = .returned (.bool true) ∧ Below w.heap.size w w' := by
  have HS := hid hs
  have HE := hid he
  have z64 : U64 0 := ⟨by decide, by decide⟩
  have t64 : U64 18446744073709551615 := ⟨by decide, by decide⟩
  have kok : ∀ x ri (l : St), U64 x → U64 ri → l.ok → Ck.ok ⟨g, x, n, ri, l⟩ := fun x ri l h1 h2 h3 => ⟨hg, h1, hn, h2, h3⟩
  have HR := hid hr
  have o1 : Hid (obsC ⟨g, 18446744073709551615, n, r, ⟨18446744073709551615, 0, 0⟩⟩ ⟨a, b, d⟩ = ⟨g, 18446744073709551615, n, r, ⟨18446744073709551615, 0, 0⟩⟩) := by
    show _ = _
    unfold obsC
    split
    · rfl
    · rename_i hne
      have hl : St.less ⟨18446744073709551615, 0, 0⟩ ⟨a, b, d⟩ = false := by
        unfold St.less
        rw [lessB_iff_false]
        dsimp only at hne ⊢
        have := hs.1.2
        omega
      rw [hl]; rfl
  have t1 : Hid (tickN ⟨g, 18446744073709551615, n, r, ⟨18446744073709551615, 0, 0⟩⟩ = ⟨0, 0, 0, 11⟩) := by
    show _ = _
    unfold tickN
    have := hr.2
    rw [if_pos (show r ≤ 18446744073709551615 from this), nxt_top rfl]
  have o2 : Hid (obsC ⟨g, 0, n, 0, ⟨0, 0, 0⟩⟩ ⟨18446744073709551615, b, d⟩ = ⟨g, 0, n, 0, ⟨0, 0, 0⟩⟩) := by
    show _ = _
    unfold obsC; rw [if_pos rfl]
  have o3 : Hid (obsC ⟨g, 0, n, 0, ⟨0, 0, 0⟩⟩ ⟨18446744073709551614, 4294967294, d⟩ = ⟨g, 0, n, 0, ⟨18446744073709551614, 4294967294, d⟩⟩) := by
    show _ = _
    unfold obsC; rw [if_neg (show ¬ (18446744073709551614 : Int) = 18446744073709551615 by decide)]
    have : St.less ⟨0, 0, 0⟩ ⟨18446744073709551614, 4294967294, d⟩ = true := lessB_iff.2 (.inl (show (0 : Int) < 18446744073709551614 by decide))
    rw [this]; rfl
  have t2 : Hid (tickN ⟨g, 0, n, 0, ⟨18446744073709551614, 4294967294, d⟩⟩ = ⟨18446744073709551614, 4294967295, n, 0⟩) := by
    show _ = _
    unfold tickN
    rw [if_pos (show (0 : Int) ≤ 18446744073709551614 by decide), nxt_in (show ¬ (18446744073709551614 : Int) = 18446744073709551615 by decide) (show (4294967294 : Int) < 4294967295 by decide)]; rfl
  have t3 : Hid (tickN ⟨g, 0, n, r, ⟨18446744073709551614, 4294967295, n⟩⟩ = ⟨0, 0, 0, 11⟩) := by
    show _ = _
    unfold tickN
    by_cases h : r ≤ 18446744073709551614
    · rw [if_pos h, nxt_end (show ¬ (18446744073709551614 : Int) = 18446744073709551615 by decide) (show ¬ (4294967295 : Int) < 4294967295 by decide) (by decide)]
    · have : r = 18446744073709551615 := by have := hr.2; omega
      rw [if_neg h, if_pos this]
  have m2 : mustB ⟨g, 0, n, 0, ⟨0, 0, 0⟩⟩ 18446744073709551615 = false := by simp [mustB]
  have n2 : needN ⟨g, 0, n, 0, ⟨0, 0, 0⟩⟩ 18446744073709551615 = 0 := by simp [needN, m2]
  have e2 : Hid (obsE ⟨18446744073709551615, b, d⟩ = 11) := by show _ = _; unfold obsE; rw [if_pos rfl]
  have e3 : Hid (obsE ⟨18446744073709551614, 4294967294, d⟩ = 0) := by
    show _ = _
    unfold obsE; rw [if_neg (show ¬ (18446744073709551614 : Int) = 18446744073709551615 by decide)]
  have q1 : ∀ w, (binOp .neq 30 (stv 18446744073709551615 0 0) (stv 18446744073709551615 0 0)).run Try.prog w = .ok (.bool false) w := fun w => by rw [run_ne, sameB_self]; rfl
  have q2 : ∀ w, (binOp .neq 30 (stv 0 0 0) (stv 0 0 0)).run Try.prog w = .ok (.bool false) w := fun w => by rw [run_ne, sameB_self]; rfl
  have q3 : ∀ w, (binOp .neq 30 (stv 18446744073709551614 4294967295 n) (stv 18446744073709551614 4294967295 n)).run Try.prog w = .ok (.bool false) w := fun w => by rw [run_ne, sameB_self]; rfl
  have l1 : U64 18446744073709551614 := ⟨by decide, by decide⟩
  have l2 : U32 4294967294 := ⟨by decide, by decide⟩
  have l3 : U32 4294967295 := ⟨by decide, by decide⟩
  have z32 : U32 0 := ⟨by decide, by decide⟩
  have s1 : Hid (Ck.ok ⟨g, 0, n, 0, ⟨0, 0, 0⟩⟩) := kok _ _ _ z64 z64 ⟨z64, z32, z32⟩
  have s2 : Hid (Ck.ok ⟨g, 0, n, 0, ⟨18446744073709551614, 4294967294, d⟩⟩) := kok _ _ _ z64 z64 ⟨l1, l2, hs.2.2⟩
  have s3 : Hid (Ck.ok ⟨g, 0, n, r, ⟨18446744073709551614, 4294967295, n⟩⟩) := kok _ _ _ z64 hr ⟨l1, l3, hn⟩
  have s4 : Hid (Ck.ok ⟨g, 18446744073709551615, n, r, ⟨18446744073709551615, 0, 0⟩⟩) := kok _ _ _ t64 hr ⟨t64, z32, z32⟩
  have s5 : Hid (St.ok ⟨18446744073709551615, b, d⟩) := ⟨t64, hs.2⟩
  have tc : Hid (tickC ⟨g, 0, n, 0, ⟨18446744073709551614, 4294967294, d⟩⟩ = ⟨g, 0, n, 0, ⟨18446744073709551614, 4294967295, n⟩⟩) := tickC_yes t2.out rfl
  have M2 := hid m2
  have N2 := hid n2
  clear he hg kok m2 n2 hs hn hr z64 t64 l1 l2 l3 z32
  go_enter Try.func5, Try.ntmps5
  go_wp2_with (first
    | (go_at_call 16; refine (new_at (q := w.heap.size + 1) (by simp)).mono ?_; rintro e w1 ⟨rfl, hb1, hc1⟩; have B1 := (box_at w [.int .u64 a, .int .u32 b, .int .u32 d, .int .u32 n, .int .u64 g, .int .u64 r] 43).later hb1; have hw1 := Below.on (al_below w _) hb1; have x3 := B1 3 _ rfl; have x4 := B1 4 _ rfl; have hsz : w.heap.size + 1 < w1.heap.size := hc1.lt)
    | (go_at_call 9; refine (reopen_at rfl).mono ?_; rintro e w2 ⟨rfl, hb2, hd2⟩; have R2 : Hid (TwoAt w w2 w.heap.size (w.heap.size + 1) w1.heap.size _ _ _) := hid ⟨Below.on hw1 hb2, B1.later hb2, hc1.later hb2, hd2, Nat.le_refl _, (by omega), (by omega), (by omega), (by omega), hw1.size⟩; have x5 := R2.out.box 5 _ rfl; clear hb1 hc1 B1 hb2 hd2 x3 x4)
    | (have hh := R2; go_at_call 10; refine (read_any _ _ r _ R2.out.dk).mono ?_; rintro e w3 ⟨rfl, ho, hk⟩; have R3 := hid (R2.out.onD ho hk); have x0 := R3.out.box 0 _ rfl; have x1 := R3.out.box 1 _ rfl; have x2 := R3.out.box 2 _ rfl; clear ho hk hh R2 x5)
    | (have hh := R3; go_at_call 12; refine (observe_is HE.out o1.out _ R3.out.dk s4.out).mono ?_; rintro e w4 ⟨rfl, ho, hk⟩; have R4 := hid (R3.out.onD ho hk); have x0 := R4.out.box 0 _ rfl; have x1 := R4.out.box 1 _ rfl; have x2 := R4.out.box 2 _ rfl; clear ho hk hh R3)
    | (have hh := R4; go_at_call 13; refine (last_any _ _ _ R4.out.dk).mono ?_; rintro e w5 ⟨rfl, hb⟩; have R5 := hid (R4.out.later hb); have x1 := R5.out.box 1 _ rfl; have x2 := R5.out.box 2 _ rfl; clear hb hh R4)
    | (have hh := R5; go_at_call 17; refine (refuses_any _ _ _ R5.out.dk s4.out t1.out).mono ?_; rintro e w6 ⟨rfl, ho, hk⟩; have R6 := hid (R5.out.onD ho hk); have x1 := R6.out.box 1 _ rfl; have x2 := R6.out.box 2 _ rfl; have hs6 : w.heap.size + 1 < w6.heap.size := R6.out.ck.lt; clear ho hk hh R5)
    | (have hh := R6; go_at_call 12; refine (observe_is e2.out o2.out _ (R6.out.ck.later (w3c_below w6 18446744073709551615 b d)) s1.out).mono ?_; rintro e w7 ⟨rfl, ho, hk⟩; have R7 := hid ((R6.out.later (w3c_below w6 18446744073709551615 b d)).onC ho hk); have ⟨y0, y1, y2⟩ := (w3c_at w6 18446744073709551615 b d).only ho (by omega); clear ho hk hh R6))
  clear x0 x1 x2
  have ky0 := cell_regrown y0; have ky1 := cell_regrown y1; have ky2 := cell_regrown y2
  refine wp_region_quiet_below (by kernel_rfl) (by kernel_rfl) ?_
  repeat (go_big_quiet_step ((go_at_call 18; exact Calls.regrown_of (need_is (s := ⟨18446744073709551615, b, d⟩) N2.out M2.out _ (R7.out.ck.later (below_regrown _ _ _)) s1.out s5.out))))
  refine wpQuiet_nil ?_
  intro w8 hw
  have R8 := hid (R7.out.later (below_of_regrown hw))
  clear hw R7 y0 y1 y2 ky0 ky1 ky2
  go_wp2_with (first
    | (have hh := R8; go_at_call 13; refine (last_any _ _ _ R8.out.ck).mono ?_; rintro e w9 ⟨rfl, hb⟩; have R9 := hid (R8.out.later hb); have x2 := R9.out.box 2 _ rfl; clear hb hh R8)
    | (have hh := R9; go_at_call 12; refine (observe_is e3.out o3.out _ R9.out.ck s1.out).mono ?_; rintro e w10 ⟨rfl, ho, hk⟩; have R10 := hid (R9.out.onC ho hk); clear ho hk hh R9 x2)
    | (have hh := R10; go_at_call 11; refine (tick_is t2.out _ R10.out.ck s2.out).mono ?_; rw [tc.out]; rintro e w11 ⟨rfl, ho, hk⟩; have R11 := hid (R10.out.onC ho hk); have x3 := R11.out.box 3 _ rfl; have x5 := R11.out.box 5 _ rfl; have hs11 : w.heap.size < w11.heap.size := Nat.lt_of_succ_lt R11.out.ck.lt; clear ho hk hh R10)
    | (have hh := R11; go_at_call 10; refine (read_any _ _ r _ (R11.out.ck.later (w3c_below w11 18446744073709551614 4294967295 n))).mono ?_; rintro e w12 ⟨rfl, ho, hk⟩; have R12 := hid ((R11.out.later (w3c_below w11 18446744073709551614 4294967295 n)).onC ho hk); clear ho hk hh R11 x3 x5)
    | (have hh := R12; go_at_call 17; refine (refuses_any _ _ _ R12.out.ck s3.out t3.out).mono ?_; rintro e w13 ⟨rfl, ho, hk⟩; have R13 := hid (R12.out.onC ho hk); clear ho hk hh R12))
  go_ret
  exact ⟨rfl, R13.out.below⟩

end Go.Proofs.Ytmloaddbmkonoaa
