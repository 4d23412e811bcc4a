import Derived.Test.YtfafkohghgliaaaTuCmpV
import Derived.Test.YtfafkohghgliaaaTuCmpL
namespace Go.Proofs.Ytfafkohghgliaaa.Tu
open Go.RowKit Go.Sort Go.Proofs.Ytfafkohghgliaaa
set_option linter.unusedVariables false
set_option linter.unusedSectionVars false
variable [DecidableEq Vl]
set_option maxRecDepth 100000 in
set_option maxHeartbeats 4000000 in
theorem cmpfunc_is {a b : Option Addr} {c d : Nat} {xs ys : List Vl} {w : World} (h : RowV w a xs) (k : RowV w b ys) (hx : OkT xs) (hy : OkT ys) (hl : xs.length ≤ 4611686018427387904) (hl2 : ys.length ≤ 4611686018427387904) :
    Calls Try.prog 13 #[.slice a xs.length c, .slice b ys.length d, .func (.func 14) #[] #[]] w fun e w' => e = .returned (.int .i64 (cmpT xs ys)) ∧ Below w.heap.size w w' := by
  obtain ⟨n, hn⟩ : ∃ n, n = xs.length := ⟨_, rfl⟩
  obtain ⟨m, hm⟩ : ∃ m, m = ys.length := ⟨_, rfl⟩
  have HA := hid (show _ ∧ _ ∧ _ ∧ _ from ⟨h, k, hn, hm⟩)
  have HO := hid (show _ ∧ _ from ⟨hx, hy⟩)
  rw [← hn] at hl ⊢
  rw [← hm] at hl2 ⊢
  clear h k hn hm hx hy
  go_enter Try.func13, Try.ntmps13
  go_wp2_with fail
  go_loopg [7, 8, 9, 10, 13] n (fun g s7 s8 s9 s10 s13 wr => ∃ i : Nat, i ≤ n ∧ i ≤ m ∧ g = n - i ∧ s13 = .int .i64 i ∧ Hid (Below w.heap.size w wr) ∧ Hid (xs.take i = ys.take i))
  case atStart => exact ⟨0, by omega, by omega, by omega, rfl, Below.refl _ _, rfl⟩
  case round =>
    obtain ⟨i, hi, him, rfl, rfl, HB, HP⟩ := hrel
    by_cases hlt : i < n
    · by_cases hlm : i < m
      · have hl1 : i < xs.length := by have := HA.out.2.2.1; omega
        have hl2 : i < ys.length := by have := HA.out.2.2.2; omega
        obtain ⟨ba, oa, ea, a0, a1, a2, a3⟩ := (HA.out.1.later HB.out) i hl1
        obtain ⟨bb, ob, eb, b0, b1, b2, b3⟩ := (HA.out.2.1.later HB.out) i hl2
        subst ea eb
        obtain ⟨x, hx⟩ : ∃ x, x = nthV xs i := ⟨_, rfl⟩
        obtain ⟨y, hy⟩ : ∃ y, y = nthV ys i := ⟨_, rfl⟩
        have ox : x.ok := by rw [hx]; exact HO.out.1 _ (nthV_mem hl1)
        have oy : y.ok := by rw [hy]; exact HO.out.2 _ (nthV_mem hl2)
        rw [← hx] at a0 a1 a2 a3
        rw [← hy] at b0 b1 b2 b3
        obtain ⟨u, hu⟩ : ∃ u, bef x y = u := ⟨_, rfl⟩
        obtain ⟨v, hv⟩ : ∃ v, bef y x = v := ⟨_, rfl⟩
        have HU : Hid (bef (nthV xs i) (nthV ys i) = u ∧ bef (nthV ys i) (nthV xs i) = v) := by show _ ∧ _; rw [← hx, ← hy]; exact ⟨hu, hv⟩
        obtain ⟨C, hC⟩ : ∃ C, cmpV x y = C := ⟨_, rfl⟩
        have HC : Hid (C = if u then -1 else if v then 1 else 0) := by show _ = _; rw [← hC, cmpV_is, hu, hv]
        have H1 := fun w => hid (cmpV_call ox oy w)
        rw [hC] at H1
        clear hx hy hu hv hl1 hl2 ox oy hC
        obtain ⟨xk, xf, xn, xs'⟩ := x
        obtain ⟨yk, yf, yn, ys'⟩ := y
        simp only at a0 a1 a2 a3 b0 b1 b2 b3
        obtain ⟨sx, hsx⟩ : ∃ sx, sx = ofNats xs' := ⟨_, rfl⟩
        obtain ⟨sy, hsy⟩ : ∃ sy, sy = ofNats ys' := ⟨_, rfl⟩
        replace H1 : ∀ w, Hid (Calls Try.prog 14 #[vlv xk xf xn (ofNats xs'), vlv yk yf yn (ofNats ys')] w fun e w' => e = .returned (.int .i64 C) ∧ Below w.heap.size w w') := H1
        rw [← hsx] at a3 H1
        rw [← hsy] at b3 H1
        clear hsx hsy
        have hal : Below wr.heap.size wr (wr.alloc (.cells #[.int .i64 xk, .bool xf, .int .i64 xn, .string sx] 29)) := Below.al (Below.refl _ _) _
        replace b0 := cell_later hal b0; replace b1 := cell_later hal b1; replace b2 := cell_later hal b2; replace b3 := cell_later hal b3
        clear hal
        cases u with
        | true =>
          have HE : Hid (cmpT xs ys = -1) := by show _ = _; rw [cmp_at (by rw [← HA.out.2.2.1]; exact hlt) (by rw [← HA.out.2.2.2]; exact hlm) HP.out, HU.out.1]; rfl
          obtain rfl : C = -1 := by rw [HC.out]; rfl
          go_wp2_with (go_at_call 14; refine (H1 _).out.mono ?_; rintro e w5 ⟨rfl, hb5⟩)
          go_ret
          exact ⟨ret_i (by rw [HE.out]), Below.on (Below.al (Below.al HB.out _) _) hb5⟩
        | false =>
          cases v with
          | true =>
            have HE : Hid (cmpT xs ys = 1) := by show _ = _; rw [cmp_at (by rw [← HA.out.2.2.1]; exact hlt) (by rw [← HA.out.2.2.2]; exact hlm) HP.out, HU.out.1, HU.out.2]; rfl
            obtain rfl : C = 1 := by rw [HC.out]; rfl
            go_wp2_with (go_at_call 14; refine (H1 _).out.mono ?_; rintro e w5 ⟨rfl, hb5⟩)
            go_ret
            exact ⟨ret_i (by rw [HE.out]), Below.on (Below.al (Below.al HB.out _) _) hb5⟩
          | false =>
            obtain rfl : C = 0 := by rw [HC.out]; rfl
            go_wp2_with (go_at_call 14; refine (H1 _).out.mono ?_; rintro e w5 ⟨rfl, hb5⟩)
            go_roundg (n - (i + 1))
            case measure => omega
            case rel => exact ⟨i + 1, by omega, by omega, rfl, by go_num, Below.on (Below.al (Below.al HB.out _) _) hb5, take_same (by rw [← HA.out.2.2.1]; exact hlt) (by rw [← HA.out.2.2.2]; exact hlm) HP.out HU.out.1 HU.out.2⟩
      · have HE : Hid (cmpT xs ys = 1) := by
          show _ = _
          rw [cmp_end (by rw [← HA.out.2.2.1]; exact hi) (by rw [← HA.out.2.2.2]; exact him) HP.out (by rw [← HA.out.2.2.1, ← HA.out.2.2.2]; omega), ← HA.out.2.2.1, ← HA.out.2.2.2, if_neg (by omega), if_pos (by omega)]
        have hl1 : i < xs.length := by have := HA.out.2.2.1; omega
        obtain ⟨ba, oa, ea, a0, a1, a2, a3⟩ := (HA.out.1.later HB.out) i hl1
        subst ea
        have e1 : ¬ i < m := hlm
        go_wp2_with fail
        go_ret
        exact ⟨ret_i (by rw [HE.out]), Below.al HB.out _⟩
    · obtain rfl : i = n := by omega
      have HE : Hid (cmpT xs ys = if i < m then -1 else if m < i then 1 else 0) := by
        show _ = _
        rw [cmp_end (by rw [← HA.out.2.2.1]; exact hi) (by rw [← HA.out.2.2.2]; exact him) HP.out (by rw [← HA.out.2.2.1, ← HA.out.2.2.2]; omega), ← HA.out.2.2.1, ← HA.out.2.2.2]
      by_cases h1 : i < m
      · go_wp2_with fail
        go_ret
        exact ⟨ret_i (by rw [HE.out, if_pos h1]), HB.out⟩
      · go_wp2_with fail
        go_ret
        exact ⟨ret_i (by rw [HE.out, if_neg h1, if_neg (by omega)]), HB.out⟩
set_option maxHeartbeats 1000000 in
theorem compareF_is {a b : Option Addr} {c d : Nat} {xs ys : List Vl} {w : World} (h : RowV w a xs) (k : RowV w b ys) (hx : OkT xs) (hy : OkT ys) (hl : xs.length ≤ 4611686018427387904) (hl2 : ys.length ≤ 4611686018427387904) :
    Calls Try.prog 6 #[.slice a xs.length c, .slice b ys.length d] w fun e w' => e = .returned (.int .i64 (cmpT xs ys)) ∧ Below w.heap.size w w' := by
  have HV := hid (cmpfunc_is (c := c) (d := d) h k hx hy hl hl2)
  go_enter Try.func6, Try.ntmps6
  go_wp2_with (go_at_call 13; refine HV.out.mono ?_; rintro e w2 ⟨rfl, hb2⟩; have HB2 := hid hb2; clear hb2)
  go_ret
  exact ⟨rfl, HB2.out⟩
theorem compare_is {a b : Option Addr} {c d : Nat} {xs ys : List Vl} {w : World} (h : RowV w a xs) (k : RowV w b ys) (hx : Tp xs) (hy : Tp ys) :
    Calls Try.prog 6 #[.slice a xs.length c, .slice b ys.length d] w fun e w' => e = .returned (.int .i64 (cmpT xs ys)) ∧ Below w.heap.size w w' := compareF_is h k hx.ok hy.ok hx.le hy.le
end Go.Proofs.Ytfafkohghgliaaa.Tu
