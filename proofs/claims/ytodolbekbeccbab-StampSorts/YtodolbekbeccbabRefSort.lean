import Derived.Test.YtodolbekbeccbabSortPlain
import Derived.Test.YtodolbekbeccbabTab
import Derived.Test.YtodolbekbeccbabRefLess
namespace Go.Proofs.Ytodolbekbeccbab
open Go.RowKit Go.Sort
set_option linter.unusedVariables false

theorem low_start (x : St) (out : List St) (k : Nat) : Low x out k k k := ⟨Nat.le_refl _, .inl rfl, fun i h1 h2 _ => by omega⟩
theorem low_hit {x : St} {out : List St} {lo hi n : Nat} (h : Low x out (lo + 1) hi n) (hlt : lo < hi) (hx : x.less (nth out lo) = true) : Low x out lo hi lo :=
  ⟨by omega, .inr ⟨Nat.le_refl _, hx⟩, fun i h1 h2 _ => by omega⟩
theorem low_miss {x : St} {out : List St} {lo hi n : Nat} (h : Low x out (lo + 1) hi n) (hlt : lo < hi) (hx : x.less (nth out lo) = false) : Low x out lo hi n := by
  obtain ⟨h1, h2, h3⟩ := h
  refine ⟨h1, ?_, fun i g1 g2 g3 => ?_⟩
  · rcases h2 with e | ⟨e1, e2⟩
    · exact .inl e
    · exact .inr ⟨by omega, e2⟩
  · rcases Nat.lt_or_eq_of_le g1 with e | e
    · exact h3 i (by omega) g2 g3
    · rw [← e]; exact hx

set_option maxHeartbeats 4000000 in
theorem refsort_any (a : Option Addr) (c : Nat) (xs : List St) (w : World) (h : Row w a xs) (hl : xs.length * 16 ≤ 140737488351232) :
    Calls Try.prog 14 #[.slice a xs.length c] w fun e w' => ∃ v, e = .returned v ∧ w'.ownsRow w.heap.size 25 3 v xs.length (flat (srt xs)) ∧ Below w.heap.size w w' := by
  have H0 := hid h
  clear h
  go_enter Try.func14, Try.ntmps14
  go_wp2_with fail
  go_loopg [3, 4] xs.length (fun g s3 s4 wr => ∃ (k : Nat) (out : List St), k ≤ xs.length ∧ g = xs.length - k ∧ s4 = .int .i64 k ∧ out.length = k ∧ wr.ownsRow w.heap.size 25 3 s3 k (flat out) ∧ out.Perm (xs.take k) ∧ out.Pairwise (fun x y => leS x y = true) ∧ Below w.heap.size w wr)
  case atStart => exact ⟨0, [], by omega, by omega, rfl, rfl, World.ownsRow_nil _ _ _ _, by simp, List.Pairwise.nil, Below.refl _ _⟩
  case round =>
    obtain ⟨k, out, hk, rfl, rfl, hol, hown, hperm, hsort, hb⟩ := hrel
    by_cases hlt : k < xs.length
    · have hnt := hid (nth_take hlt)
      obtain ⟨b, off, rfl, c0, c1, c2⟩ := (H0.out.later hb) k hlt
      obtain ⟨x, hx⟩ : ∃ x, x = nth xs k := ⟨_, rfl⟩
      rw [← hx] at c0 c1 c2 hnt
      have hown' := hown
      rw [← hol] at hown'
      obtain ⟨ao, co, rfl, hro⟩ := row_of_owns hown'
      rw [hol] at hown' ⊢
      have HRO := hid hro
      have HOL := hid hol
      have HOWN := hid hown
      have HPERM := hid hperm
      have HSORT := hid hsort
      clear hx hown' hro hol hown hperm hsort
      go_wp2_with fail
      go_loopg [5, 6] k (fun g s5 s6 wi => ∃ (m n : Nat), m ≤ k ∧ g = k - m ∧ s5 = .int .i64 n ∧ s6 = .int .i64 ((k : Int) - 1 - m) ∧ Low x out (k - m) k n ∧ Below wr.heap.size wr wi)
      case atStart => exact ⟨0, k, by omega, by omega, rfl, by simp, low_start x out k, Below.refl _ _⟩
      case round =>
        obtain ⟨m, n, hm, rfl, rfl, rfl, hlow, hbi⟩ := hrel
        by_cases hmk : m < k
        · obtain ⟨j, hj⟩ : ∃ j : Nat, j = k - 1 - m := ⟨_, rfl⟩
          have ej : (k : Int) - 1 - m = j := by omega
          rw [ej]
          have hjk : j < k := by omega
          have hlow1 : Low x out (j + 1) k n := by rw [show j + 1 = k - m by omega]; exact hlow
          have HL1 := hid hlow1
          have HJ := hid hj
          obtain ⟨bo, oo, rfl, d0, d1, d2⟩ := (HRO.out.later hbi) j (by rw [HOL.out]; exact hjk)
          have c0 := cell_later hbi c0; have c1 := cell_later hbi c1; have c2 := cell_later hbi c2
          obtain ⟨y, hy⟩ : ∃ y, y = nth out j := ⟨_, rfl⟩
          rw [← hy] at d0 d1 d2
          obtain ⟨u, hu⟩ : ∃ u, lessB x.w x.l x.n y.w y.l y.n = u := ⟨_, rfl⟩
          have HU : Hid (x.less (nth out j) = u) := by rw [← hy]; exact hu
          have kc0 := cell_regrown c0; have kc1 := cell_regrown c1; have kc2 := cell_regrown c2
          have kd0 := cell_regrown d0; have kd1 := cell_regrown d1; have kd2 := cell_regrown d2
          clear hj ej hlow hlow1 hy
          go_wp2_with fail
          refine wp_region_quiet_below (by kernel_rfl) (by kernel_rfl) ?_
          repeat (go_big_quiet_step ((go_at_call 22; exact Calls.regrown_of (refless_is hu _))))
          refine wpQuiet_nil ?_
          intro w1 hw
          replace hw := below_of_regrown hw
          replace hbi := Below.on hbi hw
          clear hw kc0 kc1 kc2 kd0 kd1 kd2 c0 c1 c2 d0 d1 d2 hu
          cases u
          all_goals
            go_wp2_with fail
            go_roundg (k - (m + 1))
            case measure => omega
          · exact ⟨m + 1, n, by omega, rfl, rfl, by have := HJ.out; congr 1; omega, by rw [show k - (m + 1) = j by have := HJ.out; omega]; exact low_miss HL1.out hjk HU.out, hbi⟩
          · exact ⟨m + 1, j, by omega, rfl, rfl, by have := HJ.out; congr 1; omega, by rw [show k - (m + 1) = j by have := HJ.out; omega]; exact low_hit HL1.out hjk HU.out, hbi⟩
        · obtain rfl : m = k := by omega
          have ej : (m : Int) - 1 - m = -1 := by omega
          rw [ej]
          rw [Nat.sub_self] at hlow
          have c0 := cell_later hbi c0; have c1 := cell_later hbi c1; have c2 := cell_later hbi c2
          have hnl : n ≤ m := hlow.1
          have HLOW := hid hlow
          have hins := hid (fun wz hz => insert_any ao co out n x wz hz (by rw [HOL.out]; exact hnl) (by rw [HOL.out]; omega))
          rw [HOL.out] at hins
          clear hlow ej
          go_wp2_with fail
          refine (hins.out _ (HRO.out.later hbi)).mono ?_
          rintro e w1 ⟨v, rfl, hown1, hb1⟩
          have hB := Below.on (Below.on hb hbi) hb1
          have HO1 := hid (Joins.ownsRow_le hown1 (Nat.le_trans hb.size hbi.size))
          clear hown1 hb1 hbi hins c0 c1 c2
          go_wp2_with fail
          go_roundg (xs.length - (m + 1))
          case measure => omega
          case rel =>
            refine ⟨m + 1, insAt out n x, by omega, rfl, by go_num, by rw [insAt_length, HOL.out], HO1.out, ?_, ins_sorted HSORT.out (by rw [HOL.out]; exact HLOW.out), hB⟩
            rw [hnt.out]
            exact (ins_perm out n x).trans ((List.Perm.cons x HPERM.out).trans (List.perm_append_singleton x (xs.take m)).symm)
    · obtain rfl : k = xs.length := by omega
      rw [List.take_of_length_le (Nat.le_refl _)] at hperm
      rw [eq_srt hperm hsort] at hown
      clear hperm hsort hol
      go_wp2_with fail
      go_ret
      exact ⟨_, rfl, hown, hb⟩

end Go.Proofs.Ytodolbekbeccbab
