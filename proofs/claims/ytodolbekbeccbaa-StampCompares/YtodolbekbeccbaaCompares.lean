import Derived.Test.YtodolbekbeccbaaRefCompare
namespace Go.Proofs.Ytodolbekbeccbaa
open Go.RowKit Go.Sort

set_option maxHeartbeats 1000000 in
theorem compares_walk (a b c x y z : Int) (w : World) :
    Calls Try.prog 7 #[.agg #[.int .u64 a, .int .u32 b, .int .u32 c, .int .u64 x, .int .u32 y, .int .u32 z]] w fun e w' => e = .returned (.bool true) ∧ Below w.heap.size w w' := by
  go_enter Try.func7, Try.ntmps7
  go_upto_region 1 with fail
  go_cut [3, 4] (fun s3 s4 wx => ∃ p q : Nat, s3 = .pointer (some ⟨p, 0, none⟩) ∧ s4 = .pointer (some ⟨q, 0, none⟩) ∧ StampAt wx p a b c ∧ StampAt wx q x y z ∧ Below w.heap.size w wx)
  case first =>
    go_region
    all_goals (go_wp2_with fail; go_meet)
    all_goals refine ⟨_, _, rfl, rfl, ?_, ?_, ?_⟩
    all_goals first | (refine ⟨?_, ?_, ?_⟩ <;> (simp [go_sem]; done)) | (repeat (first | exact Below.refl _ _ | refine Below.drew ?_ | refine Below.alloc ?_ (by simp <;> omega) _))
  case rest =>
    obtain ⟨p, q, rfl, rfl, A, B, hb⟩ := hcut
    have ⟨a0, a1, a2⟩ := A; have ⟨b0, b1, b2⟩ := B
    have ka0 := cell_regrown a0; have ka1 := cell_regrown a1; have ka2 := cell_regrown a2
    have kb0 := cell_regrown b0; have kb1 := cell_regrown b1; have kb2 := cell_regrown b2
    have i1 := less_irr a b c; have i2 := less_irr x y z
    have j1 := cmpI_self a b c; have j2 := cmpI_self x y z
    obtain ⟨v1, v2, u1, u2, e1, e2, e3, e4⟩ : ∃ v1 v2 u1 u2, cmpI a b c x y z = v1 ∧ cmpI x y z a b c = v2 ∧ lessB a b c x y z = u1 ∧ lessB x y z a b c = u2 := ⟨_, _, _, _, rfl, rfl, rfl, rfl⟩
    have n1 : (v1 != v1) = false := by simp
    have n2 : (v2 != v2) = false := by simp
    have n3 : (u1 != u1) = false := by simp
    have n4 : (u2 != u2) = false := by simp
    go_wp2_with fail
    refine wp_region_quiet_below (by kernel_rfl) (by kernel_rfl) ?_
    repeat (go_big_quiet_step (first | (go_at_call 9; exact Calls.regrown_of (less_is (by assumption) _)) | (go_at_call 10; exact Calls.regrown_of (compare_is (by assumption) _)) | (go_at_call 15; exact Calls.regrown_of (refless_is (by assumption) _)) | (go_at_call 14; exact Calls.regrown_of (refcompare_is (by assumption) _))))
    refine wpQuiet_nil ?_
    intro w1 hw
    replace hw := below_of_regrown hw
    clear ka0 ka1 ka2 kb0 kb1 kb2 a0 a1 a2 b0 b1 b2
    replace A := A.later hw; replace B := B.later hw; replace hb := Below.on hb hw
    clear hw
    have ⟨a0, a1, a2⟩ := A; have ⟨b0, b1, b2⟩ := B
    have ka0 := cell_regrown a0; have ka1 := cell_regrown a1; have ka2 := cell_regrown a2
    have kb0 := cell_regrown b0; have kb1 := cell_regrown b1; have kb2 := cell_regrown b2
    go_wp2_with fail
    refine wp_region_quiet_below (by kernel_rfl) (by kernel_rfl) ?_
    repeat (go_big_quiet_step (first | (go_at_call 9; exact Calls.regrown_of (less_is (by assumption) _)) | (go_at_call 10; exact Calls.regrown_of (compare_is (by assumption) _)) | (go_at_call 15; exact Calls.regrown_of (refless_is (by assumption) _)) | (go_at_call 14; exact Calls.regrown_of (refcompare_is (by assumption) _))))
    refine wpQuiet_nil ?_
    intro w2 hw
    replace hw := below_of_regrown hw
    clear ka0 ka1 ka2 kb0 kb1 kb2 a0 a1 a2 b0 b1 b2
    replace A := A.later hw; replace B := B.later hw; replace hb := Below.on hb hw
    clear hw
    have ⟨a0, a1, a2⟩ := A; have ⟨b0, b1, b2⟩ := B
    have ka0 := cell_regrown a0; have ka1 := cell_regrown a1; have ka2 := cell_regrown a2
    have kb0 := cell_regrown b0; have kb1 := cell_regrown b1; have kb2 := cell_regrown b2
    clear ka0 ka1 ka2 kb0 kb1 kb2 A B
    go_wp2_with (first | (go_at_call 9; refine (less_is (by assumption) _).mono ?_; rintro e w' ⟨rfl, hw⟩; have a0 := cell_later hw a0; have a1 := cell_later hw a1; have a2 := cell_later hw a2; have b0 := cell_later hw b0; have b1 := cell_later hw b1; have b2 := cell_later hw b2; have hb := Below.on hb hw; clear hw) | (go_at_call 10; refine (compare_is (by assumption) _).mono ?_; rintro e w' ⟨rfl, hw⟩; have a0 := cell_later hw a0; have a1 := cell_later hw a1; have a2 := cell_later hw a2; have b0 := cell_later hw b0; have b1 := cell_later hw b1; have b2 := cell_later hw b2; have hb := Below.on hb hw; clear hw))
    go_ret
    exact ⟨rfl, hb⟩

end Go.Proofs.Ytodolbekbeccbaa
