import Derived.Test.YtodolbekbeccbaaCompare
import Derived.BigRegion
import Derived.BigQuiet
import Derived.Lib.QuietBelow
import Derived.Deep.QuietTactic
import Derived.Deep.DeepCutAuto
import Derived.WalkSpells
namespace Go.Proofs.Ytodolbekbeccbaa
open Go.RowKit Go.Sort

/-- a stamp lies in block p -/
def StampAt (w : World) (p : Nat) (a b c : Int) : Prop :=
  w.cell? ⟨p, 0, none⟩ = some (.int .u64 a) ∧ w.cell? ⟨p, 1, none⟩ = some (.int .u32 b) ∧ w.cell? ⟨p, 2, none⟩ = some (.int .u32 c)


theorem StampAt.later {w w' : World} {p : Nat} {a b c : Int} (h : StampAt w p a b c) (hb : Below w.heap.size w w') : StampAt w' p a b c :=
  ⟨cell_later hb h.1, cell_later hb h.2.1, cell_later hb h.2.2⟩
theorem below_of_regrown {w w' : World} (h : ∃ p : Regrown, w' = grow (redrawn w p.d) p.os) : Below w.heap.size w w' := by
  obtain ⟨p, rfl⟩ := h; exact below_regrown _ _ _
theorem Below.on {w0 w w' : World} (h : Below w0.heap.size w0 w) (k : Below w.heap.size w w') : Below w0.heap.size w0 w' := h.trans (k.mono h.size)

set_option maxHeartbeats 1000000 in
theorem total_walk (a b c x y z r s t : Int) (w : World) :
    Calls Try.prog 3 #[.agg #[.int .u64 a, .int .u32 b, .int .u32 c, .int .u64 x, .int .u32 y, .int .u32 z, .int .u64 r, .int .u32 s, .int .u32 t]] w fun e w' => e = .returned (.bool true) ∧ Below w.heap.size w w' := by
  go_enter Try.func3, Try.ntmps3
  go_upto_region 1 with fail
  go_cut [3, 4, 5] (fun s3 s4 s5 wx => ∃ p q o : Nat, s3 = .pointer (some ⟨p, 0, none⟩) ∧ s4 = .pointer (some ⟨q, 0, none⟩) ∧ s5 = .pointer (some ⟨o, 0, none⟩) ∧ StampAt wx p a b c ∧ StampAt wx q x y z ∧ StampAt wx o r s t ∧ Below w.heap.size w wx)
  case first =>
    go_region
    all_goals (go_wp2_with fail; go_meet)
    all_goals refine ⟨_, _, _, rfl, rfl, rfl, ?_, ?_, ?_, ?_⟩
    all_goals first | (refine ⟨?_, ?_, ?_⟩ <;> (simp [go_sem]; done)) | (repeat (first | exact Below.refl _ _ | refine Below.drew ?_ | refine Below.alloc ?_ (by simp <;> omega) _))
  case rest =>
    obtain ⟨p, q, o, rfl, rfl, rfl, A, B, C, hb⟩ := hcut
    have ⟨a0, a1, a2⟩ := A; have ⟨b0, b1, b2⟩ := B; have ⟨c0, c1, c2⟩ := C
    have ka0 := cell_regrown a0; have ka1 := cell_regrown a1; have ka2 := cell_regrown a2
    have kb0 := cell_regrown b0; have kb1 := cell_regrown b1; have kb2 := cell_regrown b2
    by_cases h : a = x ∧ b = y ∧ c = z
    · obtain ⟨rfl, rfl, rfl⟩ := h
      have hne : ∀ w, (binOp .neq 25 (stv a b c) (stv a b c)).run Try.prog w = .ok (.bool false) w := fun w => by rw [run_ne, sameB_self]; rfl
      have heq : ∀ w, (binOp .eql 25 (stv a b c) (stv a b c)).run Try.prog w = .ok (.bool true) w := fun w => by rw [run_eq, sameB_self]
      have hir := less_irr a b c
      have hcm := cmpI_self a b c
      go_wp2_with fail
      refine wp_region_quiet_below (by kernel_rfl) (by kernel_rfl) ?_
      repeat (go_big_quiet_step (first | (go_at_call 9; exact Calls.regrown_of (less_is (by assumption) _)) | (go_at_call 10; exact Calls.regrown_of (compare_is (by assumption) _))))
      refine wpQuiet_nil ?_
      intro w1 hw
      replace hw := below_of_regrown hw
      clear ka0 ka1 ka2 kb0 kb1 kb2 a0 a1 a2 b0 b1 b2 c0 c1 c2
      replace A := A.later hw; replace B := B.later hw; replace C := C.later hw; replace hb := Below.on hb hw
      clear hw
      have ⟨a0, a1, a2⟩ := A; have ⟨b0, b1, b2⟩ := B; have ⟨c0, c1, c2⟩ := C
      have ka0 := cell_regrown a0; have ka1 := cell_regrown a1; have ka2 := cell_regrown a2
      have kb0 := cell_regrown b0; have kb1 := cell_regrown b1; have kb2 := cell_regrown b2
      go_wp2_with fail
      refine wp_region_quiet_below (by kernel_rfl) (by kernel_rfl) ?_
      repeat (go_big_quiet_step (first | (go_at_call 9; exact Calls.regrown_of (less_is (by assumption) _)) | (go_at_call 10; exact Calls.regrown_of (compare_is (by assumption) _))))
      refine wpQuiet_nil ?_
      intro w2 hw
      replace hw := below_of_regrown hw
      clear ka0 ka1 ka2 kb0 kb1 kb2 a0 a1 a2 b0 b1 b2 c0 c1 c2
      replace A := A.later hw; replace B := B.later hw; replace C := C.later hw; replace hb := Below.on hb hw
      clear hw
      have ⟨a0, a1, a2⟩ := A; have ⟨b0, b1, b2⟩ := B; have ⟨c0, c1, c2⟩ := C
      have ka0 := cell_regrown a0; have ka1 := cell_regrown a1; have ka2 := cell_regrown a2
      have kb0 := cell_regrown b0; have kb1 := cell_regrown b1; have kb2 := cell_regrown b2
      clear ka0 ka1 ka2 kb0 kb1 kb2
      go_wp2_with (go_at_call 9; refine (less_is (by assumption) _).mono ?_; rintro e w' ⟨rfl, hw⟩; have a0 := cell_later hw a0; have a1 := cell_later hw a1; have a2 := cell_later hw a2; have b0 := cell_later hw b0; have b1 := cell_later hw b1; have b2 := cell_later hw b2; have c0 := cell_later hw c0; have c1 := cell_later hw c1; have c2 := cell_later hw c2; have hb := Below.on hb hw; clear hw)
      go_ret
      exact ⟨rfl, hb⟩
    · have hs := sameB_no h
      have hne : ∀ w, (binOp .neq 25 (stv a b c) (stv x y z)).run Try.prog w = .ok (.bool true) w := fun w => by rw [run_ne, hs]; rfl
      have heq : ∀ w, (binOp .eql 25 (stv a b c) (stv x y z)).run Try.prog w = .ok (.bool false) w := fun w => by rw [run_eq, hs]
      have han := less_anti h
      have hir := less_irr a b c
      clear h
      cases hl : lessB a b c x y z
      · rw [hl] at han
        have han' : lessB x y z a b c = true := han
        have hcm := cmpI_gt hs hl
        clear han hs
        go_wp2_with fail
        refine wp_region_quiet_below (by kernel_rfl) (by kernel_rfl) ?_
        repeat (go_big_quiet_step (first | (go_at_call 9; exact Calls.regrown_of (less_is (by assumption) _)) | (go_at_call 10; exact Calls.regrown_of (compare_is (by assumption) _))))
        refine wpQuiet_nil ?_
        intro w1 hw
        replace hw := below_of_regrown hw
        clear ka0 ka1 ka2 kb0 kb1 kb2 a0 a1 a2 b0 b1 b2 c0 c1 c2
        replace A := A.later hw; replace B := B.later hw; replace C := C.later hw; replace hb := Below.on hb hw
        clear hw
        have ⟨a0, a1, a2⟩ := A; have ⟨b0, b1, b2⟩ := B; have ⟨c0, c1, c2⟩ := C
        have ka0 := cell_regrown a0; have ka1 := cell_regrown a1; have ka2 := cell_regrown a2
        have kb0 := cell_regrown b0; have kb1 := cell_regrown b1; have kb2 := cell_regrown b2
        go_wp2_with fail
        refine wp_region_quiet_below (by kernel_rfl) (by kernel_rfl) ?_
        repeat (go_big_quiet_step (first | (go_at_call 9; exact Calls.regrown_of (less_is (by assumption) _)) | (go_at_call 10; exact Calls.regrown_of (compare_is (by assumption) _))))
        refine wpQuiet_nil ?_
        intro w2 hw
        replace hw := below_of_regrown hw
        clear ka0 ka1 ka2 kb0 kb1 kb2 a0 a1 a2 b0 b1 b2 c0 c1 c2
        replace A := A.later hw; replace B := B.later hw; replace C := C.later hw; replace hb := Below.on hb hw
        clear hw
        have ⟨a0, a1, a2⟩ := A; have ⟨b0, b1, b2⟩ := B; have ⟨c0, c1, c2⟩ := C
        have ka0 := cell_regrown a0; have ka1 := cell_regrown a1; have ka2 := cell_regrown a2
        have kb0 := cell_regrown b0; have kb1 := cell_regrown b1; have kb2 := cell_regrown b2
        clear ka0 ka1 ka2 kb0 kb1 kb2
        go_wp2_with (go_at_call 9; refine (less_is (by assumption) _).mono ?_; rintro e w' ⟨rfl, hw⟩; have a0 := cell_later hw a0; have a1 := cell_later hw a1; have a2 := cell_later hw a2; have b0 := cell_later hw b0; have b1 := cell_later hw b1; have b2 := cell_later hw b2; have c0 := cell_later hw c0; have c1 := cell_later hw c1; have c2 := cell_later hw c2; have hb := Below.on hb hw; clear hw)
        go_ret
        exact ⟨rfl, hb⟩
      · rw [hl] at han
        have han' : lessB x y z a b c = false := han
        have hcm := cmpI_lt hs hl
        clear han hs
        go_wp2_with fail
        refine wp_region_quiet_below (by kernel_rfl) (by kernel_rfl) ?_
        repeat (go_big_quiet_step (first | (go_at_call 9; exact Calls.regrown_of (less_is (by assumption) _)) | (go_at_call 10; exact Calls.regrown_of (compare_is (by assumption) _))))
        refine wpQuiet_nil ?_
        intro w1 hw
        replace hw := below_of_regrown hw
        clear ka0 ka1 ka2 kb0 kb1 kb2 a0 a1 a2 b0 b1 b2 c0 c1 c2
        replace A := A.later hw; replace B := B.later hw; replace C := C.later hw; replace hb := Below.on hb hw
        clear hw
        have ⟨a0, a1, a2⟩ := A; have ⟨b0, b1, b2⟩ := B; have ⟨c0, c1, c2⟩ := C
        have ka0 := cell_regrown a0; have ka1 := cell_regrown a1; have ka2 := cell_regrown a2
        have kb0 := cell_regrown b0; have kb1 := cell_regrown b1; have kb2 := cell_regrown b2
        go_wp2_with fail
        refine wp_region_quiet_below (by kernel_rfl) (by kernel_rfl) ?_
        repeat (go_big_quiet_step (first | (go_at_call 9; exact Calls.regrown_of (less_is (by assumption) _)) | (go_at_call 10; exact Calls.regrown_of (compare_is (by assumption) _))))
        refine wpQuiet_nil ?_
        intro w2 hw
        replace hw := below_of_regrown hw
        clear ka0 ka1 ka2 kb0 kb1 kb2 a0 a1 a2 b0 b1 b2 c0 c1 c2
        replace A := A.later hw; replace B := B.later hw; replace C := C.later hw; replace hb := Below.on hb hw
        clear hw
        have ⟨a0, a1, a2⟩ := A; have ⟨b0, b1, b2⟩ := B; have ⟨c0, c1, c2⟩ := C
        have ka0 := cell_regrown a0; have ka1 := cell_regrown a1; have ka2 := cell_regrown a2
        have kb0 := cell_regrown b0; have kb1 := cell_regrown b1; have kb2 := cell_regrown b2
        cases hk : lessB x y z r s t
        · clear ka0 ka1 ka2 kb0 kb1 kb2
          go_wp2_with (go_at_call 9; refine (less_is (by assumption) _).mono ?_; rintro e w' ⟨rfl, hw⟩; have a0 := cell_later hw a0; have a1 := cell_later hw a1; have a2 := cell_later hw a2; have b0 := cell_later hw b0; have b1 := cell_later hw b1; have b2 := cell_later hw b2; have c0 := cell_later hw c0; have c1 := cell_later hw c1; have c2 := cell_later hw c2; have hb := Below.on hb hw; clear hw)
          go_ret
          exact ⟨rfl, hb⟩
        · have hj := less_trans hl hk
          clear ka0 ka1 ka2 kb0 kb1 kb2
          go_wp2_with (go_at_call 9; refine (less_is (by assumption) _).mono ?_; rintro e w' ⟨rfl, hw⟩; have a0 := cell_later hw a0; have a1 := cell_later hw a1; have a2 := cell_later hw a2; have b0 := cell_later hw b0; have b1 := cell_later hw b1; have b2 := cell_later hw b2; have c0 := cell_later hw c0; have c1 := cell_later hw c1; have c2 := cell_later hw c2; have hb := Below.on hb hw; clear hw)
          go_ret
          exact ⟨rfl, hb⟩

end Go.Proofs.Ytodolbekbeccbaa
