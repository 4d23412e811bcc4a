import Derived.Test.YtgplnbdankfobaaGreatDoorQSame
/- Same: the fields ahead of the lists. -/
namespace Go.Proofs.YtgplnbdankfobaaGreatDoor.Lk
open Go.RowKit Go.Sort
set_option linter.unusedVariables false

set_option maxHeartbeats 1000000 in
theorem same_not {x y : Hv} {w : World} (h : ¬ (x.h.id = y.h.id ∧ x.h.home = y.h.home ∧ (x.h.w = y.h.w ∧ x.h.l = y.h.l ∧ x.h.n = y.h.n) ∧ x.h.rs.length = y.h.rs.length ∧ x.h.ws.length = y.h.ws.length)) :
    Calls Tryz.prog 15 #[x.val, y.val] w fun e w' => e = .returned (.bool false) ∧ Below w.heap.size w w' := by
  obtain ⟨⟨⟨xc, xs⟩, xh, xw, xl, xn, xr, xv⟩, xra, xrc, xwa, xwc⟩ := x
  obtain ⟨⟨⟨yc, ys⟩, yh, yw, yl, yn, yr, yv⟩, yra, yrc, ywa, ywc⟩ := y
  simp only at h
  by_cases h1 : ((xc, xs) : Ix) = (yc, ys)
  · injection h1 with e1 e2
    subst e1 e2
    have q1 : ∀ W, (binOp .neq 25 (.agg #[.int .u32 xc, .int .u32 xs]) (.agg #[.int .u32 xc, .int .u32 xs])).run Tryz.prog W = .ok (.bool false) W := fun W => by
      have := run_neI (xc, xs) (xc, xs) W
      rwa [show sameI (xc, xs) (xc, xs) = true by simp [sameI]] at this
    by_cases h2 : xh = yh
    · subst h2
      by_cases h3 : xw = yw ∧ xl = yl ∧ xn = yn
      · obtain ⟨rfl, rfl, rfl⟩ := h3
        have q3 : ∀ W, (binOp .neq 28 (.agg #[.int .u64 xw, .int .u32 xl, .int .u32 xn]) (.agg #[.int .u64 xw, .int .u32 xl, .int .u32 xn])).run Tryz.prog W = .ok (.bool false) W := fun W => by
          have := run_neSt xw xl xn xw xl xn W
          simpa using this
        by_cases h4 : xr.length = yr.length
        · have h5 : ¬ xv.length = yv.length := fun e => h ⟨rfl, rfl, ⟨rfl, rfl, rfl⟩, h4, e⟩
          have h4' : ((xr.length : Int) != (yr.length : Int)) = false := by rw [h4]; simp
          have h5' : ((xv.length : Int) != (yv.length : Int)) = true := by simp; omega
          clear h h4 h5
          go_enter Tryz.func15, Tryz.ntmps15
          go_wp2_with fail
          go_ret
          exact ⟨rfl, by (repeat (first | exact Below.refl _ _ | assumption | refine Below.drew ?_ | refine Below.al ?_ _ | refine Below.setCell ?_ (by first | exact Nat.le_refl _ | (simp; omega) | (simp; done)) _ | refine Below.on ?_ (by assumption)))⟩
        · have h4' : ((xr.length : Int) != (yr.length : Int)) = true := by simp; omega
          clear h h4
          go_enter Tryz.func15, Tryz.ntmps15
          go_wp2_with fail
          go_ret
          exact ⟨rfl, by (repeat (first | exact Below.refl _ _ | assumption | refine Below.drew ?_ | refine Below.al ?_ _ | refine Below.setCell ?_ (by first | exact Nat.le_refl _ | (simp; omega) | (simp; done)) _ | refine Below.on ?_ (by assumption)))⟩
      · have q3 : ∀ W, (binOp .neq 28 (.agg #[.int .u64 xw, .int .u32 xl, .int .u32 xn]) (.agg #[.int .u64 yw, .int .u32 yl, .int .u32 yn])).run Tryz.prog W = .ok (.bool true) W := fun W => by
          have := run_neSt xw xl xn yw yl yn W
          rwa [decide_eq_false h3] at this
        clear h h3
        go_enter Tryz.func15, Tryz.ntmps15
        go_wp2_with fail
        go_ret
        exact ⟨rfl, by (repeat (first | exact Below.refl _ _ | assumption | refine Below.drew ?_ | refine Below.al ?_ _ | refine Below.setCell ?_ (by first | exact Nat.le_refl _ | (simp; omega) | (simp; done)) _ | refine Below.on ?_ (by assumption)))⟩
    · have h2' : (xh != yh) = true := by simpa using h2
      clear h h2
      go_enter Tryz.func15, Tryz.ntmps15
      go_wp2_with fail
      go_ret
      exact ⟨rfl, by (repeat (first | exact Below.refl _ _ | assumption | refine Below.drew ?_ | refine Below.al ?_ _ | refine Below.setCell ?_ (by first | exact Nat.le_refl _ | (simp; omega) | (simp; done)) _ | refine Below.on ?_ (by assumption)))⟩
  · have q1 : ∀ W, (binOp .neq 25 (.agg #[.int .u32 xc, .int .u32 xs]) (.agg #[.int .u32 yc, .int .u32 ys])).run Tryz.prog W = .ok (.bool true) W := fun W => by
      have := run_neI (xc, xs) (yc, ys) W
      rwa [show sameI (xc, xs) (yc, ys) = false from decide_eq_false h1] at this
    clear h h1
    go_enter Tryz.func15, Tryz.ntmps15
    go_wp2_with fail
    go_ret
    exact ⟨rfl, by (repeat (first | exact Below.refl _ _ | assumption | refine Below.drew ?_ | refine Below.al ?_ _ | refine Below.setCell ?_ (by first | exact Nat.le_refl _ | (simp; omega) | (simp; done)) _ | refine Below.on ?_ (by assumption)))⟩
end Go.Proofs.YtgplnbdankfobaaGreatDoor.Lk
