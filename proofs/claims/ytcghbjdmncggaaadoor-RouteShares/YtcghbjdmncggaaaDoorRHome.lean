import Derived.Test.YtcghbjdmncggaaaDoorRShareP
import Derived.Test.YtcghbjdmncggaaaDoorRRoom
import Derived.Laws.StructEq
/- Home, and lists of writes that are alike. -/
namespace Go.Proofs.YtcghbjdmncggaaaDoor.Rt
open Go.RowKit Go.Sort
set_option linter.unusedVariables false

theorem eqW (x : Wr) (w : World) : (binOp .neq 51 (.agg #[.string x.key, .bool x.del, .string x.val]) (.agg #[.string x.key, .bool x.del, .string x.val])).run Tryd.prog w = .ok (.bool false) w := by
  simp [go_sem, Tryd.underlying51]

set_option maxHeartbeats 4000000 in
theorem sameW_is {a b : Option Addr} {c d : Nat} {xs : List Wr} {w : World} (h1 : RowW w a xs) (h2 : RowW w b xs) (hl : xs.length ≤ 8796093022208) :
    Calls Tryd.prog 15 #[.slice a xs.length c, .slice b xs.length d] w fun e w' => e = .returned (.bool true) ∧ Below w.heap.size w w' := by
  have H1 := hid h1; have H2 := hid h2
  clear h1 h2
  go_enter Tryd.func15, Tryd.ntmps15
  go_wp2_with fail
  go_loopg [5] xs.length (fun g s5 wr => ∃ k : Nat, k ≤ xs.length ∧ g = xs.length - k ∧ s5 = .int .i64 k ∧ Hid (Below w.heap.size w wr))
  case atStart => exact ⟨0, by omega, by omega, rfl, hid (Below.refl _ _)⟩
  case round =>
    obtain ⟨k, hk, rfl, rfl, HK⟩ := hrel
    by_cases hlt : k < xs.length
    · obtain ⟨b1, o1, rfl, e0, e1, e2⟩ := (H1.out.later HK.out) k hlt
      obtain ⟨b2, o2, rfl, f0, f1, f2⟩ := (H2.out.later HK.out) k hlt
      obtain ⟨x, hx⟩ : ∃ x, x = nthW xs k := ⟨_, rfl⟩
      rw [← hx] at e0 e1 e2 f0 f1 f2
      clear hx
      have k0 := cell_regrown e0; have k1 := cell_regrown e1; have k2 := cell_regrown e2
      have l0 := cell_regrown f0; have l1 := cell_regrown f1; have l2 := cell_regrown f2
      have heq := eqW x
      go_wp2_with fail
      refine wp_region_quiet_below (by kernel_rfl) (by kernel_rfl) ?_
      repeat (go_big_quiet_step (fail))
      refine wpQuiet_nil ?_
      intro wq hq
      replace hq := below_of_regrown hq
      have HQ := hid (Below.on HK.out hq)
      clear hq k0 k1 k2 l0 l1 l2
      go_wp2_with fail
      go_roundg (xs.length - (k + 1))
      case measure => omega
      case rel => exact ⟨k + 1, by omega, rfl, by go_num, HQ⟩
    · obtain rfl : k = xs.length := by omega
      go_wp2_with fail
      go_ret
      exact ⟨rfl, HK.out⟩

theorem run_minU (m n : Nat) (ts : Array TypeId) (ty : TypeId) (w : World) : (Builtin.min_ ts ty #[.int .u32 (m : Int), .int .u32 (n : Int)]).run Tryd.prog w = .ok (.int .u32 ((min m n : Nat) : Int)) w := by
  rcases Nat.lt_or_ge n m with h | h
  · have h1 : (n : Int) < (m : Int) := by omega
    simp [Builtin.min_, Builtin.min2, Nat.min_eq_right (Nat.le_of_lt h), h1]
  · have h1 : ¬ (n : Int) < (m : Int) := by omega
    simp [Builtin.min_, Builtin.min2, Nat.min_eq_left h, h1]

/-- what Home answers -/
def Cf.home (c : Cf) (ws : List Wr) : Nat × Bool := if c.okB && decide (0 < ws.length) then (homeK c.ss ws (ws.length - 1), true) else (0, false)
set_option maxHeartbeats 4000000 in
theorem Home_is {c : Cf} {w : World} (h : c.Ok w) {a : Option Addr} {cp : Nat} {ws : List Wr} (hr : RowW w a ws) (hl : ws.length ≤ 8796093022208) (hcp : ws.length < cp) :
    Calls Tryd.prog 14 #[c.val, .slice a ws.length cp] w fun e w' => e = .returned (.tuple #[.int .u32 ((c.home ws).1 : Int), .bool (c.home ws).2]) ∧ Below w.heap.size w w' := by
  have H := hid h; have HR := hid hr
  have HB := hid (BoxC.new w c 25)
  clear h hr
  go_enter Tryd.func14, Tryd.ntmps14
  go_wp2_with fail
  refine (mayBe_is (H.out.later (by (repeat (first | exact Below.refl _ _ | assumption | refine Below.drew ?_ | refine Below.al ?_ _ | refine Below.setCell ?_ (by first | exact Nat.le_refl _ | (simp; omega) | (simp; done)) _ | refine Below.on ?_ (by assumption))))) rfl).mono ?_
  rintro e w1 ⟨rfl, hw1⟩
  obtain ⟨c0, c1, c2, c3, c4, c5⟩ := HB.out.later hw1
  have HW : Hid (Below w.heap.size w w1) := hid (by (repeat (first | exact Below.refl _ _ | assumption | refine Below.drew ?_ | refine Below.al ?_ _ | refine Below.setCell ?_ (by first | exact Nat.le_refl _ | (simp; omega) | (simp; done)) _ | refine Below.on ?_ (by assumption))))
  have HC := hid (HB.out.later hw1)
  clear hw1 HB
  cases ho : c.okB
  · have HU : Hid (c.home ws = (0, false)) := hid (by rw [Cf.home, ho]; rfl)
    go_wp2_with fail
    go_ret2
    exact ⟨by rw [HU.out]; rfl, HW.out⟩
  · rcases ws with _ | ⟨x, ws⟩
    · have HU : Hid (c.home [] = (0, false)) := hid (by rw [Cf.home, ho]; rfl)
      go_wp2_with fail
      go_ret2
      exact ⟨by rw [HU.out]; rfl, HW.out⟩
    · have HU : Hid (c.home (x :: ws) = (homeK c.ss (x :: ws) ws.length, true)) := hid (by rw [Cf.home, ho]; simp)
      obtain ⟨hl5, hsh, hri⟩ := ok_len ho
      have HO : Hid (∀ W y, Below w1.heap.size w1 W → Calls Tryd.prog 18 #[c.val, .string y] W fun e w' => e = .returned (.int .u32 (ownN c.ss y : Int)) ∧ Below W.heap.size W w') := hid (fun W y hb => owner_is (H.out.later (Below.on HW.out hb)) hl5 y)
      obtain ⟨b, off, rfl, e0, e1, e2⟩ := (HR.out.later HW.out) 0 (by simp)
      have HK0 : Hid (ownN c.ss x.key = homeK c.ss (x :: ws) 0) := hid rfl
      simp only [nthW, List.getElem?_cons_zero, Option.getD_some, Nat.zero_mul, Nat.add_zero] at e0 e1 e2
      clear hsh hri
      simp only [List.length_cons] at hl hcp
      have hcp1 : cp ≠ 1 := by omega
      go_wp2_with fail
      go_cut [6] (fun s wx => s = .int .u32 (ownN c.ss x.key : Int) ∧ Below w1.heap.size w1 wx)
      case first =>
        go_region_held3 (fun w' => w'.cell? ⟨w.heap.size, 0, none⟩ = some (.int .i64 c.sh) ∧ w'.cell? ⟨w.heap.size, 1, none⟩ = some (.int .i64 c.cl) ∧ w'.cell? ⟨w.heap.size, 2, none⟩ = some (.slice c.a c.ss.length c.cp) ∧ w'.cell? ⟨w.heap.size, 3, none⟩ = some (.int .i64 c.ca) ∧ w'.cell? ⟨w.heap.size, 4, none⟩ = some (.int .i64 c.pk) ∧ w'.cell? ⟨w.heap.size, 5, none⟩ = some (.int .u64 c.wi) ∧ w'.cell? ⟨b, off, none⟩ = some (.string x.key) ∧ Below w1.heap.size w1 w')
          ((refine (fun (hB : Below w1.heap.size w1 _) => ⟨cell_later hB c0, cell_later hB c1, cell_later hB c2, cell_later hB c3, cell_later hB c4, cell_later hB c5, cell_later hB e0, hB⟩) ?_; (repeat (first | with_reducible exact Below.refl _ _ | with_reducible assumption | with_reducible refine Below.drew ?_ | with_reducible refine Below.al ?_ _ | with_reducible refine Below.setCell ?_ (by first | exact Nat.le_refl _ | (simp; omega) | (simp; done)) _ | with_reducible refine Below.on ?_ (by assumption)))))
          (first | (go_at_call 18; refine (HO.out _ _ (by (repeat (first | with_reducible exact Below.refl _ _ | with_reducible assumption | with_reducible refine Below.drew ?_ | with_reducible refine Below.al ?_ _ | with_reducible refine Below.setCell ?_ (by first | exact Nat.le_refl _ | (simp; omega) | (simp; done)) _ | with_reducible refine Below.on ?_ (by assumption))))).mono ?_; rintro e w2 ⟨rfl, hb2⟩))
        all_goals (try go_wp2_with fail)
        all_goals go_meet
        all_goals (exact ⟨rfl, by (repeat (first | with_reducible exact Below.refl _ _ | with_reducible assumption | with_reducible refine Below.drew ?_ | with_reducible refine Below.al ?_ _ | with_reducible refine Below.setCell ?_ (by first | exact Nat.le_refl _ | (simp; omega) | (simp; done)) _ | with_reducible refine Below.on ?_ (by assumption)))⟩)
      case rest =>
        obtain ⟨rfl, hbx⟩ := hcut
        have HX := hid hbx
        clear hbx c0 c1 c2 c3 c4 c5 e0 e1 e2
        rw [HK0.out]
        go_wp2_with fail
        go_loopg [6, 26] ws.length (fun g s6 s26 wr => ∃ k : Nat, k ≤ ws.length ∧ g = ws.length - k ∧ s26 = .int .i64 k ∧ s6 = .int .u32 (homeK c.ss (x :: ws) k : Int) ∧ Hid (Below w1.heap.size w1 wr))
        case atStart => exact ⟨0, by omega, by omega, rfl, rfl, HX⟩
        case round =>
          rename World => wK
          obtain ⟨k, hk, rfl, rfl, rfl, HK⟩ := hrel
          clear HX
          by_cases hlt : k < ws.length
          · obtain ⟨b', off', e', f0, f1, f2⟩ := (HR.out.later (Below.on HW.out HK.out)) (k + 1) (by simpa using hlt)
            injection e' with e'; injection e' with e1 e2
            subst e1 e2
            rw [show off + (k + 1) * 3 = off + 3 + k * 3 by omega] at f0 f1 f2
            obtain ⟨y, hy⟩ : ∃ y, y = nthW (x :: ws) (k + 1) := ⟨_, rfl⟩
            rw [← hy] at f0 f1 f2
            obtain ⟨m, hm⟩ : ∃ m, m = homeK c.ss (x :: ws) k := ⟨_, rfl⟩
            have HM : Hid (homeK c.ss (x :: ws) (k + 1) = min m (ownN c.ss y.key)) := hid (by rw [homeK, ← hm, ← hy])
            have hmn := fun ts ty w => run_minU m (ownN c.ss y.key) ts ty w
            obtain ⟨q, hq⟩ : ∃ q, q = ownN c.ss y.key := ⟨_, rfl⟩
            have HQ := hid hq
            rw [← hq] at hmn
            rw [← hm]
            clear hm hy hq
            obtain ⟨c0, c1, c2, c3, c4, c5⟩ := (HC.out.later HK.out).later (w' := wK.alloc (.cells #[.string y.key, .bool y.del, .string y.val] 51)) (Below.al (Below.refl _ _) _)
            have HOQ : Hid (∀ W, Below w1.heap.size w1 W → Calls Tryd.prog 18 #[c.val, .string y.key] W fun e w' => e = .returned (.int .u32 (q : Int)) ∧ Below W.heap.size W w') := hid (fun W hb => by rw [HQ.out]; exact HO.out W y.key hb)
            go_wp2_with (go_at_call 18; refine (HOQ.out _ (Below.on HK.out (by (repeat (first | with_reducible exact Below.refl _ _ | with_reducible assumption | with_reducible refine Below.drew ?_ | with_reducible refine Below.al ?_ _ | with_reducible refine Below.setCell ?_ (by first | exact Nat.le_refl _ | (simp; omega) | (simp; done)) _ | with_reducible refine Below.on ?_ (by assumption)))))).mono ?_; rintro e w3 ⟨rfl, hb3⟩)
            go_roundg (ws.length - (k + 1))
            case measure => omega
            case rel => exact ⟨k + 1, by omega, rfl, by go_num, by rw [HM.out, HQ.out], hid (by have hB := HK.out; (repeat (first | with_reducible exact Below.refl _ _ | with_reducible assumption | with_reducible refine Below.drew ?_ | with_reducible refine Below.al ?_ _ | with_reducible refine Below.setCell ?_ (by first | exact Nat.le_refl _ | (simp; omega) | (simp; done)) _ | with_reducible refine Below.on ?_ (by assumption))))⟩
          · obtain rfl : k = ws.length := by omega
            go_wp2_with fail
            go_ret2
            exact ⟨by rw [HU.out]; rfl, Below.on HW.out HK.out⟩

end Go.Proofs.YtcghbjdmncggaaaDoor.Rt
