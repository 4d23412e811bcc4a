import Derived.Test.YtfafkohghgliaabDoorTuTp
import Derived.Test.YtfafkohghgliaabDoorTuRefV
import Derived.Test.YtfafkohghgliaabDoorTuVal
import Derived.BigQuiet
import Derived.Lib.QuietBelow
/- The program's Valid. -/
namespace Go.Proofs.YtfafkohghgliaabDoor.Tu
open Go.RowKit Go.Sort Go.Proofs.YtfafkohghgliaabDoor
set_option linter.unusedVariables false
set_option linter.unusedSectionVars false
variable [DecidableEq Vl]
set_option linter.unusedSimpArgs false

set_option maxHeartbeats 2000000 in
theorem mayBe_is {v : Vl} (h : v.ok) (w : World) : Calls Tryd.prog 38 #[v.val] w fun e w' => e = .returned (.bool (okV v)) ∧ Below w.heap.size w w' := by
  obtain ⟨u, hu⟩ : ∃ u, okV v = u := ⟨_, rfl⟩
  have hrun : ∀ w, (binOp .eql 32 v.val (namedV v).val).run Tryd.prog w = .ok (.bool u) w := fun w => by rw [run_eqV h (named_ok h), ← okV_named, hu]
  rw [hu]
  obtain ⟨k, f, n, s⟩ := v
  by_cases h0 : k = 0
  · subst h0
    have hr : ∀ w, (binOp .eql 32 (vlv 0 f n (ofNats s)) (vlv 0 false 0 ⟨#[]⟩)).run Tryd.prog w = .ok (.bool u) w := hrun
    clear hu hrun h
    go_enter Tryd.func38, Tryd.ntmps38
    go_wp2_with fail
    go_ret
    exact ⟨rfl, by (repeat (first | exact Below.refl _ _ | assumption | refine Below.drew ?_ | refine Below.al ?_ _ | refine Below.setCell ?_ (by first | exact Nat.le_refl _ | (simp; omega) | (simp; done)) _ | refine Below.on ?_ (by assumption)))⟩
  by_cases h1 : k = 1
  · subst h1
    have hr : ∀ w, (binOp .eql 32 (vlv 1 f n (ofNats s)) (vlv 1 f 0 ⟨#[]⟩)).run Tryd.prog w = .ok (.bool u) w := hrun
    clear hu hrun h
    obtain ⟨W, hW⟩ : ∃ W, W = w.alloc (.cells #[.int .i64 1, .bool f, .int .i64 n, .string (ofNats s)] 32) := ⟨_, rfl⟩
    have HBW : Hid (Below w.heap.size w W) := by show Below _ _ _; rw [hW]; exact Below.al (Below.refl _ _) _
    have ka0 := cell_regrown (show W.cell? ⟨w.heap.size, 0, none⟩ = some (.int .i64 1) by rw [hW]; simp [go_sem])
    have ka1 := cell_regrown (show W.cell? ⟨w.heap.size, 1, none⟩ = some (.bool f) by rw [hW]; simp [go_sem])
    have ka2 := cell_regrown (show W.cell? ⟨w.heap.size, 2, none⟩ = some (.int .i64 n) by rw [hW]; simp [go_sem])
    have ka3 := cell_regrown (show W.cell? ⟨w.heap.size, 3, none⟩ = some (.string (ofNats s)) by rw [hW]; simp [go_sem])
    go_enter Tryd.func38, Tryd.ntmps38
    go_wp2_with fail
    rw [← hW]
    clear hW
    refine wp_region_quiet_below (by kernel_rfl) (by kernel_rfl) ?_
    repeat (go_big_quiet_step (((go_at_call 46; exact Calls.regrown_of (flag_is _ _)))))
    refine wpQuiet_nil ?_
    intro w4 hww4
    replace hww4 := below_of_regrown hww4
    go_wp2_with fail
    go_ret
    exact ⟨rfl, Below.on HBW.out hww4⟩
  by_cases h2 : k = 2
  · subst h2
    have hr : ∀ w, (binOp .eql 32 (vlv 2 f n (ofNats s)) (vlv 2 false n ⟨#[]⟩)).run Tryd.prog w = .ok (.bool u) w := hrun
    clear hu hrun h
    obtain ⟨W, hW⟩ : ∃ W, W = w.alloc (.cells #[.int .i64 2, .bool f, .int .i64 n, .string (ofNats s)] 32) := ⟨_, rfl⟩
    have HBW : Hid (Below w.heap.size w W) := by show Below _ _ _; rw [hW]; exact Below.al (Below.refl _ _) _
    have ka0 := cell_regrown (show W.cell? ⟨w.heap.size, 0, none⟩ = some (.int .i64 2) by rw [hW]; simp [go_sem])
    have ka1 := cell_regrown (show W.cell? ⟨w.heap.size, 1, none⟩ = some (.bool f) by rw [hW]; simp [go_sem])
    have ka2 := cell_regrown (show W.cell? ⟨w.heap.size, 2, none⟩ = some (.int .i64 n) by rw [hW]; simp [go_sem])
    have ka3 := cell_regrown (show W.cell? ⟨w.heap.size, 3, none⟩ = some (.string (ofNats s)) by rw [hW]; simp [go_sem])
    go_enter Tryd.func38, Tryd.ntmps38
    go_wp2_with fail
    rw [← hW]
    clear hW
    refine wp_region_quiet_below (by kernel_rfl) (by kernel_rfl) ?_
    repeat (go_big_quiet_step (((go_at_call 63; exact Calls.regrown_of (int_is _ _)))))
    refine wpQuiet_nil ?_
    intro w4 hww4
    replace hww4 := below_of_regrown hww4
    go_wp2_with fail
    go_ret
    exact ⟨rfl, Below.on HBW.out hww4⟩
  by_cases h3 : k = 3
  · subst h3
    have hr : ∀ w, (binOp .eql 32 (vlv 3 f n (ofNats s)) (vlv 3 false 0 (ofNats s))).run Tryd.prog w = .ok (.bool u) w := hrun
    clear hu hrun h
    obtain ⟨b, hb⟩ : ∃ b, b = ofNats s := ⟨_, rfl⟩
    have e : (Vl.val ⟨3, f, n, s⟩) = vlv 3 f n b := by rw [hb]
    rw [← hb] at hr
    rw [e]
    clear hb e
    obtain ⟨W, hW⟩ : ∃ W, W = w.alloc (.cells #[.int .i64 3, .bool f, .int .i64 n, .string b] 32) := ⟨_, rfl⟩
    have HBW : Hid (Below w.heap.size w W) := by show Below _ _ _; rw [hW]; exact Below.al (Below.refl _ _) _
    have ka0 := cell_regrown (show W.cell? ⟨w.heap.size, 0, none⟩ = some (.int .i64 3) by rw [hW]; simp [go_sem])
    have ka1 := cell_regrown (show W.cell? ⟨w.heap.size, 1, none⟩ = some (.bool f) by rw [hW]; simp [go_sem])
    have ka2 := cell_regrown (show W.cell? ⟨w.heap.size, 2, none⟩ = some (.int .i64 n) by rw [hW]; simp [go_sem])
    have ka3 := cell_regrown (show W.cell? ⟨w.heap.size, 3, none⟩ = some (.string b) by rw [hW]; simp [go_sem])
    go_enter Tryd.func38, Tryd.ntmps38
    go_wp2_with fail
    rw [← hW]
    clear hW
    refine wp_region_quiet_below (by kernel_rfl) (by kernel_rfl) ?_
    repeat (go_big_quiet_step (((go_at_call 61; exact Calls.regrown_of (txt_is _ _)))))
    refine wpQuiet_nil ?_
    intro w4 hww4
    replace hww4 := below_of_regrown hww4
    go_wp2_with fail
    go_ret
    exact ⟨rfl, Below.on HBW.out hww4⟩
  · obtain rfl : u = false := by rw [← hu]; simp [okV, h0, h1, h2, h3]
    have d0 : ((k : Int) == 0) = false := by simp; omega
    have d1 : ((k : Int) == 1) = false := by simp; omega
    have d2 : ((k : Int) == 2) = false := by simp; omega
    have d3 : ((k : Int) == 3) = false := by simp; omega
    clear hu hrun h h0 h1 h2 h3
    go_enter Tryd.func38, Tryd.ntmps38
    go_wp2_with fail
    go_ret
    exact ⟨rfl, by (repeat (first | exact Below.refl _ _ | assumption | refine Below.drew ?_ | refine Below.al ?_ _ | refine Below.setCell ?_ (by first | exact Nat.le_refl _ | (simp; omega) | (simp; done)) _ | refine Below.on ?_ (by assumption)))⟩
set_option maxHeartbeats 2000000 in
theorem valid_is {a : Option Addr} {c : Nat} {t : List Vl} {w : World} (h : RowV w a t) (k : Tp t) :
    Calls Tryd.prog 25 #[.slice a t.length c] w fun e w' => e = .returned (.int .i64 (vE (okT t))) ∧ Below w.heap.size w w' := by
  have ho := k.ok
  have hl := k.le
  clear k
  obtain ⟨n, hn⟩ : ∃ n, n = t.length := ⟨_, rfl⟩
  have HA := hid (show _ ∧ _ ∧ _ from ⟨h, ho, hn⟩)
  rw [← hn] at hl ⊢
  clear h ho hn
  go_enter Tryd.func25, Tryd.ntmps25
  go_wp2_with fail
  go_loopg [4, 7] n (fun g s4 s wr => ∃ i : Nat, i ≤ n ∧ g = n - i ∧ s = .int .i64 i ∧ Hid (Below w.heap.size w wr) ∧ Hid (okT (t.take i) = true))
  case atStart => exact ⟨0, by omega, by omega, rfl, Below.refl _ _, rfl⟩
  case round =>
    obtain ⟨i, hi, rfl, rfl, HB, HP⟩ := hrel
    by_cases hlt : i < n
    · have hlt' : i < t.length := by rw [← HA.out.2.2]; exact hlt
      obtain ⟨ba, oa, ea, a0, a1, a2, a3⟩ := (HA.out.1.later HB.out) i hlt'
      subst ea
      obtain ⟨x, hx⟩ : ∃ x, x = nthV t i := ⟨_, rfl⟩
      have HX : Hid (x = nthV t i ∧ x.ok) := hid ⟨hx, by rw [hx]; exact HA.out.2.1 _ (nthV_mem hlt')⟩
      rw [← hx] at a0 a1 a2 a3
      clear hx hlt'
      obtain ⟨u, hu⟩ : ∃ u, okV x = u := ⟨_, rfl⟩
      have HU : Hid (okV x = u) := hu
      have HM := fun w => hid (mayBe_is HX.out.2 w)
      rw [hu] at HM
      clear hu
      obtain ⟨xk, xf, xn, xs⟩ := x
      simp only at a0 a1 a2 a3
      cases u with
      | true =>
        go_wp2_with (go_at_call 38; refine (HM _).out.mono ?_; rintro e w1 ⟨rfl, hb1⟩; have HB1 := hid (Below.on (Below.al HB.out _) hb1); clear hb1)
        go_roundg (n - (i + 1))
        case measure => omega
        case rel => exact ⟨i + 1, by omega, rfl, by go_num, HB1, okT_snoc HP.out (by rw [← HA.out.2.2]; exact hlt) (by rw [← HX.out.1]; exact HU.out)⟩
      | false =>
        have HE : Hid (okT t = false) := okT_not (by rw [← HA.out.2.2]; exact hlt) (by rw [← HX.out.1]; exact HU.out)
        go_wp2_with (go_at_call 38; refine (HM _).out.mono ?_; rintro e w1 ⟨rfl, hb1⟩; have HB1 := hid (Below.on (Below.al HB.out _) hb1); clear hb1)
        go_ret
        exact ⟨ret_i (by rw [HE.out]; rfl), HB1.out⟩
    · obtain rfl : i = n := by omega
      have HE : Hid (okT t = true) := by have := HP.out; rwa [HA.out.2.2, List.take_length] at this
      go_wp2_with fail
      go_ret
      exact ⟨ret_i (by rw [HE.out]; rfl), HB.out⟩
end Go.Proofs.YtfafkohghgliaabDoor.Tu
