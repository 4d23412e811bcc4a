import Derived.Test.YtaknkodjganacaaDoorVRowsV
import Derived.Test.YtaknkodjganacaaDoorVSmall
/- among: a version joins a list by key and stamp. -/
namespace Go.Proofs.YtaknkodjganacaaDoor.Vs
open Go.RowKit Go.Sort
set_option linter.unusedVariables false

theorem among_cases (x y : Kv) : (folB x y = true ∧ lt x.1 y.1 = true ∧ x.1 ≠ y.1) ∨ (x.1 = y.1 ∧ x.2.s.lt y.2.s = true ∧ folB x y = true ∧ lt x.1 y.1 = false) ∨ (x.1 = y.1 ∧ x.2.s.lt y.2.s = false ∧ folB x y = false ∧ lt x.1 y.1 = false) ∨ (folB x y = false ∧ lt x.1 y.1 = false ∧ x.1 ≠ y.1) := by
  by_cases h : x.1 = y.1
  · have h0 : lt x.1 y.1 = false := by rw [h]; exact lt_irrefl _
    cases hs : x.2.s.lt y.2.s with
    | true => exact .inr (.inl ⟨h, rfl, by unfold folB; rw [if_pos h]; exact hs, h0⟩)
    | false => exact .inr (.inr (.inl ⟨h, rfl, by unfold folB; rw [if_pos h]; exact hs, h0⟩))
  · cases hl : lt x.1 y.1 with
    | true => exact .inl ⟨by unfold folB; rw [if_neg h]; exact hl, rfl, h⟩
    | false => exact .inr (.inr (.inr ⟨by unfold folB; rw [if_neg h]; exact hl, rfl, h⟩))

set_option maxHeartbeats 2000000 in
set_option maxRecDepth 8000 in
theorem among_is {a : Option Addr} {c : Nat} {l : List Kv} {e : Kv} {w : World} (h : RowV w a l) (hs : l.Pairwise fun x y => folB x y = true) (hl : (l.length + 2) * 64 ≤ 140737488355328) :
    Calls Tryd.prog 24 #[.slice a l.length c, vv e.1 e.2] w fun r w' => ∃ v, r = .returned v ∧ OwnV w' w.heap.size v (amX l e) ∧ Below w.heap.size w w' := by
  obtain ⟨xk, xs, xd, xv⟩ := e
  obtain ⟨wa, hwa⟩ : ∃ wa, wa = w.alloc (.cells (vcs xk ⟨xs, xd, xv⟩) 46) := ⟨_, rfl⟩
  have hba : Below w.heap.size w wa := by rw [hwa]; exact Below.al (Below.refl _ _) _
  have VX : Hid (VerAt wa w.heap.size 0 xk ⟨xs, xd, xv⟩) := by rw [hwa]; exact ver_cells _ _ _
  have HR := hid (h.later hba)
  have HBA := hid hba
  have HSO := hid hs
  obtain ⟨B, hB⟩ : ∃ B, B = w.heap.size := ⟨_, rfl⟩
  have hBs : Hid (B ≤ wa.heap.size) := hid (by rw [hB]; exact hba.size)
  rw [← hB] at VX HBA ⊢
  clear h hba hs
  go_enter Tryd.func24, Tryd.ntmps24
  go_wp2_with fail
  rw [← hwa, ← hB]
  clear hwa hB
  go_loopg [5, 6, 7] l.length (fun g s5 s6 s7 wr => ∃ i : Nat, i ≤ l.length ∧ g = l.length - i ∧ s7 = .int .i64 i ∧ s6 = .bool (amD (l.take i) (xk, ⟨xs, xd, xv⟩)) ∧ Hid (OwnV wr wa.heap.size s5 (amL (l.take i) (xk, ⟨xs, xd, xv⟩))) ∧ Hid (Below wa.heap.size wa wr))
  case atStart => exact ⟨0, by omega, by omega, rfl, rfl, OwnV.nil _ _, Below.refl _ _⟩
  case round =>
    obtain ⟨i, hil, rfl, rfl, rfl, HO, HW⟩ := hrel
    obtain ⟨v5, hv5⟩ : ∃ v5, v5 = u5 := ⟨_, rfl⟩
    rw [← hv5] at HO ⊢
    clear hv5
    by_cases hlt : i < l.length
    · obtain ⟨b, off, hab, va⟩ := HR.out i hlt
      obtain ⟨y, hy⟩ : ∃ y, y = nthK l i := ⟨_, rfl⟩
      have HT : Hid (l.take (i + 1) = l.take i ++ [y]) := by show _ = _; rw [nthK_take hlt, hy]
      have HSS : Hid ((l.take i ++ [y]).Pairwise fun x y => folB x y = true) := by show List.Pairwise _ _; rw [← HT.out]; exact HSO.out.sublist (List.take_sublist _ _)
      have hml : (l.take i).length ≤ l.length := by rw [List.length_take]; omega
      have hol := amL_len (l.take i) (xk, ⟨xs, xd, xv⟩)
      have htl : (l.take i).length = i := by rw [List.length_take]; omega
      have HL1 : Hid (((amL (l.take i) (xk, ⟨xs, xd, xv⟩)).length + 1) * 64 ≤ 140737488355328) := hid (Nat.le_trans (Nat.mul_le_mul_right 64 (show _ ≤ l.length + 2 by omega)) hl)
      obtain ⟨m, hm⟩ : ∃ m, m = l.take i := ⟨_, rfl⟩
      rw [← hm] at HT HO HL1 HSS htl ⊢
      rw [← hy] at va
      subst hab
      have VD : Hid (∀ W, Below wa.heap.size wa W → VerAt W b (off + i * 6) y.1 y.2) := fun W hb => va.later hb
      clear hy hm hml hol va
      obtain ⟨yk, ys, yd, yv⟩ := y
      simp only at VD
      have b0 : Hid _ := hid (VX.out.later HW.out).c0
      have vx := VX.out.later HW.out
      have vd := VD.out wr HW.out
      clear b0
      have b0 : wr.cell? ⟨B, 0, none⟩ = some (.string xk) := vx.c0
      have b1 : wr.cell? ⟨B, 1, none⟩ = some (.int .u64 xs.a) := vx.c1
      have b2 : wr.cell? ⟨B, 2, none⟩ = some (.int .u32 xs.b) := vx.c2
      have b3 : wr.cell? ⟨B, 3, none⟩ = some (.int .u32 xs.c) := vx.c3
      have d0 : wr.cell? ⟨b, off + i * 6, none⟩ = some (.string yk) := vd.c0
      have d1 : wr.cell? ⟨b, off + i * 6 + 1, none⟩ = some (.int .u64 ys.a) := vd.c1
      have d2 : wr.cell? ⟨b, off + i * 6 + 2, none⟩ = some (.int .u32 ys.b) := vd.c2
      have d3 : wr.cell? ⟨b, off + i * 6 + 3, none⟩ = some (.int .u32 ys.c) := vd.c3
      replace b0 := cell_regrown b0
      replace b1 := cell_regrown b1
      replace b2 := cell_regrown b2
      replace b3 := cell_regrown b3
      replace d0 := cell_regrown d0
      replace d1 := cell_regrown d1
      replace d2 := cell_regrown d2
      replace d3 := cell_regrown d3
      clear vx vd
      cases hd : amD m (xk, ⟨xs, xd, xv⟩) with
      | true =>
        have hf := amD_behind HSS.out hd
        have HN : Hid (amD (m ++ [(yk, ⟨ys, yd, yv⟩)]) (xk, ⟨xs, xd, xv⟩) = true) := by show _ = _; rw [amD_snoc, hd, hf]; rfl
        have HN3 : Hid (amL (m ++ [(yk, ⟨ys, yd, yv⟩)]) (xk, ⟨xs, xd, xv⟩) = amL m (xk, ⟨xs, xd, xv⟩) ++ [(yk, ⟨ys, yd, yv⟩)]) := amL_behind hd hf
        clear hd hf
        go_wp2_with fail
        refine wp_region_quiet_below (by kernel_rfl) (by kernel_rfl) ?_
        repeat (go_big_quiet_step (fail))
        refine wpQuiet_nil ?_
        intro w3 hw3
        replace hw3 := below_of_regrown hw3
        have HO3 := hid (HO.out.later hw3)
        have HW3 : Hid (Below wa.heap.size wa w3) := Below.on HW.out hw3
        have vd := (HR.out.later HW3.out) i hlt
        clear b0 b1 b2 b3 d0 d1 d2 d3 hw3
        have f0 : w3.cell? ⟨b, off + i * 6, none⟩ = some (.string yk) := (VD.out w3 HW3.out).c0
        have f1 : w3.cell? ⟨b, off + i * 6 + 1, none⟩ = some (.int .u64 ys.a) := (VD.out w3 HW3.out).c1
        have f2 : w3.cell? ⟨b, off + i * 6 + 2, none⟩ = some (.int .u32 ys.b) := (VD.out w3 HW3.out).c2
        have f3 : w3.cell? ⟨b, off + i * 6 + 3, none⟩ = some (.int .u32 ys.c) := (VD.out w3 HW3.out).c3
        have f4 : w3.cell? ⟨b, off + i * 6 + 4, none⟩ = some (.bool yd) := (VD.out w3 HW3.out).c4
        have f5 : w3.cell? ⟨b, off + i * 6 + 5, none⟩ = some (.string yv) := (VD.out w3 HW3.out).c5
        clear vd
        go_wp2_with (at_builtin; refine append_V rfl _ _ rfl (yk, ⟨ys, yd, yv⟩) rfl (HO3.out.later (Below.al (Below.refl _ _) _)) rfl (ver_cells _ yk ⟨ys, yd, yv⟩) HL1.out (by have := HW3.out.size; simp at this ⊢; omega) ?_; intro v6 w6 ho hg; have HO6 := hid ho; have HB6 : Hid (Below wa.heap.size wa w6) := OwnV.grown (HO3.out.later (Below.al (Below.refl _ _) (.cells (vcs yk ⟨ys, yd, yv⟩) 46))) hg (Below.al HW3.out _) (Nat.le_refl _); clear ho hg)
        go_roundg (l.length - (i + 1))
        case measure => omega
        case rel => exact ⟨i + 1, by omega, rfl, by go_num, by rw [HT.out, HN.out], by rw [HT.out, HN3.out]; exact HO6.out, HB6⟩
      | false =>
        rcases among_cases (xk, ⟨xs, xd, xv⟩) (yk, ⟨ys, yd, yv⟩) with ⟨hf, hk, hk'⟩ | ⟨hk, hs, hf, hk'⟩ | ⟨hk, hs, hf, hk'⟩ | ⟨hf, hk', hk⟩
        · have q1 : Op.bytesLess xk.toList yk.toList = true := hk
          have HL2 : Hid (((amL m (xk, ⟨xs, xd, xv⟩) ++ ([(xk, ⟨xs, xd, xv⟩)] : List Kv)).length + 1) * 64 ≤ 140737488355328) := by
            have h1 : (amL m (xk, ⟨xs, xd, xv⟩)).length ≤ m.length := by
              have := amL_len m (xk, ⟨xs, xd, xv⟩)
              unfold amL at this ⊢
              rw [hd] at this ⊢
              have h2 : m.filter (fun d => folB (xk, ⟨xs, xd, xv⟩) d) = [] := List.filter_eq_nil_iff.2 fun x hx => by
                unfold amD at hd; have := List.any_eq_false.1 hd x hx; simpa using this
              rw [h2]
              simp only [Bool.false_eq_true, if_false, List.append_nil]
              exact List.length_filter_le _ _
            exact hid (Nat.le_trans (Nat.mul_le_mul_right 64 (show _ ≤ l.length + 2 by rw [List.length_append, List.length_singleton]; omega)) hl)
          have HN : Hid (amD (m ++ [(yk, ⟨ys, yd, yv⟩)]) (xk, ⟨xs, xd, xv⟩) = true) := by show _ = _; rw [amD_snoc, hd, hf]; rfl
          have HN3 : Hid (amL (m ++ [(yk, ⟨ys, yd, yv⟩)]) (xk, ⟨xs, xd, xv⟩) = amL m (xk, ⟨xs, xd, xv⟩) ++ [(xk, ⟨xs, xd, xv⟩)] ++ [(yk, ⟨ys, yd, yv⟩)]) := amL_here hd hf
          clear hd hf hk hk'
          go_wp2_with fail
          refine wp_region_quiet_below (by kernel_rfl) (by kernel_rfl) ?_
          repeat (go_big_quiet_step (fail))
          refine wpQuiet_nil ?_
          intro w3 hw3
          replace hw3 := below_of_regrown hw3
          have HO3 := hid (HO.out.later hw3)
          have HW3 : Hid (Below wa.heap.size wa w3) := Below.on HW.out hw3
          have vd := (HR.out.later HW3.out) i hlt
          clear b0 b1 b2 b3 d0 d1 d2 d3 hw3
          have x0 : w3.cell? ⟨B, 0, none⟩ = some (.string xk) := (VX.out.later HW3.out).c0
          have x1 : w3.cell? ⟨B, 1, none⟩ = some (.int .u64 xs.a) := (VX.out.later HW3.out).c1
          have x2 : w3.cell? ⟨B, 2, none⟩ = some (.int .u32 xs.b) := (VX.out.later HW3.out).c2
          have x3 : w3.cell? ⟨B, 3, none⟩ = some (.int .u32 xs.c) := (VX.out.later HW3.out).c3
          have x4 : w3.cell? ⟨B, 4, none⟩ = some (.bool xd) := (VX.out.later HW3.out).c4
          have x5 : w3.cell? ⟨B, 5, none⟩ = some (.string xv) := (VX.out.later HW3.out).c5
          clear vd
          go_wp2_with (first
            | (at_builtin; refine append_V rfl _ _ rfl (yk, ⟨ys, yd, yv⟩) rfl (HO6.out.later (Below.al (Below.refl _ _) _)) rfl (ver_cells _ yk ⟨ys, yd, yv⟩) HL2.out (by have := HB6.out.size; simp at this ⊢; omega) ?_; intro v9 w9 ho hg; have HO9 := hid ho; have HB9 : Hid (Below wa.heap.size wa w9) := OwnV.grown (HO6.out.later (Below.al (Below.refl _ _) (.cells (vcs yk ⟨ys, yd, yv⟩) 46))) hg (Below.al HB6.out _) (Nat.le_refl _); clear ho hg)
            | (at_builtin; refine append_V rfl _ _ rfl (xk, ⟨xs, xd, xv⟩) rfl (HO3.out.later (Below.al (Below.refl _ _) _)) rfl (ver_cells _ xk ⟨xs, xd, xv⟩) HL1.out (by have := HW3.out.size; simp at this ⊢; omega) ?_; intro v6 w6 ho hg; have HO6 := hid ho; have HB6 : Hid (Below wa.heap.size wa w6) := OwnV.grown (HO3.out.later (Below.al (Below.refl _ _) (.cells (vcs xk ⟨xs, xd, xv⟩) 46))) hg (Below.al HW3.out _) (Nat.le_refl _); clear ho hg; have f0 : w6.cell? ⟨b, off + i * 6, none⟩ = some (.string yk) := (VD.out w6 HB6.out).c0; have f1 : w6.cell? ⟨b, off + i * 6 + 1, none⟩ = some (.int .u64 ys.a) := (VD.out w6 HB6.out).c1; have f2 : w6.cell? ⟨b, off + i * 6 + 2, none⟩ = some (.int .u32 ys.b) := (VD.out w6 HB6.out).c2; have f3 : w6.cell? ⟨b, off + i * 6 + 3, none⟩ = some (.int .u32 ys.c) := (VD.out w6 HB6.out).c3; have f4 : w6.cell? ⟨b, off + i * 6 + 4, none⟩ = some (.bool yd) := (VD.out w6 HB6.out).c4; have f5 : w6.cell? ⟨b, off + i * 6 + 5, none⟩ = some (.string yv) := (VD.out w6 HB6.out).c5))
          go_roundg (l.length - (i + 1))
          case measure => omega
          case rel => exact ⟨i + 1, by omega, rfl, by go_num, by rw [HT.out, HN.out], by rw [HT.out, HN3.out]; exact HO9.out, HB9⟩
        · simp only at hk
          subst hk
          have q1 : Op.bytesLess xk.toList xk.toList = false := hk'
          have BE := hid (fun W => below_is (s := xs) (t := ys) hs W)
          have HL2 : Hid (((amL m (xk, ⟨xs, xd, xv⟩) ++ ([(xk, ⟨xs, xd, xv⟩)] : List Kv)).length + 1) * 64 ≤ 140737488355328) := by
            have h1 : (amL m (xk, ⟨xs, xd, xv⟩)).length ≤ m.length := by
              have := amL_len m (xk, ⟨xs, xd, xv⟩)
              unfold amL at this ⊢
              rw [hd] at this ⊢
              have h2 : m.filter (fun d => folB (xk, ⟨xs, xd, xv⟩) d) = [] := List.filter_eq_nil_iff.2 fun x hx => by
                unfold amD at hd; have := List.any_eq_false.1 hd x hx; simpa using this
              rw [h2]
              simp only [Bool.false_eq_true, if_false, List.append_nil]
              exact List.length_filter_le _ _
            exact hid (Nat.le_trans (Nat.mul_le_mul_right 64 (show _ ≤ l.length + 2 by rw [List.length_append, List.length_singleton]; omega)) hl)
          have HN : Hid (amD (m ++ [(xk, ⟨ys, yd, yv⟩)]) (xk, ⟨xs, xd, xv⟩) = true) := by show _ = _; rw [amD_snoc, hd, hf]; rfl
          have HN3 : Hid (amL (m ++ [(xk, ⟨ys, yd, yv⟩)]) (xk, ⟨xs, xd, xv⟩) = amL m (xk, ⟨xs, xd, xv⟩) ++ [(xk, ⟨xs, xd, xv⟩)] ++ [(xk, ⟨ys, yd, yv⟩)]) := amL_here hd hf
          clear hd hf hs hk'
          go_wp2_with fail
          refine wp_region_quiet_below (by kernel_rfl) (by kernel_rfl) ?_
          repeat (go_big_quiet_step ((go_at_call 14; exact Calls.regrown_of (BE.out _))))
          refine wpQuiet_nil ?_
          intro w3 hw3
          replace hw3 := below_of_regrown hw3
          have HO3 := hid (HO.out.later hw3)
          have HW3 : Hid (Below wa.heap.size wa w3) := Below.on HW.out hw3
          have vd := (HR.out.later HW3.out) i hlt
          clear b0 b1 b2 b3 d0 d1 d2 d3 hw3
          have x0 : w3.cell? ⟨B, 0, none⟩ = some (.string xk) := (VX.out.later HW3.out).c0
          have x1 : w3.cell? ⟨B, 1, none⟩ = some (.int .u64 xs.a) := (VX.out.later HW3.out).c1
          have x2 : w3.cell? ⟨B, 2, none⟩ = some (.int .u32 xs.b) := (VX.out.later HW3.out).c2
          have x3 : w3.cell? ⟨B, 3, none⟩ = some (.int .u32 xs.c) := (VX.out.later HW3.out).c3
          have x4 : w3.cell? ⟨B, 4, none⟩ = some (.bool xd) := (VX.out.later HW3.out).c4
          have x5 : w3.cell? ⟨B, 5, none⟩ = some (.string xv) := (VX.out.later HW3.out).c5
          clear vd
          go_wp2_with (first
            | (at_builtin; refine append_V rfl _ _ rfl (xk, ⟨ys, yd, yv⟩) rfl (HO6.out.later (Below.al (Below.refl _ _) _)) rfl (ver_cells _ xk ⟨ys, yd, yv⟩) HL2.out (by have := HB6.out.size; simp at this ⊢; omega) ?_; intro v9 w9 ho hg; have HO9 := hid ho; have HB9 : Hid (Below wa.heap.size wa w9) := OwnV.grown (HO6.out.later (Below.al (Below.refl _ _) (.cells (vcs xk ⟨ys, yd, yv⟩) 46))) hg (Below.al HB6.out _) (Nat.le_refl _); clear ho hg)
            | (at_builtin; refine append_V rfl _ _ rfl (xk, ⟨xs, xd, xv⟩) rfl (HO3.out.later (Below.al (Below.refl _ _) _)) rfl (ver_cells _ xk ⟨xs, xd, xv⟩) HL1.out (by have := HW3.out.size; simp at this ⊢; omega) ?_; intro v6 w6 ho hg; have HO6 := hid ho; have HB6 : Hid (Below wa.heap.size wa w6) := OwnV.grown (HO3.out.later (Below.al (Below.refl _ _) (.cells (vcs xk ⟨xs, xd, xv⟩) 46))) hg (Below.al HW3.out _) (Nat.le_refl _); clear ho hg; have f0 : w6.cell? ⟨b, off + i * 6, none⟩ = some (.string xk) := (VD.out w6 HB6.out).c0; have f1 : w6.cell? ⟨b, off + i * 6 + 1, none⟩ = some (.int .u64 ys.a) := (VD.out w6 HB6.out).c1; have f2 : w6.cell? ⟨b, off + i * 6 + 2, none⟩ = some (.int .u32 ys.b) := (VD.out w6 HB6.out).c2; have f3 : w6.cell? ⟨b, off + i * 6 + 3, none⟩ = some (.int .u32 ys.c) := (VD.out w6 HB6.out).c3; have f4 : w6.cell? ⟨b, off + i * 6 + 4, none⟩ = some (.bool yd) := (VD.out w6 HB6.out).c4; have f5 : w6.cell? ⟨b, off + i * 6 + 5, none⟩ = some (.string yv) := (VD.out w6 HB6.out).c5))
          go_roundg (l.length - (i + 1))
          case measure => omega
          case rel => exact ⟨i + 1, by omega, rfl, by go_num, by rw [HT.out, HN.out], by rw [HT.out, HN3.out]; exact HO9.out, HB9⟩
        · simp only at hk
          subst hk
          have q1 : Op.bytesLess xk.toList xk.toList = false := hk'
          have BE := hid (fun W => below_is (s := xs) (t := ys) hs W)
          have HN : Hid (amD (m ++ [(xk, ⟨ys, yd, yv⟩)]) (xk, ⟨xs, xd, xv⟩) = false) := by show _ = _; rw [amD_snoc, hd, hf]; rfl
          have HN3 : Hid (amL (m ++ [(xk, ⟨ys, yd, yv⟩)]) (xk, ⟨xs, xd, xv⟩) = amL m (xk, ⟨xs, xd, xv⟩) ++ [(xk, ⟨ys, yd, yv⟩)]) := amL_before hd hf
          clear hd hf hs hk'
          go_wp2_with fail
          refine wp_region_quiet_below (by kernel_rfl) (by kernel_rfl) ?_
          repeat (go_big_quiet_step ((go_at_call 14; exact Calls.regrown_of (BE.out _))))
          refine wpQuiet_nil ?_
          intro w3 hw3
          replace hw3 := below_of_regrown hw3
          have HO3 := hid (HO.out.later hw3)
          have HW3 : Hid (Below wa.heap.size wa w3) := Below.on HW.out hw3
          have vd := (HR.out.later HW3.out) i hlt
          clear b0 b1 b2 b3 d0 d1 d2 d3 hw3
          have f0 : w3.cell? ⟨b, off + i * 6, none⟩ = some (.string xk) := (VD.out w3 HW3.out).c0
          have f1 : w3.cell? ⟨b, off + i * 6 + 1, none⟩ = some (.int .u64 ys.a) := (VD.out w3 HW3.out).c1
          have f2 : w3.cell? ⟨b, off + i * 6 + 2, none⟩ = some (.int .u32 ys.b) := (VD.out w3 HW3.out).c2
          have f3 : w3.cell? ⟨b, off + i * 6 + 3, none⟩ = some (.int .u32 ys.c) := (VD.out w3 HW3.out).c3
          have f4 : w3.cell? ⟨b, off + i * 6 + 4, none⟩ = some (.bool yd) := (VD.out w3 HW3.out).c4
          have f5 : w3.cell? ⟨b, off + i * 6 + 5, none⟩ = some (.string yv) := (VD.out w3 HW3.out).c5
          clear vd
          go_wp2_with (at_builtin; refine append_V rfl _ _ rfl (xk, ⟨ys, yd, yv⟩) rfl (HO3.out.later (Below.al (Below.refl _ _) _)) rfl (ver_cells _ xk ⟨ys, yd, yv⟩) HL1.out (by have := HW3.out.size; simp at this ⊢; omega) ?_; intro v6 w6 ho hg; have HO6 := hid ho; have HB6 : Hid (Below wa.heap.size wa w6) := OwnV.grown (HO3.out.later (Below.al (Below.refl _ _) (.cells (vcs xk ⟨ys, yd, yv⟩) 46))) hg (Below.al HW3.out _) (Nat.le_refl _); clear ho hg)
          go_roundg (l.length - (i + 1))
          case measure => omega
          case rel => exact ⟨i + 1, by omega, rfl, by go_num, by rw [HT.out, HN.out], by rw [HT.out, HN3.out]; exact HO6.out, HB6⟩
        · have q1 : Op.bytesLess xk.toList yk.toList = false := hk'
          have q2 := toList_beq' (decide_eq_false (show ¬ xk = yk from hk))
          have HN : Hid (amD (m ++ [(yk, ⟨ys, yd, yv⟩)]) (xk, ⟨xs, xd, xv⟩) = false) := by show _ = _; rw [amD_snoc, hd, hf]; rfl
          have HN3 : Hid (amL (m ++ [(yk, ⟨ys, yd, yv⟩)]) (xk, ⟨xs, xd, xv⟩) = amL m (xk, ⟨xs, xd, xv⟩) ++ [(yk, ⟨ys, yd, yv⟩)]) := amL_before hd hf
          clear hd hf hk hk'
          go_wp2_with fail
          refine wp_region_quiet_below (by kernel_rfl) (by kernel_rfl) ?_
          repeat (go_big_quiet_step (fail))
          refine wpQuiet_nil ?_
          intro w3 hw3
          replace hw3 := below_of_regrown hw3
          have HO3 := hid (HO.out.later hw3)
          have HW3 : Hid (Below wa.heap.size wa w3) := Below.on HW.out hw3
          have vd := (HR.out.later HW3.out) i hlt
          clear b0 b1 b2 b3 d0 d1 d2 d3 hw3
          have f0 : w3.cell? ⟨b, off + i * 6, none⟩ = some (.string yk) := (VD.out w3 HW3.out).c0
          have f1 : w3.cell? ⟨b, off + i * 6 + 1, none⟩ = some (.int .u64 ys.a) := (VD.out w3 HW3.out).c1
          have f2 : w3.cell? ⟨b, off + i * 6 + 2, none⟩ = some (.int .u32 ys.b) := (VD.out w3 HW3.out).c2
          have f3 : w3.cell? ⟨b, off + i * 6 + 3, none⟩ = some (.int .u32 ys.c) := (VD.out w3 HW3.out).c3
          have f4 : w3.cell? ⟨b, off + i * 6 + 4, none⟩ = some (.bool yd) := (VD.out w3 HW3.out).c4
          have f5 : w3.cell? ⟨b, off + i * 6 + 5, none⟩ = some (.string yv) := (VD.out w3 HW3.out).c5
          clear vd
          go_wp2_with (at_builtin; refine append_V rfl _ _ rfl (yk, ⟨ys, yd, yv⟩) rfl (HO3.out.later (Below.al (Below.refl _ _) _)) rfl (ver_cells _ yk ⟨ys, yd, yv⟩) HL1.out (by have := HW3.out.size; simp at this ⊢; omega) ?_; intro v6 w6 ho hg; have HO6 := hid ho; have HB6 : Hid (Below wa.heap.size wa w6) := OwnV.grown (HO3.out.later (Below.al (Below.refl _ _) (.cells (vcs yk ⟨ys, yd, yv⟩) 46))) hg (Below.al HW3.out _) (Nat.le_refl _); clear ho hg)
          go_roundg (l.length - (i + 1))
          case measure => omega
          case rel => exact ⟨i + 1, by omega, rfl, by go_num, by rw [HT.out, HN.out], by rw [HT.out, HN3.out]; exact HO6.out, HB6⟩
    · obtain rfl : i = l.length := by omega
      rw [List.take_of_length_le (Nat.le_refl _)] at HO ⊢
      have HE := hid (amL_end (l := l) (e := (xk, ⟨xs, xd, xv⟩)))
      cases hd : amD l (xk, ⟨xs, xd, xv⟩) with
      | true =>
        have HE2 : Hid (amX l (xk, ⟨xs, xd, xv⟩) = amL l (xk, ⟨xs, xd, xv⟩)) := by show _ = _; rw [HE.out, if_pos hd]
        clear hd
        go_wp2_with fail
        go_ret
        refine ⟨_, rfl, ?_, HBA.out.trans (HW.out.mono hBs.out)⟩
        rw [HE2.out]
        exact HO.out.base hBs.out
      | false =>
        have HE2 : Hid (amX l (xk, ⟨xs, xd, xv⟩) = amL l (xk, ⟨xs, xd, xv⟩) ++ [(xk, ⟨xs, xd, xv⟩)]) := by show _ = _; rw [HE.out, if_neg (by rw [hd]; decide)]
        have hol := amL_len l (xk, ⟨xs, xd, xv⟩)
        have HL1 : Hid (((amL l (xk, ⟨xs, xd, xv⟩)).length + 1) * 64 ≤ 140737488355328) := hid (Nat.le_trans (Nat.mul_le_mul_right 64 (show _ ≤ l.length + 2 by omega)) hl)
        clear hd hol
        have x0 : wr.cell? ⟨B, 0, none⟩ = some (.string xk) := (VX.out.later HW.out).c0
        have x1 : wr.cell? ⟨B, 1, none⟩ = some (.int .u64 xs.a) := (VX.out.later HW.out).c1
        have x2 : wr.cell? ⟨B, 2, none⟩ = some (.int .u32 xs.b) := (VX.out.later HW.out).c2
        have x3 : wr.cell? ⟨B, 3, none⟩ = some (.int .u32 xs.c) := (VX.out.later HW.out).c3
        have x4 : wr.cell? ⟨B, 4, none⟩ = some (.bool xd) := (VX.out.later HW.out).c4
        have x5 : wr.cell? ⟨B, 5, none⟩ = some (.string xv) := (VX.out.later HW.out).c5
        go_wp2_with (at_builtin; refine append_V rfl _ _ rfl (xk, ⟨xs, xd, xv⟩) rfl (HO.out.later (Below.al (Below.refl _ _) _)) rfl (ver_cells _ xk ⟨xs, xd, xv⟩) HL1.out (by have := HW.out.size; simp at this ⊢; omega) ?_; intro v7 w7 ho hg; have HO7 := hid ho; have HB7 : Hid (Below wa.heap.size wa w7) := OwnV.grown (HO.out.later (Below.al (Below.refl _ _) (.cells (vcs xk ⟨xs, xd, xv⟩) 46))) hg (Below.al HW.out _) (Nat.le_refl _); clear ho hg)
        go_ret
        refine ⟨_, rfl, ?_, HBA.out.trans (HB7.out.mono hBs.out)⟩
        rw [HE2.out]
        exact HO7.out.base hBs.out
end Go.Proofs.YtaknkodjganacaaDoor.Vs
