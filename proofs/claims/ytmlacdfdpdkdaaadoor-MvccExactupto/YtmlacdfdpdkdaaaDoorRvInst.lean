import Derived.Test.YtmlacdfdpdkdaaaDoorVPruneP
import Derived.Test.YtmlacdfdpdkdaaaDoorRvSmall
import Derived.Deep.RegionHeld3
/- The document's insert. -/
namespace Go.Proofs.YtmlacdfdpdkdaaaDoor.Vs
open Go.RowKit Go.Sort
set_option linter.unusedVariables false

/-- what insert leaves -/
def InP (w : World) (B r : Nat) (v : Value) (L : List Kv) (mk : Sp) (x : Kv) (e : Ending) (w' : World) : Prop := e = .returned (.tuple #[]) ∧ ∃ v', Rs w' B r v' (amX L x) mk ∧ (∀ k, RsB r v' k → RsB r v k ∨ w.heap.size ≤ k) ∧ Onl (fun k => k = r) w w'
set_option maxRecDepth 16000 in
set_option maxHeartbeats 4000000 in
theorem rinsert_is {w : World} {B r : Nat} {v : Value} {L : List Kv} {mk : Sp} (h : Rs w B r v L mk) (hl : L.length ≤ 1099511627776) (hB : B ≤ w.heap.size) (hS : L.Pairwise fun x y => folB x y = true) (x : Kv) :
    Calls Tryd.prog 60 #[pt r, vv x.1 x.2] w (InP w B r v L mk x) := by
  obtain ⟨a, c, rfl, hrow⟩ := h.slice
  obtain ⟨xk, xs, xd, xv⟩ := x
  obtain ⟨w1, hw1⟩ : ∃ w1, w1 = w.alloc (.cells (vcs xk ⟨xs, xd, xv⟩) 76) := ⟨_, rfl⟩
  have hb1 : Below w.heap.size w w1 := by rw [hw1]; (repeat (first | with_reducible exact Below.refl _ _ | with_reducible assumption | with_reducible refine Below.drew ?_ | with_reducible refine Below.al ?_ _ | with_reducible refine Below.setCell ?_ (by first | exact Nat.le_refl _ | (simp; omega) | (simp; done)) _ | with_reducible refine Below.on ?_ (by assumption)))
  have HVX : Hid (VerAt w1 w.heap.size 0 xk ⟨xs, xd, xv⟩) := hid (by rw [hw1]; exact ver_cells _ _ _)
  have HR := hid (h.later hb1)
  have HROW := hid (hrow.later hb1)
  have HB1 := hid hb1
  have HBB := hid hB
  have HRL := hid h.lt
  obtain ⟨n, hn⟩ : ∃ n, n = L.length := ⟨_, rfl⟩
  have HN := hid hn
  have hn2 : n ≤ 1099511627776 := by omega
  have HSO := hid hS
  clear h hrow hb1 hn hl hB hS
  go_enter Tryd.func60, Tryd.ntmps60
  go_wp2_with fail
  rw [← hw1]
  clear hw1
  go_loopg [4, 5, 6] n (fun g s4 s5 s6 wr => ∃ k : Nat, ∃ za zc, ∃ l : List Kv, k ≤ n ∧ g = n - k ∧ s4 = .slice za l.length zc ∧ s5 = .bool (amD (L.take k) (xk, ⟨xs, xd, xv⟩)) ∧ s6 = .int .i64 k ∧ l.length ≤ k + 1 ∧ Hid (l = amL (L.take k) (xk, ⟨xs, xd, xv⟩)) ∧ Hid (OwnV wr w1.heap.size (.slice za l.length zc) l) ∧ Hid (Below w1.heap.size w1 wr))
  case atStart => exact ⟨0, none, 0, [], by omega, by omega, rfl, rfl, rfl, by simp, hid rfl, hid (OwnV.nil _ _), hid (Below.refl _ _)⟩
  case round =>
    obtain ⟨k, za, zc, l, hk, rfl, rfl, rfl, rfl, hll, HE, HO, HB⟩ := hrel
    have HRr := hid (HR.out.later HB.out)
    have c0 := HRr.out.c0
    rw [← HN.out] at c0
    by_cases hlt : k < n
    · have hkL : k < L.length := by rw [← HN.out]; exact hlt
      obtain ⟨b, off, rfl, hv0⟩ := HROW.out k hkL
      have hT := nthK_take hkL
      have hP : (L.take k ++ [nthK L k]).Pairwise fun x y => folB x y = true := by rw [← hT]; exact HSO.out.sublist (List.take_sublist _ _)
      obtain ⟨⟨k1, s1, d1, v1⟩, hx⟩ : ∃ y, y = nthK L k := ⟨_, rfl⟩
      rw [← hx] at hv0 hT hP
      have HV0 := hid hv0
      have hv := hv0.later HB.out
      have HV := hid hv
      clear hv0
      have y0 := cell_regrown hv.c0
      have y1 := cell_regrown hv.c1
      have y2 := cell_regrown hv.c2
      have y3 := cell_regrown hv.c3
      have y4 := cell_regrown hv.c4
      have y5 := cell_regrown hv.c5
      have e0 := cell_regrown c0
      have p0 := cell_regrown (HVX.out.later HB.out).c0
      have p1 := cell_regrown (HVX.out.later HB.out).c1
      have p2 := cell_regrown (HVX.out.later HB.out).c2
      have p3 := cell_regrown (HVX.out.later HB.out).c3
      have p4 := cell_regrown (HVX.out.later HB.out).c4
      have p5 := cell_regrown (HVX.out.later HB.out).c5
      simp only [Nat.zero_add] at y0 y1 y2 y3 y4 y5 p0 p1 p2 p3 p4 p5
      have HLK : Hid (k + 2 ≤ 1099511627778) := hid (by omega)
      have HL1 : Hid ((l.length + 1) * 64 ≤ 140737488355328) := hid (by omega)
      obtain ⟨ud, hud⟩ : ∃ ud, amD (L.take k) (xk, ⟨xs, xd, xv⟩) = ud := ⟨_, rfl⟩
      rw [hud]
      cases ud with
      | true =>
        have hf := amD_behind hP hud
        have HD : Hid (amD (L.take (k + 1)) (xk, ⟨xs, xd, xv⟩) = true) := hid (by rw [hT, amD_snoc, hud]; rfl)
        have HL : Hid (l ++ [(k1, ⟨s1, d1, v1⟩)] = amL (L.take (k + 1)) (xk, ⟨xs, xd, xv⟩)) := hid (by rw [hT, amL_behind hud hf, HE.out])
        clear hx hkL hv hT hP hud hf
        go_wp2_with fail
        clear c0
        refine wp_region_quiet_below (by kernel_rfl) (by kernel_rfl) ?_
        repeat (go_big_quiet_step (fail))
        refine wpQuiet_nil ?_
        intro w5 hw5
        replace hw5 := below_of_regrown hw5
        have HW5 := hid (Below.on HB.out hw5)
        have HO5 := hid (HO.out.later hw5)
        have f0 := (HRr.out.later hw5).c0
        rw [← HN.out] at f0
        obtain ⟨x0, x1, x2, x3, x4, x5⟩ := HV.out.later hw5
        simp only at x0 x1 x2 x3 x4 x5
        clear hw5 y0 y1 y2 y3 y4 y5 e0 p0 p1 p2 p3 p4 p5
        go_wp2_with (at_builtin; refine append_V rfl _ _ rfl (k1, ⟨s1, d1, v1⟩) rfl (HO5.out.later (Below.al (Below.refl _ _) _)) rfl (ver_cells _ k1 ⟨s1, d1, v1⟩) HL1.out (by have := HW5.out.size; simp at this ⊢; omega) ?_; intro v7 w7 ho hg; obtain ⟨za', zc', e9⟩ := OwnV.slice ho; subst e9; have HO7 := hid ho; have HB7 : Hid (Below w1.heap.size w1 w7) := hid (OwnV.grown (HO5.out.later (Below.al (Below.refl _ _) (.cells (vcs k1 ⟨s1, d1, v1⟩) 76))) hg (Below.al HW5.out _) (Nat.le_refl _)); clear ho hg)
        go_roundg (n - (k + 1))
        case measure => omega
        case rel => exact ⟨k + 1, za', zc', _, by omega, rfl, by rw [List.length_append]; rfl, by rw [HD.out], by go_num, by rw [List.length_append]; simp; omega, HL, HO7, HB7⟩
      | false =>
        obtain ⟨uf, huf⟩ : ∃ uf, folB (xk, ⟨xs, xd, xv⟩) (k1, ⟨s1, d1, v1⟩) = uf := ⟨_, rfl⟩
        have AF := hid fun wz => rafter_is (d := (xk, ⟨xs, xd, xv⟩)) (e := (k1, ⟨s1, d1, v1⟩)) huf wz
        cases uf with
        | false =>
          have HD : Hid (amD (L.take (k + 1)) (xk, ⟨xs, xd, xv⟩) = false) := hid (by rw [hT, amD_snoc, hud, huf]; rfl)
          have HL : Hid (l ++ [(k1, ⟨s1, d1, v1⟩)] = amL (L.take (k + 1)) (xk, ⟨xs, xd, xv⟩)) := hid (by rw [hT, amL_before hud huf, HE.out])
          clear hx hkL hv hT hP hud huf
          go_wp2_with fail
          clear c0
          refine wp_region_quiet_below (by kernel_rfl) (by kernel_rfl) ?_
          repeat (go_big_quiet_step ((go_at_call 67; exact Calls.regrown_of (AF.out _))))
          refine wpQuiet_nil ?_
          intro w5 hw5
          replace hw5 := below_of_regrown hw5
          have HW5 := hid (Below.on HB.out hw5)
          have HO5 := hid (HO.out.later hw5)
          have f0 := (HRr.out.later hw5).c0
          rw [← HN.out] at f0
          obtain ⟨x0, x1, x2, x3, x4, x5⟩ := HV.out.later hw5
          simp only at x0 x1 x2 x3 x4 x5
          clear hw5 y0 y1 y2 y3 y4 y5 e0 p0 p1 p2 p3 p4 p5
          go_wp2_with (at_builtin; refine append_V rfl _ _ rfl (k1, ⟨s1, d1, v1⟩) rfl (HO5.out.later (Below.al (Below.refl _ _) _)) rfl (ver_cells _ k1 ⟨s1, d1, v1⟩) HL1.out (by have := HW5.out.size; simp at this ⊢; omega) ?_; intro v7 w7 ho hg; obtain ⟨za7, zc7, e9⟩ := OwnV.slice ho; subst e9; have HO7 := hid ho; have HB7 : Hid (Below w1.heap.size w1 w7) := hid (OwnV.grown (HO5.out.later (Below.al (Below.refl _ _) (.cells (vcs k1 ⟨s1, d1, v1⟩) 76))) hg (Below.al HW5.out _) (Nat.le_refl _)); clear ho hg)
          go_roundg (n - (k + 1))
          case measure => omega
          case rel => exact ⟨k + 1, za7, zc7, _, by omega, rfl, by rw [List.length_append]; rfl, by rw [HD.out], by go_num, by rw [List.length_append]; simp; omega, HL, HO7, HB7⟩
        | true =>
          have HD : Hid (amD (L.take (k + 1)) (xk, ⟨xs, xd, xv⟩) = true) := hid (by rw [hT, amD_snoc, hud, huf]; rfl)
          have HL : Hid (l ++ [(xk, ⟨xs, xd, xv⟩)] ++ [(k1, ⟨s1, d1, v1⟩)] = amL (L.take (k + 1)) (xk, ⟨xs, xd, xv⟩)) := hid (by rw [hT, amL_here hud huf, HE.out])
          have HLL : Hid (l.length ≤ k) := hid (by
            rw [HE.out]
            have h1 : (L.take k).filter (fun d => folB (xk, ⟨xs, xd, xv⟩) d) = [] := List.filter_eq_nil_iff.2 fun y hy => by
              unfold amD at hud; have := List.any_eq_false.1 hud y hy; simpa using this
            unfold amL
            rw [hud, h1]
            simp only [Bool.false_eq_true, if_false, List.append_nil]
            refine Nat.le_trans (List.length_filter_le _ _) ?_
            rw [List.length_take]; omega)
          have HL2 : Hid (((l ++ [(xk, (⟨xs, xd, xv⟩ : Ver))]).length + 1) * 64 ≤ 140737488355328) := hid (by rw [List.length_append]; simp; omega)
          clear hx hkL hv hT hP hud huf
          go_wp2_with fail
          clear c0
          refine wp_region_quiet_below (by kernel_rfl) (by kernel_rfl) ?_
          repeat (go_big_quiet_step ((go_at_call 67; exact Calls.regrown_of (AF.out _))))
          refine wpQuiet_nil ?_
          intro w5 hw5
          replace hw5 := below_of_regrown hw5
          have HW5 := hid (Below.on HB.out hw5)
          have HO5 := hid (HO.out.later hw5)
          obtain ⟨g0, g1, g2, g3, g4, g5⟩ := (HVX.out.later HB.out).later hw5
          simp only [Nat.zero_add] at g0 g1 g2 g3 g4 g5
          clear hw5 y0 y1 y2 y3 y4 y5 e0 p0 p1 p2 p3 p4 p5
          go_wp2_with (first | (have hsw := HV9; at_builtin; refine append_V rfl _ _ rfl (k1, ⟨s1, d1, v1⟩) rfl (HO7.out.later (Below.al (Below.refl _ _) _)) rfl (ver_cells _ k1 ⟨s1, d1, v1⟩) HL3.out (by have := HB7.out.size; simp at this ⊢; omega) ?_; intro v8 w8 ho hg; obtain ⟨za8, zc8, e9⟩ := OwnV.slice ho; subst e9; have HO8 := hid ho; have HB8 : Hid (Below w1.heap.size w1 w8) := hid (OwnV.grown (HO7.out.later (Below.al (Below.refl _ _) (.cells (vcs k1 ⟨s1, d1, v1⟩) 76))) hg (Below.al HB7.out _) (Nat.le_refl _)); clear ho hg) | (at_builtin; refine append_V rfl _ _ rfl (xk, ⟨xs, xd, xv⟩) rfl (HO5.out.later (Below.al (Below.refl _ _) _)) rfl (ver_cells _ xk ⟨xs, xd, xv⟩) HL1.out (by have := HW5.out.size; simp at this ⊢; omega) ?_; intro v7 w7 ho hg; obtain ⟨l2, hl2⟩ : ∃ l2, l2 = l ++ [(xk, (⟨xs, xd, xv⟩ : Ver))] := ⟨_, rfl⟩; rw [← hl2] at ho; have HL3 : Hid ((l2.length + 1) * 64 ≤ 140737488355328) := hid (by rw [hl2]; exact HL2.out); have HLF : Hid (l2 ++ [(k1, ⟨s1, d1, v1⟩)] = amL (L.take (k + 1)) (xk, ⟨xs, xd, xv⟩)) := hid (by rw [hl2]; exact HL.out); have HLG : Hid (l2.length ≤ k + 1) := hid (by rw [hl2, List.length_append]; have := HLL.out; simp; omega); clear hl2; obtain ⟨za7, zc7, e9⟩ := OwnV.slice ho; subst e9; have HO7 := hid ho; have HB7 : Hid (Below w1.heap.size w1 w7) := hid (OwnV.grown (HO5.out.later (Below.al (Below.refl _ _) (.cells (vcs xk ⟨xs, xd, xv⟩) 76))) hg (Below.al HW5.out _) (Nat.le_refl _)); have f0 := (HR.out.later HB7.out).c0; rw [← HN.out] at f0; have HV9 := hid (HV0.out.later HB7.out); obtain ⟨x0, x1, x2, x3, x4, x5⟩ := HV0.out.later HB7.out; simp only at x0 x1 x2 x3 x4 x5; clear ho hg))
          go_roundg (n - (k + 1))
          case measure => omega
          case rel => exact ⟨k + 1, za8, zc8, _, by omega, rfl, by rw [List.length_append]; rfl, by rw [HD.out], by go_num, by rw [List.length_append]; have := HLG.out; simp; omega, HLF, HO8, HB8⟩
    · obtain rfl : n = k := by omega
      have HLX : Hid (amX L (xk, ⟨xs, xd, xv⟩) = if amD L (xk, ⟨xs, xd, xv⟩) then l else l ++ [(xk, ⟨xs, xd, xv⟩)]) := hid (by
        have := HE.out
        rw [HN.out, List.take_length] at this
        rw [amL_end, this])
      have hD : amD (L.take n) (xk, ⟨xs, xd, xv⟩) = amD L (xk, ⟨xs, xd, xv⟩) := by rw [HN.out, List.take_length]
      rw [hD]
      obtain ⟨ud, hud⟩ : ∃ ud, amD L (xk, ⟨xs, xd, xv⟩) = ud := ⟨_, rfl⟩
      rw [hud] at HLX ⊢
      have hfz := HRr.out.loose
      have HLO : Hid (∀ k, (Value.slice za l.length zc).ownBlock = some k → w1.heap.size ≤ k) := hid fun k e => (World.ownsRow.lt HO.out k e).1
      have HLL1 : Hid ((l.length + 1) * 64 ≤ 140737488355328) := hid (by omega)
      clear hD hud
      cases ud with
      | true =>
        go_wp2_with fail
        go_end0
        have hS := HB1.out.size
        refine ⟨rfl, .slice za l.length zc, ?_, fun k hk => ?_, ?_⟩
        · rw [HLX.out]
          exact list_set HRr.out (HO.out.base (Nat.le_trans HBB.out hS)) fun e => by have := HLO.out r e; have := HRL.out; omega
        · rcases hk with hk | hk
          · exact .inl (.inl hk)
          · exact .inr (Nat.le_trans hS (HLO.out k hk))
        · exact Onl.set (F := fun k => k = r) (Onl.of_below (Below.on HB1.out HB.out)) rfl _ _
      | false =>
        obtain ⟨g0, g1, g2, g3, g4, g5⟩ := HVX.out.later HB.out
        simp only [Nat.zero_add] at g0 g1 g2 g3 g4 g5
        go_wp2_with (at_builtin; refine append_V rfl _ _ rfl (xk, ⟨xs, xd, xv⟩) rfl (HO.out.later (Below.al (Below.refl _ _) _)) rfl (ver_cells _ xk ⟨xs, xd, xv⟩) HLL1.out (by have := HB.out.size; simp at this ⊢; omega) ?_; intro v7 w7 ho hg; have HB7 : Hid (Below w1.heap.size w1 w7) := hid (OwnV.grown (HO.out.later (Below.al (Below.refl _ _) (.cells (vcs xk ⟨xs, xd, xv⟩) 76))) hg (Below.al HB.out _) (Nat.le_refl _)); have HLX2 : Hid (amX L (xk, ⟨xs, xd, xv⟩) = l ++ [(xk, ⟨xs, xd, xv⟩)]) := hid HLX.out; obtain ⟨l2, hl2⟩ : ∃ l2, l2 = l ++ [(xk, (⟨xs, xd, xv⟩ : Ver))] := ⟨_, rfl⟩; rw [← hl2] at ho HLX2; clear hl2; obtain ⟨za7, zc7, e9⟩ := OwnV.slice ho; subst e9; have HO7 := hid ho; have q0 := (HR.out.later HB7.out).c0; have qf := (HR.out.later HB7.out).loose; clear ho hg)
        go_end0
        have hS := HB1.out.size
        have HLO7 : ∀ k, (Value.slice za7 l2.length zc7).ownBlock = some k → w1.heap.size ≤ k := fun k e => (World.ownsRow.lt HO7.out k e).1
        refine ⟨rfl, .slice za7 l2.length zc7, ?_, fun k hk => ?_, ?_⟩
        · rw [HLX2.out]
          exact list_set (HR.out.later HB7.out) (HO7.out.base (Nat.le_trans HBB.out hS)) fun e => by have := HLO7 r e; have := HRL.out; omega
        · rcases hk with hk | hk
          · exact .inl (.inl hk)
          · exact .inr (Nat.le_trans hS (HLO7 k hk))
        · exact Onl.set (F := fun k => k = r) (Onl.of_below (Below.on HB1.out HB7.out)) rfl _ _
end Go.Proofs.YtmlacdfdpdkdaaaDoor.Vs
/- The document's valid: writes that may be installed. -/
namespace Go.Proofs.YtmlacdfdpdkdaaaDoor.Vs
open Go.RowKit Go.Sort
set_option linter.unusedVariables false

/-- by its place: the first one has none ahead of it -/
theorem writeAt_ref (xs : List Wr) (i : Nat) : writeAt xs i = (wOk (nthW xs i) && (decide (i = 0) || ltS (nthW xs (i - 1)).key (nthW xs i).key)) := by
  rw [writeAt_eq]
  by_cases h : i = 0
  · subst h
    have e : prevW xs 0 = ⟨#[]⟩ := rfl
    rw [e, lt_empty]
    unfold wOk
    cases emS (nthW xs 0).key <;> simp
  · unfold prevW
    rw [if_neg h, decide_eq_false h]; rfl
set_option maxRecDepth 16000 in
set_option maxHeartbeats 4000000 in
theorem rvalid_is {a : Option Addr} {c : Nat} {xs : List Wr} {w : World} {u : Bool} (hu : writesOk xs = u) (h : RowW w a xs) (hl : xs.length ≤ 1152921504606846976) :
    Calls Tryd.prog 59 #[.slice a xs.length c] w fun e w' => e = .returned (.bool u) ∧ Below w.heap.size w w' := by
  subst hu
  by_cases h16 : 16 < (xs.length : Int)
  · go_enter Tryd.func59, Tryd.ntmps59
    go_wp2_with fail
    go_ret
    refine ⟨ret_bool ?_, by (repeat (first | with_reducible exact Below.refl _ _ | with_reducible assumption | with_reducible refine Below.drew ?_ | with_reducible refine Below.al ?_ _ | with_reducible refine Below.setCell ?_ (by first | exact Nat.le_refl _ | (simp; omega) | (simp; done)) _ | with_reducible refine Below.on ?_ (by assumption)))⟩
    rw [writesOk, decide_eq_false (by omega)]; rfl
  have H16 := hid h16
  have h16' : decide (16 < (xs.length : Int)) = false := decide_eq_false h16
  have hn16 : xs.length ≤ 16 := by omega
  have HROW := hid h
  clear h16 h
  go_enter Tryd.func59, Tryd.ntmps59
  go_wp2_with fail
  go_loopg [3] xs.length (fun g s3 wr => ∃ k : Nat, k ≤ xs.length ∧ g = xs.length - k ∧ s3 = .int .i64 k ∧ Hid (Below w.heap.size w wr) ∧ Hid (allB (writeAt xs) k = true))
  case atStart => exact ⟨0, by omega, by omega, rfl, hid (Below.refl _ _), hid rfl⟩
  case round =>
    obtain ⟨k, hk, rfl, rfl, HB, HA⟩ := hrel
    by_cases hlt : k < xs.length
    · obtain ⟨b, off, rfl, c0, c1, c2⟩ := (HROW.out.later HB.out) k hlt
      have HQ0 := hid (writeAt_ref xs k)
      have HPV : Hid (0 < k → wr.cell? ⟨b, off + (k - 1) * 3, none⟩ = some (.string (nthW xs (k - 1)).key)) := hid (fun h0 => by
        obtain ⟨b', off', e', d0, _, _⟩ := (HROW.out.later HB.out) (k - 1) (by omega)
        injection e' with e'; injection e' with e1 e2
        subst e1 e2
        exact d0)
      obtain ⟨p, hp⟩ : ∃ p, p = (nthW xs (k - 1)).key := ⟨_, rfl⟩
      obtain ⟨x, hx⟩ : ∃ x, x = nthW xs k := ⟨_, rfl⟩
      rw [← hx] at c0 c1 c2 HQ0
      rw [← hp] at HQ0 HPV
      clear hp hx
      obtain ⟨xk, xd, xv⟩ := x
      simp only at c0 c1 c2 HQ0
      obtain ⟨u1, h1⟩ : ∃ u, (!emS xk && decide (xk.size ≤ 32)) = u := ⟨_, rfl⟩
      have K1 := hid fun wz => rkey_is h1 wz
      obtain ⟨u3, h3⟩ : ∃ u, emS xv = u := ⟨_, rfl⟩
      have hv3 : xv.toList.isEmpty = u3 := h3
      have hv3' : (xv.toList = []) = (u3 = true) := by rw [← h3]; simp [emS]
      have HW : Hid (wOk ⟨xk, xd, xv⟩ = (u1 && decide (xv.size ≤ 64) && (!xd || u3))) := hid (by unfold wOk; simp only; rw [h1, h3])
      clear h1 h3
      cases u1
      · have HQ : Hid (writeAt xs k = false) := hid (by rw [HQ0.out, HW.out]; simp)
        go_wp2_with (go_at_call 66; refine (K1.out _).mono ?_; rintro e w1 ⟨rfl, rfl⟩)
        go_ret
        refine ⟨ret_bool ?_, by have hB := HB.out; exact Below.al hB _⟩
        rw [writesOk, allB_no HQ.out _ hlt, Bool.and_false]
      · by_cases h64 : xv.size ≤ 64
        · have h64' : ¬ (64 : Int) < (xv.size : Int) := by omega
          cases xd
          · have HWT : Hid (wOk ⟨xk, _, xv⟩ = true) := hid (by rw [HW.out]; simp [h64])
            by_cases hk0 : k = 0
            · subst hk0
              simp only [Nat.zero_mul, Nat.add_zero] at c0 c1 c2
              have HQ : Hid (writeAt xs 0 = true) := hid (by rw [HQ0.out, HWT.out]; rfl)
              clear HPV
              go_wp2_with (go_at_call 66; refine (K1.out _).mono ?_; rintro e w1 ⟨rfl, rfl⟩)
              refine wp_region_quiet_below (by kernel_rfl) (by kernel_rfl) ?_
              repeat (go_big_quiet_step (fail))
              refine wpQuiet_nil ?_
              intro w5 hw5
              replace hw5 := below_of_regrown hw5
              have HW5 : Hid (Below w.heap.size w w5) := hid (Below.on (Below.al HB.out _) hw5)
              clear hw5
              go_wp2_with fail
              go_roundg (xs.length - (0 + 1))
              case measure => omega
              case rel => exact ⟨0 + 1, by omega, rfl, by go_num, HW5, hid (allB_yes HA.out HQ.out)⟩
            · obtain ⟨ul, hul⟩ : ∃ ul, ltS p xk = ul := ⟨_, rfl⟩
              have HQ : Hid (writeAt xs k = ul) := hid (by rw [HQ0.out, HWT.out, decide_eq_false hk0, hul]; rfl)
              have d0 := HPV.out (by omega)
              have hkI : (0 : Int) < (k : Int) := by omega
              have hkd : decide ((0 : Int) < (k : Int)) = true := decide_eq_true hkI
              have hkd2 : decide (0 < k) = true := decide_eq_true (by omega)
              obtain ⟨j, hj⟩ : ∃ j, k - 1 = j := ⟨_, rfl⟩
              have hkj : (k : Int) - 1 = (j : Int) := by omega
              have hjn : j < xs.length := by omega
              rw [hj] at d0
              have hge : (!Op.bytesLess p.toList xk.toList) = !ul := by rw [← hul]; rfl
              have HB3 : Hid (Below wr.heap.size wr (wr.alloc (.cells #[.string xk, .bool false, .string xv] 28))) := hid (Below.al (Below.refl _ _) _)
              have e0 := cell_regrown (cell_later HB3.out d0)
              have e1 : Hid ((wr.alloc (.cells #[.string xk, .bool false, .string xv] 28)).cell? ⟨wr.heap.size, 0, none⟩ = some (.string xk)) := hid (by simp)
              have e2 := cell_regrown e1.out
              clear hj hk0 hul d0
              cases ul
              all_goals
                go_wp2_with (go_at_call 66; refine (K1.out _).mono ?_; rintro e w1 ⟨rfl, rfl⟩)
                refine wp_region_quiet_below (by kernel_rfl) (by kernel_rfl) ?_
                repeat (go_big_quiet_step (fail))
                refine wpQuiet_nil ?_
                intro w5 hw5
                replace hw5 := below_of_regrown hw5
                have HW5 : Hid (Below w.heap.size w w5) := hid (Below.on (Below.al HB.out _) hw5)
                clear hw5 e0 e2
                go_wp2_with fail
              · go_ret
                refine ⟨ret_bool ?_, HW5.out⟩
                rw [writesOk, allB_no HQ.out _ hlt, Bool.and_false]
              · go_roundg (xs.length - (k + 1))
                case measure => omega
                case rel => exact ⟨k + 1, by omega, rfl, by go_num, HW5, hid (allB_yes HA.out HQ.out)⟩
          · cases u3
            · have HQ : Hid (writeAt xs k = false) := hid (by rw [HQ0.out, HW.out]; simp)
              go_wp2_with (go_at_call 66; refine (K1.out _).mono ?_; rintro e w1 ⟨rfl, rfl⟩)
              go_ret
              refine ⟨ret_bool ?_, by have hB := HB.out; exact Below.al hB _⟩
              rw [writesOk, allB_no HQ.out _ hlt, Bool.and_false]
            · have HWT : Hid (wOk ⟨xk, _, xv⟩ = true) := hid (by rw [HW.out]; simp [h64])
              by_cases hk0 : k = 0
              · subst hk0
                simp only [Nat.zero_mul, Nat.add_zero] at c0 c1 c2
                have HQ : Hid (writeAt xs 0 = true) := hid (by rw [HQ0.out, HWT.out]; rfl)
                clear HPV
                go_wp2_with (go_at_call 66; refine (K1.out _).mono ?_; rintro e w1 ⟨rfl, rfl⟩)
                refine wp_region_quiet_below (by kernel_rfl) (by kernel_rfl) ?_
                repeat (go_big_quiet_step (fail))
                refine wpQuiet_nil ?_
                intro w5 hw5
                replace hw5 := below_of_regrown hw5
                have HW5 : Hid (Below w.heap.size w w5) := hid (Below.on (Below.al HB.out _) hw5)
                clear hw5
                go_wp2_with fail
                go_roundg (xs.length - (0 + 1))
                case measure => omega
                case rel => exact ⟨0 + 1, by omega, rfl, by go_num, HW5, hid (allB_yes HA.out HQ.out)⟩
              · obtain ⟨ul, hul⟩ : ∃ ul, ltS p xk = ul := ⟨_, rfl⟩
                have HQ : Hid (writeAt xs k = ul) := hid (by rw [HQ0.out, HWT.out, decide_eq_false hk0, hul]; rfl)
                have d0 := HPV.out (by omega)
                have hkI : (0 : Int) < (k : Int) := by omega
                have hkd : decide ((0 : Int) < (k : Int)) = true := decide_eq_true hkI
                have hkd2 : decide (0 < k) = true := decide_eq_true (by omega)
                obtain ⟨j, hj⟩ : ∃ j, k - 1 = j := ⟨_, rfl⟩
                have hkj : (k : Int) - 1 = (j : Int) := by omega
                have hjn : j < xs.length := by omega
                rw [hj] at d0
                have hge : (!Op.bytesLess p.toList xk.toList) = !ul := by rw [← hul]; rfl
                have HB3 : Hid (Below wr.heap.size wr (wr.alloc (.cells #[.string xk, .bool true, .string xv] 28))) := hid (Below.al (Below.refl _ _) _)
                have e0 := cell_regrown (cell_later HB3.out d0)
                have e1 : Hid ((wr.alloc (.cells #[.string xk, .bool true, .string xv] 28)).cell? ⟨wr.heap.size, 0, none⟩ = some (.string xk)) := hid (by simp)
                have e2 := cell_regrown e1.out
                clear hj hk0 hul d0
                cases ul
                all_goals
                  go_wp2_with (go_at_call 66; refine (K1.out _).mono ?_; rintro e w1 ⟨rfl, rfl⟩)
                  refine wp_region_quiet_below (by kernel_rfl) (by kernel_rfl) ?_
                  repeat (go_big_quiet_step (fail))
                  refine wpQuiet_nil ?_
                  intro w5 hw5
                  replace hw5 := below_of_regrown hw5
                  have HW5 : Hid (Below w.heap.size w w5) := hid (Below.on (Below.al HB.out _) hw5)
                  clear hw5 e0 e2
                  go_wp2_with fail
                · go_ret
                  refine ⟨ret_bool ?_, HW5.out⟩
                  rw [writesOk, allB_no HQ.out _ hlt, Bool.and_false]
                · go_roundg (xs.length - (k + 1))
                  case measure => omega
                  case rel => exact ⟨k + 1, by omega, rfl, by go_num, HW5, hid (allB_yes HA.out HQ.out)⟩
        · have h64' : (64 : Int) < (xv.size : Int) := by omega
          have HQ : Hid (writeAt xs k = false) := hid (by rw [HQ0.out, HW.out]; simp [h64])
          go_wp2_with (go_at_call 66; refine (K1.out _).mono ?_; rintro e w1 ⟨rfl, rfl⟩)
          go_ret
          refine ⟨ret_bool ?_, by have hB := HB.out; exact Below.al hB _⟩
          rw [writesOk, allB_no HQ.out _ hlt, Bool.and_false]
    · obtain rfl : k = xs.length := by omega
      go_wp2_with fail
      go_ret
      refine ⟨ret_bool ?_, HB.out⟩
      rw [writesOk, HA.out, decide_eq_true hn16]; rfl
end Go.Proofs.YtmlacdfdpdkdaaaDoor.Vs
/- The document's Install. -/
namespace Go.Proofs.YtmlacdfdpdkdaaaDoor.Vs
open Go.RowKit Go.Sort
set_option linter.unusedVariables false

/-- may the write be laid at t? -/
def frB (L : List Kv) (t : Sp) (k : ByteArray) : Bool := L.all fun e => !decide (e.1 = k) || e.2.s.lt t
theorem fr_free {M : Mst} (h : Good M) (t : Sp) (x : Wr) : frB (dumpM M) t x.key = freeB M t x := by
  rw [Bool.eq_iff_iff]
  unfold frB
  rw [List.all_eq_true, free_over]
  constructor
  · intro ha cs hg u hu
    have := ha (x.key, u) (dump_mem.2 ⟨cs, (getX_some h.rising).1 hg, hu⟩)
    simpa using this
  · rintro ho ⟨k, u⟩ he
    obtain ⟨cs, hc, hu⟩ := dump_mem.1 he
    by_cases hk : k = x.key
    · subst hk
      have := ho cs ((getX_some h.rising).2 hc) u hu
      simp [this]
    · simp [hk]
theorem frB_take {L : List Kv} {j : Nat} (hj : j < L.length) (t : Sp) (k : ByteArray) : frB (L.take (j + 1)) t k = (frB (L.take j) t k && (!decide ((nthK L j).1 = k) || (nthK L j).2.s.lt t)) := by
  rw [nthK_take hj]; simp [frB]
theorem frB_no {L : List Kv} {j : Nat} {t : Sp} {k : ByteArray} (h : frB (L.take j) t k = false) : frB L t k = false := by
  rw [Bool.eq_false_iff] at h ⊢
  intro ha
  apply h
  unfold frB at ha ⊢
  rw [List.all_eq_true] at ha ⊢
  exact fun e he => ha e (List.mem_of_mem_take he)
/-- all writes ahead of place i may be laid -/
def frW (L : List Kv) (t : Sp) (ws : List Wr) (i : Nat) : Bool := (ws.take i).all fun x => frB L t x.key
theorem frW_take {L : List Kv} {t : Sp} {ws : List Wr} {i : Nat} (hi : i < ws.length) : frW L t ws (i + 1) = (frW L t ws i && frB L t (nthW ws i).key) := by
  unfold frW; rw [nthW_take hi]; simp
theorem frW_no {L : List Kv} {t : Sp} {ws : List Wr} {i : Nat} (hi : i < ws.length) (h : frB L t (nthW ws i).key = false) : ws.all (fun x => frB L t x.key) = false := by
  rw [Bool.eq_false_iff]
  intro ha
  rw [List.all_eq_true.1 ha (nthW ws i) (by simp [nthW, hi])] at h
  cases h
/-- what Install leaves -/
def IsP (w : World) (B r : Nat) (v : Value) (M : Mst) (mk : Sp) (ws : List Wr) (t : Sp) (e : Ending) (w' : World) : Prop := e = .returned (.int .i64 (instE M ws t)) ∧ ∃ v', Rs w' B r v' (dumpM (instR M ws t)) mk ∧ (∀ k, RsB r v' k → RsB r v k ∨ w.heap.size ≤ k) ∧ Onl (fun k => k = r) w w'
theorem inst_good {M : Mst} (h : Good M) {ws : List Wr} (hw : writesOk ws = true) {t : Sp} (ha : ws.all (freeB M t) = true) : ∀ i, i ≤ ws.length → Good (instM M (ws.take i) t)
  | 0, _ => by simpa [instM] using h
  | i + 1, hi => by
    rw [nthW_take (by omega : i < ws.length), instM_snoc]
    exact (inst_good h hw ha i (by omega)).add (inst_over h.rising hw ha (by omega))
/-- the third loop's state -/
structure Iv (w wr : World) (B r : Nat) (v v' : Value) (M : Mst) (mk : Sp) (ws : List Wr) (t : Sp) (i : Nat) : Prop where
  rs : Rs wr B r v' (dumpM (instM M (ws.take i) t)) mk
  new : ∀ k, RsB r v' k → RsB r v k ∨ w.heap.size ≤ k
  onl : Onl (fun k => k = r) w wr
set_option maxRecDepth 16000 in
set_option maxHeartbeats 4000000 in
theorem rinstall_is {w : World} {B r c : Nat} {v : Value} {M : Mst} {mk : Sp} {a : Option Addr} {ws : List Wr} (hG : Good M) (h : Rs w B r v (dumpM M) mk) (hr : RowW w a ws) (hF : 0 < ws.length → ∀ b off, a = some ⟨b, off, none⟩ → b ≠ r) (hl : ws.length ≤ 1152921504606846976) (hn : countM M + 17 ≤ 1099511627776) (hB : B ≤ w.heap.size) (t : Sp) (ht : t.a ≤ 18446744073709551615) :
    Calls Tryd.prog 34 #[pt r, .slice a ws.length c, sv t] w (IsP w B r v M mk ws t) := by
  obtain ⟨w1, hw1⟩ : ∃ w1, w1 = w.alloc (.cells #[.int .u64 t.a, .int .u32 t.b, .int .u32 t.c] 33) := ⟨_, rfl⟩
  have hb1 : Below w.heap.size w w1 := by rw [hw1]; (repeat (first | with_reducible exact Below.refl _ _ | with_reducible assumption | with_reducible refine Below.drew ?_ | with_reducible refine Below.al ?_ _ | with_reducible refine Below.setCell ?_ (by first | exact Nat.le_refl _ | (simp; omega) | (simp; done)) _ | with_reducible refine Below.on ?_ (by assumption)))
  have HT : Hid (StC w1 w.heap.size t) := hid (by rw [hw1]; exact ⟨by simp, by simp, by simp⟩)
  have HR := hid (h.later hb1)
  have HROW := hid (hr.later hb1)
  have HB1 := hid hb1
  have HH := hid h
  have HBB := hid hB
  have HRL := hid h.lt
  have HGM := hid hG
  have HF := hid hF
  have HCN := hid hn
  clear h hr hb1 hG hF hn hB
  by_cases h11 : t.a = 18446744073709551615
  · have hq : (t.a == 18446744073709551615) = true := by simp [h11]
    have HE : Hid (instE M ws t = 11 ∧ instR M ws t = M) := hid (by
      have e : instE M ws t = 11 := by unfold instE; rw [decide_eq_false (by omega)]; rfl
      exact ⟨e, by unfold instR; rw [e]; rfl⟩)
    clear h11
    go_enter Tryd.func34, Tryd.ntmps34
    go_wp2_with fail
    go_ret
    refine ⟨by rw [HE.out.1]; rfl, v, ?_, fun k hk => .inl hk, ?_⟩
    · rw [HE.out.2]; exact HH.out.later (Below.al (Below.refl _ _) _)
    · exact Onl.of_below (Below.al (Below.refl _ _) _)
  · have hq : (t.a == 18446744073709551615) = false := by simp [h11]
    have hta : decide (t.a < 18446744073709551615) = true := decide_eq_true (by omega)
    obtain ⟨uv, huv⟩ : ∃ uv, writesOk ws = uv := ⟨_, rfl⟩
    have HVL := hid (rvalid_is (c := c) huv HROW.out hl)
    cases uv with
    | false =>
      have HE : Hid (instE M ws t = 1 ∧ instR M ws t = M) := hid (by
        have e : instE M ws t = 1 := by unfold instE; rw [hta, huv]; rfl
        exact ⟨e, by unfold instR; rw [e]; rfl⟩)
      clear h11 huv hta
      go_enter Tryd.func34, Tryd.ntmps34
      go_wp2_with fail
      rw [← hw1]
      refine HVL.out.mono ?_
      rintro e w2 ⟨rfl, hb2⟩
      go_wp2_with fail
      go_ret
      refine ⟨by rw [HE.out.1]; rfl, v, ?_, fun k hk => .inl hk, ?_⟩
      · rw [HE.out.2]; exact HH.out.later (Below.on HB1.out hb2)
      · exact Onl.of_below (Below.on HB1.out hb2)
    | true =>
      have HOKW := hid huv
      have hl16 : ws.length ≤ 16 := writes_len huv
      have HE0 : Hid (instE M ws t = if ws.all (freeB M t) then 0 else 91) := hid (by unfold instE; rw [hta, huv]; rfl)
      have HFR : Hid (ws.all (freeB M t) = ws.all fun x => frB (dumpM M) t x.key) := hid (by
        congr 1; funext x; exact (fr_free HGM.out t x).symm)
      obtain ⟨L, hL⟩ : ∃ L, L = dumpM M := ⟨_, rfl⟩
      have HLE := hid hL
      rw [← hL] at HR HFR
      obtain ⟨n, hn⟩ : ∃ n, n = L.length := ⟨_, rfl⟩
      have HN := hid hn
      have hn2 : n ≤ 1099511627776 := by have := HCN.out; rw [← dump_len] at this; rw [hn, hL]; omega
      clear hL hn h11 huv hta
      go_enter Tryd.func34, Tryd.ntmps34
      go_wp2_with fail
      rw [← hw1]
      clear hw1
      refine HVL.out.mono ?_
      rintro e w2 ⟨rfl, hb2⟩
      have HB2 := hid hb2
      clear hb2
      go_wp2_with fail
      go_loopg [7] ws.length (fun g s7 wr => ∃ i : Nat, i ≤ ws.length ∧ g = ws.length - i ∧ s7 = .int .i64 i ∧ Hid (frW L t ws i = true) ∧ Hid (Below w1.heap.size w1 wr))
      case atStart => exact ⟨0, by omega, by omega, rfl, hid rfl, HB2⟩
      case round =>
        obtain ⟨i, hi, rfl, rfl, HA, HB⟩ := hrel
        by_cases hlt : i < ws.length
        · have HFT := hid (frW_take (L := L) (t := t) hlt)
          have HFN := hid (frW_no (L := L) (t := t) hlt)
          obtain ⟨x, hx⟩ : ∃ x, x = nthW ws i := ⟨_, rfl⟩
          rw [← hx] at HFT HFN
          have HX := hid hx
          clear hx
          obtain ⟨xk, xd, xv⟩ := x
          simp only at HFT HFN
          go_wp2_with fail
          rename World => wi
          go_loopg [8] n (fun g s8 wr2 => ∃ j : Nat, j ≤ n ∧ g = n - j ∧ s8 = .int .i64 j ∧ Hid (frB (L.take j) t xk = true) ∧ Hid (Below w1.heap.size w1 wr2))
          case atStart => exact ⟨0, by omega, by omega, rfl, hid rfl, HB⟩
          case round =>
            obtain ⟨j, hj, rfl, rfl, HJ, HBj⟩ := hrel
            have HRr := hid (HR.out.later HBj.out)
            obtain ⟨la, lc, hvl, hrowL⟩ := HRr.out.slice
            have c0 := HRr.out.c0
            rw [hvl, ← HN.out] at c0
            by_cases hltj : j < n
            · have hjL : j < L.length := by rw [← HN.out]; exact hltj
              obtain ⟨b, off, rfl, hv⟩ := hrowL j hjL
              have HTK := hid (frB_take hjL t xk)
              obtain ⟨⟨k1, s1, d1, v1⟩, hy⟩ : ∃ y, y = nthK L j := ⟨_, rfl⟩
              rw [← hy] at hv HTK
              simp only at HTK
              obtain ⟨b2, o2, rfl, f0, f1, f2⟩ := (HROW.out.later HBj.out) i hlt
              rw [← HX.out] at f0
              have z0 := cell_regrown c0
              have y0 := cell_regrown hv.c0
              have y1 := cell_regrown hv.c1
              have y2 := cell_regrown hv.c2
              have y3 := cell_regrown hv.c3
              have q0 := cell_regrown f0
              have p0 := cell_regrown (HT.out.later HBj.out).c0
              have p1 := cell_regrown (HT.out.later HBj.out).c1
              have p2 := cell_regrown (HT.out.later HBj.out).c2
              simp only at y1 y2 y3
              clear hvl hrowL hjL hy hv f0 f1 f2
              by_cases hk : k1 = xk
              · subst hk
                obtain ⟨ul, hul⟩ : ∃ ul, s1.lt t = ul := ⟨_, rfl⟩
                have AB := hid fun wz => rabove_is (s := t) (t := s1) hul wz
                have HV : Hid (frB (L.take (j + 1)) t k1 = ul) := hid (by rw [HTK.out, HJ.out, hul]; simp)
                clear hul
                cases ul
                all_goals
                  go_wp2_with fail
                  clear c0
                  refine wp_region_quiet_below (by kernel_rfl) (by kernel_rfl) ?_
                  repeat (go_big_quiet_step ((go_at_call 53; exact Calls.regrown_of (AB.out _))))
                  refine wpQuiet_nil ?_
                  intro w5 hw5
                  replace hw5 := below_of_regrown hw5
                  have HW5 := hid (Below.on HBj.out hw5)
                  clear hw5 z0 y0 y1 y2 y3 q0 p0 p1 p2
                  go_wp2_with fail
                · go_ret
                  have hno : ws.all (freeB M t) = false := by rw [HFR.out]; exact HFN.out (frB_no HV.out)
                  have e : instE M ws t = 91 := by rw [HE0.out, hno]; rfl
                  have e2 : instR M ws t = M := by unfold instR; rw [e]; rfl
                  refine ⟨by rw [e]; rfl, v, ?_, fun k hk => .inl hk, Onl.of_below (Below.on HB1.out HW5.out)⟩
                  rw [e2]; exact HH.out.later (Below.on HB1.out HW5.out)
                · go_roundg (n - (j + 1))
                  case measure => omega
                  case rel => exact ⟨j + 1, by omega, rfl, by go_num, HV, HW5⟩
              · have hne : (k1.toList == xk.toList) = false := by
                  rw [beq_eq_false_iff_ne]
                  intro e
                  apply hk
                  rw [ByteArray.toList_eq, ByteArray.toList_eq] at e
                  cases k1; cases xk; simp at e; rw [e]
                have HV : Hid (frB (L.take (j + 1)) t xk = true) := hid (by rw [HTK.out, HJ.out]; simp [hk])
                clear hk
                go_wp2_with fail
                clear c0
                refine wp_region_quiet_below (by kernel_rfl) (by kernel_rfl) ?_
                repeat (go_big_quiet_step (fail))
                refine wpQuiet_nil ?_
                intro w5 hw5
                replace hw5 := below_of_regrown hw5
                have HW5 := hid (Below.on HBj.out hw5)
                clear hw5 z0 y0 y1 y2 y3 q0 p0 p1 p2
                go_wp2_with fail
                go_roundg (n - (j + 1))
                case measure => omega
                case rel => exact ⟨j + 1, by omega, rfl, by go_num, HV, HW5⟩
            · obtain rfl : n = j := by omega
              have HV : Hid (frW L t ws (i + 1) = true) := hid (by
                have := HJ.out
                rw [HN.out, List.take_length] at this
                rw [HFT.out, HA.out, this]; rfl)
              clear hvl hrowL
              go_wp2_with fail
              go_roundg (ws.length - (i + 1))
              case measure => omega
              case rel => exact ⟨i + 1, by omega, rfl, by go_num, HV, HBj⟩
        · have hii : ws.length = i := by omega
          have HFA : Hid (ws.all (freeB M t) = true) := hid (by
            have := HA.out
            unfold frW at this
            rw [← hii, List.take_length] at this
            rw [HFR.out]; exact this)
          have HE : Hid (instE M ws t = 0 ∧ instR M ws t = instM M ws t) := hid (by
            have e : instE M ws t = 0 := by rw [HE0.out, HFA.out]; rfl
            exact ⟨e, by unfold instR; rw [e]; rfl⟩)
          have HI0 : Hid (Iv w wr B r v v M mk ws t 0) := hid ⟨by have := HH.out.later (Below.on HB1.out HB.out); simpa [instM] using this, fun k hk => .inl hk, Onl.of_below (Below.on HB1.out HB.out)⟩
          have HTr := hid (HT.out.later HB.out)
          have HRWr := hid (HROW.out.later HB.out)
          clear HA
          subst hii
          go_wp2_with fail
          rename World => wq
          go_loopg [9] ws.length (fun g s9 wr3 => ∃ i : Nat, ∃ v', i ≤ ws.length ∧ g = ws.length - i ∧ s9 = .int .i64 i ∧ Hid (Iv w wr3 B r v v' M mk ws t i) ∧ Hid (Onl (fun k => k = r) wq wr3))
          case atStart => exact ⟨0, v, by omega, by omega, rfl, HI0, hid (Onl.refl _ _)⟩
          case round =>
            obtain ⟨i, v', hi2, rfl, rfl, HI, HOq⟩ := hrel
            by_cases hlt : i < ws.length
            · obtain ⟨b2, o2, rfl, f0, f1, f2⟩ := HRWr.out i hlt
              have hbr : b2 ≠ r := HF.out (by omega) b2 o2 rfl
              have hsr : w.heap.size ≠ r := by have := HRL.out; omega
              have hgi := inst_good HGM.out HOKW.out HFA.out i hi2
              have hcnt := (instM_count HGM.out.rising (ws.take i) t).1
              have hci : (dumpM (instM M (ws.take i) t)).length ≤ 1099511627776 := by
                rw [dump_len, hcnt, List.length_take]; have := HCN.out; omega
              have hov := inst_over HGM.out.rising HOKW.out HFA.out hlt
              have hsn := instM_snoc M (ws.take i) (nthW ws i) t
              rw [← nthW_take hlt] at hsn
              obtain ⟨x, hx⟩ : ∃ x, x = nthW ws i := ⟨_, rfl⟩
              rw [← hx] at f0 f1 f2 hov hsn
              have HAM := hid (add_among hgi (e := (x.key, Wr.ver x t)) hov)
              have HIN := hid fun wz (hb : Below wr.heap.size wr wz) => rinsert_is (HI.out.rs.later hb) hci (Nat.le_trans HBB.out (Nat.le_trans HI.out.onl.size hb.size)) (dump_sorted hgi) (x.key, Wr.ver x t)
              have HSN := hid hsn
              clear hx hgi hcnt hci hov hsn
              obtain ⟨xk, xd, xv⟩ := x
              simp only [Wr.ver] at f0 f1 f2 HAM HIN HSN
              have g0 := HOq.out.cell hbr f0
              have g1 := HOq.out.cell hbr f1
              have g2 := HOq.out.cell hbr f2
              have t0 := HOq.out.cell hsr HTr.out.c0
              have t1 := HOq.out.cell hsr HTr.out.c1
              have t2 := HOq.out.cell hsr HTr.out.c2
              clear f0 f1 f2
              go_wp2_with fail
              go_region_held3 (fun ws' => ws'.cell? ⟨b2, o2 + i * 3, none⟩ = some (.string xk) ∧ ws'.cell? ⟨b2, o2 + i * 3 + 1, none⟩ = some (.bool xd) ∧ ws'.cell? ⟨b2, o2 + i * 3 + 2, none⟩ = some (.string xv) ∧ ws'.cell? ⟨w.heap.size, 0, none⟩ = some (.int .u64 t.a) ∧ ws'.cell? ⟨w.heap.size, 1, none⟩ = some (.int .u32 t.b) ∧ ws'.cell? ⟨w.heap.size, 2, none⟩ = some (.int .u32 t.c) ∧ Onl (fun k => k = r) wr ws')
                ((refine (fun (hO : Onl (fun k => k = r) wr _) => ⟨hO.cell hbr g0, hO.cell hbr g1, hO.cell hbr g2, hO.cell hsr t0, hO.cell hsr t1, hO.cell hsr t2, hO⟩) ?_; (repeat (first | with_reducible exact Onl.refl _ _ | with_reducible assumption | with_reducible refine Onl.drew ?_ | with_reducible refine Onl.al ?_ _))))
                (first | (go_at_call 60; refine (HIN.out _ (by (repeat (first | with_reducible exact Below.refl _ _ | with_reducible assumption | with_reducible refine Below.drew ?_ | with_reducible refine Below.al ?_ _ | with_reducible refine Below.setCell ?_ (by first | exact Nat.le_refl _ | (simp; omega) | (simp; done)) _ | with_reducible refine Below.on ?_ (by assumption))))).mono ?_; rintro e w6 ⟨rfl, v6, hrs6, hnew6, honl6⟩; have hO6 : Onl (fun k => k = r) wr w6 := (Onl.trans (Onl.drew (Onl.refl _ _)) honl6); have HO6 := hid hO6; have HRS6 := hid hrs6; have HNW6 := hid hnew6; clear hrs6 hnew6 honl6))
              all_goals (try go_wp2_with fail)
              all_goals go_roundg (ws.length - (i + 1))
              case measure => omega
              case rel =>
                refine ⟨i + 1, v6, by omega, rfl, by go_num, hid ⟨by rw [HSN.out, HAM.out]; exact HRS6.out, fun k hk => ?_, HI.out.onl.trans HO6.out⟩, hid (HOq.out.trans HO6.out)⟩
                rcases HNW6.out k hk with h1 | h1
                · exact HI.out.new k h1
                · exact .inr (Nat.le_trans HI.out.onl.size h1)
            · obtain rfl : ws.length = i := by omega
              go_wp2_with fail
              go_ret
              have e := HE.out
              refine ⟨by rw [e.1]; rfl, v', ?_, HI.out.new, HI.out.onl⟩
              have h1 := HI.out.rs
              rw [List.take_length] at h1
              rw [e.2]; exact h1
end Go.Proofs.YtmlacdfdpdkdaaaDoor.Vs
