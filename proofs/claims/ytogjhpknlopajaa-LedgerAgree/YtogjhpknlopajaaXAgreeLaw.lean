import Derived.Test.YtogjhpknlopajaaXAgreeP
/- LedgerAgree. -/
namespace Go.Proofs.Ytogjhpknlopajaa.Lg
open Go.RowKit Go.Sort Go.Shelf Go.Lib Lk
set_option linter.unusedVariables false

abbrev oneC : En := ⟨(1073741824, 7), 0, 1, 1, 0, 0⟩
abbrev oneA : En := ⟨(1073741824, 7), 0, 2, 0, 0, 0⟩
theorem one_there (xs : List En) {y : En} (hy : mayB y = true) : ∃ e, outM (ledL (xs ++ [y])) y.id = some e ∧ e.id = y.id := by
  cases h : outM (ledL (xs ++ [y])) y.id with
  | some e => exact ⟨e, rfl, (outM_some h).2⟩
  | none =>
    rw [led_fst, fstL_snoc] at h
    cases hf : fstL xs y.id with
    | some f => rw [hf] at h; cases h
    | none => rw [hf] at h; simp [sameI, hy] at h
set_option maxRecDepth 100000 in
set_option maxHeartbeats 8000000 in
theorem agree_law {W : World} {a a' : Option Addr} {n c n' c' : Nat} {xs zs : List En} (hrow : RowC En.zero ecs 7 W a xs) (hn : xs.length = n) (hl : n ≤ 3518437208780) (hrow' : RowC En.zero ecs 7 W a' zs) (hn' : zs.length = n') (hl' : n' ≤ 3518437208780) :
    Calls Try.prog 4 #[.agg #[.slice a n c, .slice a' n' c']] W fun r w' => r = .returned (.bool true) ∧ Below W.heap.size W w' := by
  obtain ⟨W0, hW0⟩ : ∃ W0, W0 = W.alloc (.cells #[.slice a n c, .slice a' n' c'] 43) := ⟨_, rfl⟩
  have hb0 : Below W.heap.size W W0 := by rw [hW0]; exact Below.al (Below.refl _ _) _
  have hk0 : W0.heap[W.heap.size]? = some (.cells #[.slice a n c, .slice a' n' c'] 43) := by rw [hW0]; exact (MapKept.heap_alloc _ _).1
  have e0 : W0.cell? ⟨W.heap.size, 0, none⟩ = some (.slice a n c) := cell_of_obj hk0 rfl
  have e1 : W0.cell? ⟨W.heap.size, 1, none⟩ = some (.slice a' n' c') := cell_of_obj hk0 rfl
  have hs0 : W.heap.size < W0.heap.size := by rw [hW0]; simp
  have F1 : Hid (∀ W', Below W0.heap.size W0 W' → Calls Try.prog 14 #[.slice a n c] W' fun r w' => ∃ (p : Nat) (m : Option Nat), r = .returned (.pointer (some ⟨p, 0, none⟩)) ∧ Hid (Lg w' p m (ledL xs)) ∧ Hid (∀ b, ItsL p m b → W'.heap.size ≤ b) ∧ Below W'.heap.size W' w') := fun W' hb => filled_is (RowC.later hrow (Below.on hb0 hb)) hn (by omega)
  have F2 : Hid (∀ W', Below W0.heap.size W0 W' → Calls Try.prog 14 #[.slice a' n' c'] W' fun r w' => ∃ (p : Nat) (m : Option Nat), r = .returned (.pointer (some ⟨p, 0, none⟩)) ∧ Hid (Lg w' p m (ledL zs)) ∧ Hid (∀ b, ItsL p m b → W'.heap.size ≤ b) ∧ Below W'.heap.size W' w') := fun W' hb => filled_is (RowC.later hrow' (Below.on hb0 hb)) hn' (by omega)
  have HB0 := hid hb0
  have HLN := hid hn
  have HLN' := hid hn'
  clear hrow hrow' hn hn' hb0 hk0
  go_enter Try.func4, Try.ntmps4
  go_wp2_with fail
  rw [← hW0]
  clear hW0
  go_cut [3, 4] (fun s3 s4 wz => ∃ (pa : Nat) (ma : Option Nat) (pb : Nat) (mb : Option Nat), s3 = .pointer (some ⟨pa, 0, none⟩) ∧ s4 = .pointer (some ⟨pb, 0, none⟩) ∧ Hid (Lg wz pa ma (ledL xs)) ∧ Hid (Lg wz pb mb (ledL zs)) ∧ Hid (∀ b, ItsL pa ma b → W0.heap.size ≤ b) ∧ Hid (∀ b, ItsL pb mb b → W0.heap.size ≤ b) ∧ Hid (∀ b, ItsL pa ma b → ¬ ItsL pb mb b) ∧ Hid (Below W0.heap.size W0 wz))
  case first =>
    go_region_held3 (fun w' => w'.cell? ⟨W.heap.size, 0, none⟩ = some (.slice a n c) ∧ w'.cell? ⟨W.heap.size, 1, none⟩ = some (.slice a' n' c') ∧ Below W0.heap.size W0 w')
      ((refine (fun (hB : Below W0.heap.size W0 _) => ⟨cell_later hB e0, cell_later hB e1, hB⟩) ?_; (repeat (first | with_reducible exact Below.refl _ _ | with_reducible assumption | with_reducible refine Below.drew ?_ | with_reducible refine Below.al ?_ _ | with_reducible refine Below.setCell ?_ (by first | exact Nat.le_refl _ | (simp; omega) | (simp; done)) _ | with_reducible refine Below.on ?_ (by assumption)))))
      (first
        | (go_at_call_has 14 a; refine (F1.out _ (by (repeat (first | with_reducible exact Below.refl _ _ | with_reducible assumption | with_reducible refine Below.drew ?_ | with_reducible refine Below.al ?_ _ | with_reducible refine Below.setCell ?_ (by first | exact Nat.le_refl _ | (simp; omega) | (simp; done)) _ | with_reducible refine Below.on ?_ (by assumption))))).mono ?_; rintro r w1 ⟨pa, ma, rfl, hA1, hA2, hA3⟩)
        | (go_at_call 14; refine (F2.out _ (by (repeat (first | with_reducible exact Below.refl _ _ | with_reducible assumption | with_reducible refine Below.drew ?_ | with_reducible refine Below.al ?_ _ | with_reducible refine Below.setCell ?_ (by first | exact Nat.le_refl _ | (simp; omega) | (simp; done)) _ | with_reducible refine Below.on ?_ (by assumption))))).mono ?_; rintro r w2 ⟨pb, mb, rfl, hB1, hB2, hB3⟩))
    all_goals (try go_wp2_with fail)
    all_goals go_meet
    all_goals refine ⟨pa, ma, pb, mb, rfl, rfl, hid ?_, hid ?_, hid ?_, hid ?_, hid ?_, hid ?_⟩
    · exact hA1.out.later hB3
    · exact hB1.out
    · exact hA2.out
    · exact fun b hb => Nat.le_trans hA3.size (hB2.out b hb)
    · exact fun b k1 k2 => by have h1 := hA1.out.its_lt k1; have h2 := hB2.out b k2; omega
    · exact Below.on (Below.on (Below.drew (Below.refl _ _)) hA3) hB3
  case rest =>
    obtain ⟨pa, ma, pb, mb, rfl, rfl, HA, HB, HPA, HPB, HDJ, HBz⟩ := hcut
    rename World => wz
    clear e0 e1 F1 F2
    obtain ⟨wA, hwA⟩ : ∃ wA, wA = wz.alloc (.cells #[.int .u32 1073741824, .int .u32 7] 27) := ⟨_, rfl⟩
    have hbA : Below wz.heap.size wz wA := by rw [hwA]; exact Below.al (Below.refl _ _) _
    have hkA : wA.heap[wz.heap.size]? = some (.cells #[.int .u32 1073741824, .int .u32 7] 27) := by rw [hwA]; exact (MapKept.heap_alloc _ _).1
    have hsA : wz.heap.size < wA.heap.size := by rw [hwA]; simp
    have HBA : Hid (Below W0.heap.size W0 wA) := Below.on HBz.out hbA
    have HKA := hid hkA
    have HAA := hid (HA.out.later hbA)
    have HBAB := hid (HB.out.later hbA)
    have HITA : Hid (∀ b, ItsL pa ma b → W0.heap.size ≤ b ∧ b < wz.heap.size) := fun b hb => ⟨HPA.out b hb, HA.out.its_lt hb⟩
    have HITB : Hid (∀ b, ItsL pb mb b → W0.heap.size ≤ b ∧ b < wz.heap.size) := fun b hb => ⟨HPB.out b hb, HB.out.its_lt hb⟩
    have D1 : Hid (Calls Try.prog 10 #[.pointer (some ⟨pa, 0, none⟩), .agg #[.int .u32 1073741824, .int .u32 7, .int .u32 0, .int .i64 1, .int .u64 1, .int .u32 0, .int .u32 0]] wA fun r w' => ∃ (m' : Option Nat) (v : Value), r = .returned v ∧ Hid (Lg w' pa m' (ledL (xs ++ [oneC]))) ∧ Hid (∀ b, ItsL pa m' b → ItsL pa ma b ∨ wA.heap.size ≤ b) ∧ Hid (Onl (ItsL pa ma) wA w')) :=
      (decide_is HAA.out oneC).mono fun r w' ⟨m', f, x, h1, h2, h3, h4, h5, h6⟩ => ⟨m', _, h1, by rw [ledL_snoc]; exact h4, fun b hb => by
        rcases hb with rfl | e
        · exact .inl (.inl rfl)
        · rcases h5.out with h | ⟨b2, h, hle⟩
          · exact .inl (.inr (by rw [← h, e]))
          · rw [e] at h; injection h with h; subst h; exact .inr hle, h6⟩
    clear hbA hkA HA HB HBz
    go_wp2_with fail
    rw [← hwA]
    refine D1.out.mono ?_
    rintro r wB ⟨mA, vA, rfl, HLA, HMA, HOA⟩
    have nqA : ¬ ItsL pa ma wz.heap.size := fun k => by have := HITA.out _ k; omega
    have o0 : wB.cell? ⟨wz.heap.size, 0, none⟩ = some (.int .u32 1073741824) := HOA.out.cell nqA (cell_of_obj HKA.out rfl)
    have o1 : wB.cell? ⟨wz.heap.size, 1, none⟩ = some (.int .u32 7) := HOA.out.cell nqA (cell_of_obj HKA.out rfl)
    have hsB : wA.heap.size ≤ wB.heap.size := HOA.out.size
    have HLB : Hid (Lg wB pb mb (ledL zs)) := HBAB.out.onl HOA.out (fun b hb k => HDJ.out b k hb)
    have D2 : Hid (Calls Try.prog 10 #[.pointer (some ⟨pb, 0, none⟩), .agg #[.int .u32 1073741824, .int .u32 7, .int .u32 0, .int .i64 2, .int .u64 0, .int .u32 0, .int .u32 0]] wB fun r w' => ∃ (m' : Option Nat) (v : Value), r = .returned v ∧ Hid (Lg w' pb m' (ledL (zs ++ [oneA]))) ∧ Hid (Onl (ItsL pb mb) wB w')) :=
      (decide_is HLB.out oneA).mono fun r w' ⟨m', f, x, h1, h2, h3, h4, h5, h6⟩ => ⟨m', _, h1, by rw [ledL_snoc]; exact h4, h6⟩
    clear D1 hwA
    go_wp2_with fail
    refine D2.out.mono ?_
    rintro r wC ⟨mB, vB, rfl, HCB, HOB⟩
    have nqB : ¬ ItsL pb mb wz.heap.size := fun k => by have := HITB.out _ k; omega
    have q0 := HOB.out.cell nqB o0
    have q1 := HOB.out.cell nqB o1
    have HCA : Hid (Lg wC pa mA (ledL (xs ++ [oneC]))) := HLA.out.onl HOB.out (fun b hb k => by
      rcases HMA.out b hb with h | h
      · exact HDJ.out b h k
      · have := (HITB.out b k).2; omega)
    have HBC : Hid (Below W.heap.size W wC) := by
      have h1 : Below W.heap.size W wA := Below.on HB0.out HBA.out
      have h2 : Below W.heap.size wA wB := HOA.out.below (fun k hk => by have := (HITA.out k hk).1; omega) h1.size
      have h3 : Below W.heap.size wB wC := HOB.out.below (fun k hk => by have := (HITB.out k hk).1; omega) (h1.trans h2).size
      exact (h1.trans h2).trans h3
    obtain ⟨A, hA⟩ : ∃ A, A = ledL (xs ++ [oneC]) := ⟨_, rfl⟩
    obtain ⟨B, hB⟩ : ∃ B, B = ledL (zs ++ [oneA]) := ⟨_, rfl⟩
    obtain ⟨e, he1, he2⟩ := one_there xs (y := oneC) rfl
    obtain ⟨f, hf1, hf2⟩ := one_there zs (y := oneA) rfl
    rw [← hA] at HCA he1
    rw [← hB] at HCB hf1
    have hlA : A.length ≤ 3518437208781 := by have := ledL_length (xs ++ [oneC]); rw [← hA, List.length_append, HLN.out] at this; simp at this; omega
    have hlB : B.length ≤ 3518437208781 := by have := ledL_length (zs ++ [oneA]); rw [← hB, List.length_append, HLN'.out] at this; simp at this; omega
    have HNA := hid HCA.out.nodup
    have HNB := hid HCB.out.nodup
    have hmA : ∀ x ∈ A, mayB x = true := by rw [hA]; exact led_may
    have hmB : ∀ x ∈ B, mayB x = true := by rw [hB]; exact led_may
    have CL := hid (clash_is HCA.out HCB.out hmA hmB (by omega) (by omega))
    have HE1 := hid he1
    have HE2 := hid he2
    have HF1 := hid hf1
    have HF2 := hid hf2
    clear D2 o0 o1 he1 he2 hf1 hf2 hA hB hmA hmB HLA HLB HMA HOA HOB HAA HBAB HKA HITA HITB nqA nqB
    go_wp2_with fail
    refine CL.out.mono ?_
    rintro r wD ⟨aw, nw, cw, X, rfl, HX1, HX2, HX3, HX4, HBD⟩
    have HXW := hid (own_rowX HX2.out HX1.out)
    have q0 := cell_later HBD.out q0
    have q1 := cell_later HBD.out q1
    have OA : Hid (Calls Try.prog 12 #[.pointer (some ⟨pa, 0, none⟩), .agg #[.int .u32 1073741824, .int .u32 7]] wD fun r w' => r = .returned (.tuple #[.agg #[.int .u32 e.id.1, .int .u32 e.id.2, .int .u32 e.home, .int .i64 e.oc, .int .u64 e.w, .int .u32 e.l, .int .u32 e.n], .bool true]) ∧ Below wD.heap.size wD w') :=
      (outcome_is (HCA.out.later HBD.out) (1073741824, 7)).mono fun r w' ⟨g, ok, h1, h2, h3, h4⟩ => by
        have h2' : ok = true := by have := h2.out; rwa [show outM A (1073741824, 7) = some e from HE1.out] at this
        have h3' : g = e := by have := h3.out; rwa [show outM A (1073741824, 7) = some e from HE1.out] at this
        subst h2' h3'
        exact ⟨h1, h4⟩
    have OB : Hid (∀ W', Below wD.heap.size wD W' → Calls Try.prog 12 #[.pointer (some ⟨pb, 0, none⟩), .agg #[.int .u32 1073741824, .int .u32 7]] W' fun r w' => r = .returned (.tuple #[.agg #[.int .u32 f.id.1, .int .u32 f.id.2, .int .u32 f.home, .int .i64 f.oc, .int .u64 f.w, .int .u32 f.l, .int .u32 f.n], .bool true]) ∧ Below W'.heap.size W' w') := fun W' hb =>
      (outcome_is (HCB.out.later (Below.on HBD.out hb)) (1073741824, 7)).mono fun r w' ⟨g, ok, h1, h2, h3, h4⟩ => by
        have h2' : ok = true := by have := h2.out; rwa [show outM B (1073741824, 7) = some f from HF1.out] at this
        have h3' : g = f := by have := h3.out; rwa [show outM B (1073741824, 7) = some f from HF1.out] at this
        subst h2' h3'
        exact ⟨h1, h4⟩
    clear CL
    go_wp2_with fail
    refine OA.out.mono ?_
    rintro r wE ⟨rfl, hbE⟩
    obtain ⟨wF, hwF⟩ : ∃ wF, wF = wE.alloc (.cells #[.int .u32 e.id.1, .int .u32 e.id.2, .int .u32 e.home, .int .i64 e.oc, .int .u64 e.w, .int .u32 e.l, .int .u32 e.n] 33) := ⟨_, rfl⟩
    have hbF : Below wD.heap.size wD wF := by rw [hwF]; exact Below.al hbE _
    have HEF : Hid (BoxE wF wE.heap.size e) := by rw [hwF]; exact box_new _ _
    have y0 : (wE.alloc (.cells #[.int .u32 e.id.1, .int .u32 e.id.2, .int .u32 e.home, .int .i64 e.oc, .int .u64 e.w, .int .u32 e.l, .int .u32 e.n] 33)).cell? ⟨wz.heap.size, 0, none⟩ = some (.int .u32 1073741824) := by rw [← hwF]; exact cell_later hbF q0
    have y1 : (wE.alloc (.cells #[.int .u32 e.id.1, .int .u32 e.id.2, .int .u32 e.home, .int .i64 e.oc, .int .u64 e.w, .int .u32 e.l, .int .u32 e.n] 33)).cell? ⟨wz.heap.size, 1, none⟩ = some (.int .u32 7) := by rw [← hwF]; exact cell_later hbF q1
    have OB2 := hid (OB.out _ hbF)
    have HBF := hid hbF
    have HQ : Hid (wD.cell? ⟨wz.heap.size, 0, none⟩ = some (.int .u32 1073741824) ∧ wD.cell? ⟨wz.heap.size, 1, none⟩ = some (.int .u32 7)) := ⟨q0, q1⟩
    clear hbE hbF OA OB q0 q1
    go_wp2_with fail
    rw [← hwF]
    clear hwF y0 y1
    refine OB2.out.mono ?_
    rintro r wG ⟨rfl, hbG⟩
    obtain ⟨wH, hwH⟩ : ∃ wH, wH = wG.alloc (.cells #[.int .u32 f.id.1, .int .u32 f.id.2, .int .u32 f.home, .int .i64 f.oc, .int .u64 f.w, .int .u32 f.l, .int .u32 f.n] 33) := ⟨_, rfl⟩
    have hbH : Below wF.heap.size wF wH := by rw [hwH]; exact Below.al hbG _
    have HEH : Hid (BoxE wH wE.heap.size e) := HEF.out.later hbH
    have HFH : Hid (BoxE wH wG.heap.size f) := by rw [hwH]; exact box_new _ _
    have HDH : Hid (Below wD.heap.size wD wH) := Below.on HBF.out hbH
    obtain ⟨z, hz⟩ : ∃ z, agrB e f = z := ⟨_, rfl⟩
    have AGR := hid (fun W => refagree_is hz W)
    have HZ : Hid (z = false → ((nw : Int) == 0) = false) := fun k => by
      have hin : ((1073741824, 7) : Ix) ∈ X := by
        rw [HX4.out, cl_iff HNB.out]
        exact ⟨f, e, HF1.out, HE1.out, by rw [agrB_comm, hz, k]⟩
      have hlen := List.length_pos_of_mem hin
      rw [HX1.out] at hlen
      simp; omega
    have x0 : (wG.alloc (.cells #[.int .u32 f.id.1, .int .u32 f.id.2, .int .u32 f.home, .int .i64 f.oc, .int .u64 f.w, .int .u32 f.l, .int .u32 f.n] 33)).cell? ⟨wE.heap.size, 0, none⟩ = some (.int .u32 e.id.1) := by rw [← hwH]; exact HEH.out.1
    have x1 : (wG.alloc (.cells #[.int .u32 f.id.1, .int .u32 f.id.2, .int .u32 f.home, .int .i64 f.oc, .int .u64 f.w, .int .u32 f.l, .int .u32 f.n] 33)).cell? ⟨wE.heap.size, 1, none⟩ = some (.int .u32 e.id.2) := by rw [← hwH]; exact HEH.out.2.1
    have x2 : (wG.alloc (.cells #[.int .u32 f.id.1, .int .u32 f.id.2, .int .u32 f.home, .int .i64 f.oc, .int .u64 f.w, .int .u32 f.l, .int .u32 f.n] 33)).cell? ⟨wE.heap.size, 2, none⟩ = some (.int .u32 e.home) := by rw [← hwH]; exact HEH.out.2.2.1
    have x3 : (wG.alloc (.cells #[.int .u32 f.id.1, .int .u32 f.id.2, .int .u32 f.home, .int .i64 f.oc, .int .u64 f.w, .int .u32 f.l, .int .u32 f.n] 33)).cell? ⟨wE.heap.size, 3, none⟩ = some (.int .i64 e.oc) := by rw [← hwH]; exact HEH.out.2.2.2.1
    have x4 : (wG.alloc (.cells #[.int .u32 f.id.1, .int .u32 f.id.2, .int .u32 f.home, .int .i64 f.oc, .int .u64 f.w, .int .u32 f.l, .int .u32 f.n] 33)).cell? ⟨wE.heap.size, 4, none⟩ = some (.int .u64 e.w) := by rw [← hwH]; exact HEH.out.2.2.2.2.1
    have x5 : (wG.alloc (.cells #[.int .u32 f.id.1, .int .u32 f.id.2, .int .u32 f.home, .int .i64 f.oc, .int .u64 f.w, .int .u32 f.l, .int .u32 f.n] 33)).cell? ⟨wE.heap.size, 5, none⟩ = some (.int .u32 e.l) := by rw [← hwH]; exact HEH.out.2.2.2.2.2.1
    have x6 : (wG.alloc (.cells #[.int .u32 f.id.1, .int .u32 f.id.2, .int .u32 f.home, .int .i64 f.oc, .int .u64 f.w, .int .u32 f.l, .int .u32 f.n] 33)).cell? ⟨wE.heap.size, 6, none⟩ = some (.int .u32 e.n) := by rw [← hwH]; exact HEH.out.2.2.2.2.2.2
    clear hbG hbH OB2 hz
    have SM : Hid (∀ (W' : World) (a1 : Option Addr) (c1 : Nat), Below wD.heap.size wD W' → RowC (0, 0) tcs 2 W' a1 X → Calls Try.prog 17 #[.slice a1 nw c1, .slice aw nw cw] W' fun r w' => r = .returned (.bool true) ∧ Below W'.heap.size W' w') := fun W' a1 c1 hb hr =>
      sameTxns_is hr (RowC.later HXW.out hb) HX1.out (own_le HX2.out)
    have hX4 : ∀ t, t ∈ X ↔ ∃ x g, outM B t = some x ∧ outM A t = some g ∧ agrB x g = false := fun t => by rw [HX4.out t, cl_iff HNB.out]
    have LA : ∀ W', Below wD.heap.size wD W' → Lg W' pa mA A := fun W' hb => HCA.out.later (Below.on HBD.out hb)
    have LB : ∀ W', Below wD.heap.size wD W' → Lg W' pb mB B := fun W' hb => HCB.out.later (Below.on HBD.out hb)
    have DA : Hid (∀ W', Below wD.heap.size wD W' → Calls Try.prog 18 #[.slice (some ⟨W'.heap.size, 0, none⟩) 2 2] (W'.alloc (.cells #[.pointer (some ⟨pa, 0, none⟩), .pointer (some ⟨pb, 0, none⟩)] 23)) fun r w' => ∃ (a1 : Option Addr) (c1 : Nat), r = .returned (.slice a1 nw c1) ∧ Hid (RowC (0, 0) tcs 2 w' a1 X) ∧ Below W'.heap.size W' w') := fun W' hb =>
      (differ_at (D := [some ⟨pa, mA, A⟩, some ⟨pb, mB, B⟩]) (row_ptrs W' [some ⟨pa, mA, A⟩, some ⟨pb, mB, B⟩]) rfl (by simp) (fun d hd => by
        simp at hd
        rcases hd with rfl | rfl
        · exact LA _ (Below.al hb _)
        · exact LB _ (Below.al hb _)) (by simp [sumL, matOf]; omega) HX3.out (fun t => by rw [hX4 t]; exact (view_ab t).symm) HX1.out).mono fun r w' ⟨a1, c1, h1, h2, h3⟩ => ⟨a1, c1, h1, h2, Below.on (Below.al (Below.refl _ _) _) h3⟩
    have DB : Hid (∀ W', Below wD.heap.size wD W' → Calls Try.prog 18 #[.slice (some ⟨W'.heap.size, 0, none⟩) 4 4] (W'.alloc (.cells #[.pointer (some ⟨pb, 0, none⟩), .pointer none, .pointer (some ⟨pa, 0, none⟩), .pointer (some ⟨pb, 0, none⟩)] 23)) fun r w' => ∃ (a1 : Option Addr) (c1 : Nat), r = .returned (.slice a1 nw c1) ∧ Hid (RowC (0, 0) tcs 2 w' a1 X) ∧ Below W'.heap.size W' w') := fun W' hb =>
      (differ_at (D := [some ⟨pb, mB, B⟩, none, some ⟨pa, mA, A⟩, some ⟨pb, mB, B⟩]) (row_ptrs W' [some ⟨pb, mB, B⟩, none, some ⟨pa, mA, A⟩, some ⟨pb, mB, B⟩]) rfl (by simp) (fun d hd => by
        simp at hd
        rcases hd with rfl | rfl | rfl
        · exact LB _ (Below.al hb _)
        · exact LA _ (Below.al hb _)
        · exact LB _ (Below.al hb _)) (by simp [sumL, matOf]; omega) HX3.out (fun t => by rw [hX4 t]; exact (view_bab t).symm) HX1.out).mono fun r w' ⟨a1, c1, h1, h2, h3⟩ => ⟨a1, c1, h1, h2, Below.on (Below.al (Below.refl _ _) _) h3⟩
    have DC : Hid (∀ W', Below wD.heap.size wD W' → Calls Try.prog 18 #[.slice (some ⟨W'.heap.size, 0, none⟩) 3 3] (W'.alloc (.cells #[.pointer (some ⟨pa, 0, none⟩), .pointer (some ⟨pa, 0, none⟩), .pointer none] 23)) fun r w' => ∃ (a1 : Option Addr) (c1 : Nat), r = .returned (.slice a1 0 c1) ∧ Below W'.heap.size W' w') := fun W' hb =>
      (differ_at (X := []) (D := [some ⟨pa, mA, A⟩, some ⟨pa, mA, A⟩, none]) (row_ptrs W' [some ⟨pa, mA, A⟩, some ⟨pa, mA, A⟩, none]) rfl (by simp) (fun d hd => by
        simp at hd
        subst hd
        exact LA _ (Below.al hb _)) (by simp [sumL, matOf]; omega) (by simp) (fun t => ⟨fun h => by simp at h, fun h => absurd h (view_aa t)⟩) rfl).mono fun r w' ⟨a1, c1, h1, h2, h3⟩ => ⟨a1, c1, h1, Below.on (Below.al (Below.refl _ _) _) h3⟩
    have DD : Hid (∀ W', Calls Try.prog 18 #[.slice none 0 0] W' fun r w' => ∃ (a1 : Option Addr) (c1 : Nat), r = .returned (.slice a1 0 c1) ∧ Below W'.heap.size W' w') := fun W' =>
      (differ_at (X := []) (D := []) (fun i hi => by simp at hi) rfl (by simp) (fun d hd => by simp at hd) (by simp [sumL]) (by simp) (fun t => ⟨fun h => by simp at h, fun ⟨v, h, _⟩ => by cases h⟩) rfl).mono fun r w' ⟨a1, c1, h1, h2, h3⟩ => ⟨a1, c1, h1, h3⟩
    have qe : ∀ W', (binOp .eql 27 (.agg #[.int .u32 e.id.1, .int .u32 e.id.2]) (.agg #[.int .u32 1073741824, .int .u32 7])).run Try.prog W' = .ok (.bool true) W' := fun W' => by
      have := run_eqI e.id (1073741824, 7) W'
      rw [sameI_iff.2 (show e.id = (1073741824, 7) from HE2.out)] at this
      exact this
    have qf : ∀ W', (binOp .eql 27 (.agg #[.int .u32 f.id.1, .int .u32 f.id.2]) (.agg #[.int .u32 1073741824, .int .u32 7])).run Try.prog W' = .ok (.bool true) W' := fun W' => by
      have := run_eqI f.id (1073741824, 7) W'
      rw [sameI_iff.2 (show f.id = (1073741824, 7) from HF2.out)] at this
      exact this
    have QE := hid qe
    have QF := hid qf
    have HWD : Hid (Below W.heap.size W wD) := Below.on HBC.out HBD.out
    clear hX4 LA LB qe qf
    go_wp2_with fail
    rw [← hwH]
    clear hwH x0 x1 x2 x3 x4 x5 x6
    refine (AGR.out _).mono ?_
    rintro r wI ⟨rfl, hbI⟩
    have HBI : Hid (Below wD.heap.size wD wI) := Below.on HDH.out hbI
    have HHI : Hid (Below wH.heap.size wH wI) := hbI
    clear hbI AGR
    have STEP : Hid (∀ (P : Prop), (z = true → P) → (z = false → ((nw : Int) == 0) = false → P) → P) := fun P h1 h2 => by
      cases z with
      | true => exact h1 rfl
      | false => exact h2 rfl (HZ.out rfl)
    refine STEP.out _ (fun hz => ?_) (fun hz hz0 => ?_)
    all_goals
      subst hz
      go_wp2_with fail
      refine (DA.out _ HBI.out).mono ?_
      rintro r wJ ⟨a1, c1, rfl, HR1, hbJ⟩
      have HBJ : Hid (Below wD.heap.size wD wJ) := Below.on HBI.out hbJ
      have HHJ : Hid (Below wH.heap.size wH wJ) := Below.on HHI.out hbJ
      have S1 := hid (SM.out _ _ c1 HBJ.out HR1.out)
      clear hbJ
      go_wp2_with fail
      refine S1.out.mono ?_
      rintro r wK ⟨rfl, hbK⟩
      have HBK : Hid (Below wD.heap.size wD wK) := Below.on HBJ.out hbK
      have HHK : Hid (Below wH.heap.size wH wK) := Below.on HHJ.out hbK
      clear hbK S1
      go_wp2_with fail
      refine (DB.out _ HBK.out).mono ?_
      rintro r wL ⟨a2, c2, rfl, HR2, hbL⟩
      have HBL : Hid (Below wD.heap.size wD wL) := Below.on HBK.out hbL
      have HHL : Hid (Below wH.heap.size wH wL) := Below.on HHK.out hbL
      have S2 := hid (SM.out _ _ c2 HBL.out HR2.out)
      clear hbL
      go_wp2_with fail
      refine S2.out.mono ?_
      rintro r wM ⟨rfl, hbM⟩
      have HBM : Hid (Below wD.heap.size wD wM) := Below.on HBL.out hbM
      have HHM : Hid (Below wH.heap.size wH wM) := Below.on HHL.out hbM
      have x0 := (HEH.out.later HHM.out).1
      have x1 := (HEH.out.later HHM.out).2.1
      have y0 := (HFH.out.later HHM.out).1
      have y1 := (HFH.out.later HHM.out).2.1
      have q0 := cell_later HBM.out HQ.out.1
      have q1 := cell_later HBM.out HQ.out.2
      have qe := QE.out
      have qf := QF.out
      clear hbM S2
      go_wp2_with fail
      refine (DC.out _ HBM.out).mono ?_
      rintro r wN ⟨a3, c3, rfl, hbN⟩
      have HBN : Hid (Below W.heap.size W wN) := Below.on HWD.out (Below.on HBM.out hbN)
      clear hbN
      go_wp2_with fail
      refine (DD.out _).mono ?_
      rintro r wO ⟨a4, c4, rfl, hbO⟩
      have HBO : Hid (Below W.heap.size W wO) := Below.on HBN.out hbO
      clear hbO
      go_wp2_with fail
      go_ret
      exact ⟨by simp, HBO.out⟩
end Go.Proofs.Ytogjhpknlopajaa.Lg
