import Derived.Test.YtfdbffadajepfaaGreatB11
namespace Go.Proofs.YtfdbffadajepfaaGreat.Vs
open Go.RowKit Go.Sort Go.Shelf
set_option linter.unusedVariables false
attribute [local go_sem] Oper.semAt_some

set_option maxRecDepth 100000 in
set_option maxHeartbeats 2000000 in
theorem up_tf {α : Type} {f : α → En} {l N : Nat} {J Jx : List α → World → Prop} (H : Loops f l N J Jx) {b : Nat} {k lo hi : ByteArray} {v : Hd} {tl tr : Tr} {pre y1 : List α} {W : World}
    (h : TrIn (fun _ => True) W (.node b k v tl tr)) (hf : fromB lo k = true) (hu : underB hi k = false) (hJ : J pre W)
    (il : ∀ W', Kp W W' → J pre W' → Calls Tryz.prog 73 #[.pointer tl.pt, .agg #[.string lo, .string hi], .func (.yield l) #[] #[]] W' (Ran J Jx (pre) y1 W')) :
    Calls Tryz.prog 73 #[.pointer (some ⟨b, 0, none⟩), .agg #[.string lo, .string hi], .func (.yield l) #[] #[]] W (Ran J Jx pre (y1) W) := by
  obtain ⟨⟨-, ho⟩, h0, h1, h2, h3, h4, hl, hr⟩ := h
  clear h0 h1 h2 h3 h4 hl hr
  have bx := box_new W lo hi
  have k1 : Kp W (W.alloc (.cells #[.string lo, .string hi] 25)) := Kp.of_below (Below.al (Below.refl _ _) _)
  have ho1 := k1.2 b _ _ _ (.inl rfl) ho
  have hJ1 := H.later _ _ _ hJ (Below.al (Below.refl _ W) (.cells #[.string lo, .string hi] 25))
  have FR : Hid (∀ W', W'.cell? ⟨b, 0, none⟩ = some (.string k) → Calls Tryz.prog 109 #[.pointer (some ⟨b, 0, none⟩), .agg #[.string lo, .string hi]] W' fun e w' => e = .returned (.bool true) ∧ Below W'.heap.size W' w') := fun W' h => from_is hf h
  have UN : Hid (∀ W', W'.cell? ⟨b, 0, none⟩ = some (.string k) → Calls Tryz.prog 110 #[.pointer (some ⟨b, 0, none⟩), .agg #[.string lo, .string hi]] W' fun e w' => e = .returned (.bool false) ∧ Below W'.heap.size W' w') := fun W' h => under_is hu h
  have IL := hid il
  have HH := hid H
  clear il H hf hu
  obtain ⟨W0, hW0⟩ : ∃ W0, W0 = W.alloc (.cells #[.string lo, .string hi] 25) := ⟨_, rfl⟩
  obtain ⟨B, hB⟩ : ∃ B, B = W.heap.size := ⟨_, rfl⟩
  go_enter Tryz.func73, Tryz.ntmps73
  go_wp2_with fail
  rw [← hW0] at bx k1 ho1 hJ1 ⊢
  rw [← hB] at bx ⊢
  have c0 : W0.cell? ⟨B, 0, none⟩ = some (.string lo) := cell_of_obj bx rfl
  have c1 : W0.cell? ⟨B, 1, none⟩ = some (.string hi) := cell_of_obj bx rfl
  have n0 : W0.cell? ⟨b, 0, none⟩ = some (.string k) := cell_of_obj ho1 rfl
  have n2 : W0.cell? ⟨b, 2, none⟩ = some (.pointer tl.pt) := cell_of_obj ho1 rfl
  clear hW0 hB ho hJ
  go_cut [21] (fun s21 wx => ∃ u1 : Bool, s21 = .bool (!u1) ∧ (u1 = true → J (pre ++ y1) wx ∧ Kp W0 wx) ∧ (u1 = false → ∃ q, q <+: y1 ∧ Jx (pre ++ q) wx))
  case first =>
    go_region_with (first
      | (go_at_call 109; refine (FR.out _ ?_).mono ?_; (simp [n0]); rintro e w1 ⟨rfl, hb1⟩; have c0' := cell_later hb1 c0; have c1' := cell_later hb1 c1; have n2' := cell_later hb1 n2)
      | (go_at_call 73; refine (IL.out _ (k1.trans (Kp.of_below (Below.on (Below.drew (Below.refl _ _)) hb1))) (HH.out.later _ _ _ hJ1 (Below.on (Below.drew (Below.refl _ _)) hb1))).mono ?_; rintro e w2 ⟨u1, rfl, t1, t2⟩))
    all_goals (try go_wp2_with fail)
    all_goals go_meet
    all_goals exact ⟨u1, rfl, fun hu => ⟨(t1 hu).1, (Kp.of_below (Below.on (Below.drew (Below.refl _ _)) hb1)).trans (t1 hu).2⟩, t2⟩
  case rest =>
    obtain ⟨u1, rfl, t1, t2⟩ := hcut
    cases u1 with
    | false =>
      obtain ⟨q, hq, hx⟩ := t2 rfl
      have HX := hid hx
      have HQ := hid hq
      clear t1 t2 hx hq
      go_wp2_with fail
      go_ret
      exact ⟨false, rfl, fun e => (by cases e), fun _ => ⟨q, HQ.out, HX.out⟩⟩
    | true =>
      obtain ⟨hJ2, k2⟩ := t1 rfl
      clear t1 t2
      have bx2 := box_kp k2 bx
      have ho2 := k2.2 b _ _ _ (.inl rfl) ho1
      have k02 := k1.trans k2
      clear bx ho1 k1 k2 hJ1 c0 c1 n0 n2
      have c0 : wc.cell? ⟨B, 0, none⟩ = some (.string lo) := cell_of_obj bx2 rfl
      have c1 : wc.cell? ⟨B, 1, none⟩ = some (.string hi) := cell_of_obj bx2 rfl
      have n0 : wc.cell? ⟨b, 0, none⟩ = some (.string k) := cell_of_obj ho2 rfl
      go_wp2_with fail
      go_cut [42] (fun s42 wx => s42 = .bool false ∧ J (pre ++ y1) wx ∧ Kp wc wx)
      case first =>
        have kc0 := cell_regrown c0; have kc1 := cell_regrown c1; have kn0 := cell_regrown n0
        refine wp_region_quiet_below (by kernel_rfl) (by kernel_rfl) ?_
        repeat (go_big_quiet_step (first | (go_at_call 109; exact Calls.regrown_of (FR.out _ (cell_later (below_regrown _ _ _) n0))) | (go_at_call 110; exact Calls.regrown_of (UN.out _ (cell_later (below_regrown _ _ _) n0)))))
        refine wpQuiet_nil ?_
        intro w1 hw
        have hb1 := below_of_regrown hw
        go_wp2_with fail
        go_meet
        exact ⟨rfl, HH.out.later _ _ _ hJ2 hb1, Kp.of_below hb1⟩
      case rest =>
          obtain ⟨rfl, hJ3, k3⟩ := hcut
          clear c0 c1 n0
          have bx3 := box_kp k3 bx2
          have ho3 := k3.2 b _ _ _ (.inl rfl) ho2
          have k03 := k02.trans k3
          clear bx2 ho2 k02 k3 hJ2
          have d0 : wc.cell? ⟨B, 0, none⟩ = some (.string lo) := cell_of_obj bx3 rfl
          have d1 : wc.cell? ⟨B, 1, none⟩ = some (.string hi) := cell_of_obj bx3 rfl
          have e0 : wc.cell? ⟨b, 0, none⟩ = some (.string k) := cell_of_obj ho3 rfl
          have e2 : wc.cell? ⟨b, 3, none⟩ = some (.pointer tr.pt) := cell_of_obj ho3 rfl
          clear bx3 ho3
          go_wp2_with fail
          have kc0 := cell_regrown d0; have kc1 := cell_regrown d1; have kn0 := cell_regrown e0
          refine wp_region_quiet_below (by kernel_rfl) (by kernel_rfl) ?_
          repeat (go_big_quiet_step ((go_at_call 110; exact Calls.regrown_of (UN.out _ (cell_later (below_regrown _ _ _) e0)))))
          refine wpQuiet_nil ?_
          intro w1 hw
          have hb1 := below_of_regrown hw
          go_wp2_with fail
          go_ret
          exact ⟨true, rfl, fun _ => ⟨HH.out.later _ _ _ hJ3 hb1, k03.trans (Kp.of_below hb1)⟩, fun e => (by cases e)⟩

set_option maxRecDepth 100000 in
set_option maxHeartbeats 2000000 in
theorem up_ft {α : Type} {f : α → En} {l N : Nat} {J Jx : List α → World → Prop} (H : Loops f l N J Jx) {b : Nat} {k lo hi : ByteArray} {v : Hd} {tl tr : Tr} {pre y3 : List α} {W : World}
    (h : TrIn (fun _ => True) W (.node b k v tl tr)) (hf : fromB lo k = false) (hu : underB hi k = true) (hJ : J pre W)
    (ir : ∀ W', Kp W W' → J (pre) W' → Calls Tryz.prog 73 #[.pointer tr.pt, .agg #[.string lo, .string hi], .func (.yield l) #[] #[]] W' (Ran J Jx (pre) y3 W')) :
    Calls Tryz.prog 73 #[.pointer (some ⟨b, 0, none⟩), .agg #[.string lo, .string hi], .func (.yield l) #[] #[]] W (Ran J Jx pre (y3) W) := by
  obtain ⟨⟨-, ho⟩, h0, h1, h2, h3, h4, hl, hr⟩ := h
  clear h0 h1 h2 h3 h4 hl hr
  have bx := box_new W lo hi
  have k1 : Kp W (W.alloc (.cells #[.string lo, .string hi] 25)) := Kp.of_below (Below.al (Below.refl _ _) _)
  have ho1 := k1.2 b _ _ _ (.inl rfl) ho
  have hJ1 := H.later _ _ _ hJ (Below.al (Below.refl _ W) (.cells #[.string lo, .string hi] 25))
  have FR : Hid (∀ W', W'.cell? ⟨b, 0, none⟩ = some (.string k) → Calls Tryz.prog 109 #[.pointer (some ⟨b, 0, none⟩), .agg #[.string lo, .string hi]] W' fun e w' => e = .returned (.bool false) ∧ Below W'.heap.size W' w') := fun W' h => from_is hf h
  have UN : Hid (∀ W', W'.cell? ⟨b, 0, none⟩ = some (.string k) → Calls Tryz.prog 110 #[.pointer (some ⟨b, 0, none⟩), .agg #[.string lo, .string hi]] W' fun e w' => e = .returned (.bool true) ∧ Below W'.heap.size W' w') := fun W' h => under_is hu h
  have IR := hid ir
  have HH := hid H
  clear ir H hf hu
  obtain ⟨W0, hW0⟩ : ∃ W0, W0 = W.alloc (.cells #[.string lo, .string hi] 25) := ⟨_, rfl⟩
  obtain ⟨B, hB⟩ : ∃ B, B = W.heap.size := ⟨_, rfl⟩
  go_enter Tryz.func73, Tryz.ntmps73
  go_wp2_with fail
  rw [← hW0] at bx k1 ho1 hJ1 ⊢
  rw [← hB] at bx ⊢
  have c0 : W0.cell? ⟨B, 0, none⟩ = some (.string lo) := cell_of_obj bx rfl
  have c1 : W0.cell? ⟨B, 1, none⟩ = some (.string hi) := cell_of_obj bx rfl
  have n0 : W0.cell? ⟨b, 0, none⟩ = some (.string k) := cell_of_obj ho1 rfl
  have n2 : W0.cell? ⟨b, 2, none⟩ = some (.pointer tl.pt) := cell_of_obj ho1 rfl
  clear hW0 hB ho hJ
  go_cut [21] (fun s21 wx => s21 = .bool false ∧ J pre wx ∧ Kp W0 wx)
  case first =>
    have kc0 := cell_regrown c0; have kc1 := cell_regrown c1; have kn0 := cell_regrown n0
    refine wp_region_quiet_below (by kernel_rfl) (by kernel_rfl) ?_
    repeat (go_big_quiet_step ((go_at_call 109; exact Calls.regrown_of (FR.out _ (cell_later (below_regrown _ _ _) n0)))))
    refine wpQuiet_nil ?_
    intro w1 hw
    have hb1 := below_of_regrown hw
    go_wp2_with fail
    go_meet
    exact ⟨rfl, HH.out.later _ _ _ hJ1 hb1, Kp.of_below hb1⟩
  case rest =>
      obtain ⟨rfl, hJ2, k2⟩ := hcut
      have bx2 := box_kp k2 bx
      have ho2 := k2.2 b _ _ _ (.inl rfl) ho1
      have k02 := k1.trans k2
      clear bx ho1 k1 k2 hJ1 c0 c1 n0 n2
      have c0 : wc.cell? ⟨B, 0, none⟩ = some (.string lo) := cell_of_obj bx2 rfl
      have c1 : wc.cell? ⟨B, 1, none⟩ = some (.string hi) := cell_of_obj bx2 rfl
      have n0 : wc.cell? ⟨b, 0, none⟩ = some (.string k) := cell_of_obj ho2 rfl
      go_wp2_with fail
      go_cut [42] (fun s42 wx => s42 = .bool false ∧ J (pre) wx ∧ Kp wc wx)
      case first =>
        have kc0 := cell_regrown c0; have kc1 := cell_regrown c1; have kn0 := cell_regrown n0
        refine wp_region_quiet_below (by kernel_rfl) (by kernel_rfl) ?_
        repeat (go_big_quiet_step (((go_at_call 109; exact Calls.regrown_of (FR.out _ (cell_later (below_regrown _ _ _) n0))))))
        refine wpQuiet_nil ?_
        intro w1 hw
        have hb1 := below_of_regrown hw
        go_wp2_with fail
        go_meet
        exact ⟨rfl, HH.out.later _ _ _ hJ2 hb1, Kp.of_below hb1⟩
      case rest =>
          obtain ⟨rfl, hJ3, k3⟩ := hcut
          clear c0 c1 n0
          have bx3 := box_kp k3 bx2
          have ho3 := k3.2 b _ _ _ (.inl rfl) ho2
          have k03 := k02.trans k3
          clear bx2 ho2 k02 k3 hJ2
          have d0 : wc.cell? ⟨B, 0, none⟩ = some (.string lo) := cell_of_obj bx3 rfl
          have d1 : wc.cell? ⟨B, 1, none⟩ = some (.string hi) := cell_of_obj bx3 rfl
          have e0 : wc.cell? ⟨b, 0, none⟩ = some (.string k) := cell_of_obj ho3 rfl
          have e2 : wc.cell? ⟨b, 3, none⟩ = some (.pointer tr.pt) := cell_of_obj ho3 rfl
          clear bx3 ho3
          go_wp2_with fail
          go_region_with (first
            | (go_at_call 110; refine (UN.out _ ?_).mono ?_; (simp [e0]); rintro e w1 ⟨rfl, hb1⟩; have d0' := cell_later hb1 d0; have d1' := cell_later hb1 d1; have e2' := cell_later hb1 e2)
            | (go_at_call 73; refine (IR.out _ (k03.trans (Kp.of_below (Below.on (Below.drew (Below.refl _ _)) hb1))) (HH.out.later _ _ _ hJ3 (Below.on (Below.drew (Below.refl _ _)) hb1))).mono ?_; rintro e w2 ⟨u3, rfl, t1, t2⟩))
          all_goals (try go_wp2_with fail)
          all_goals go_ret
          all_goals exact ⟨u3, rfl, fun hu => ⟨(t1 hu).1, (k03.trans (Kp.of_below (Below.on (Below.drew (Below.refl _ _)) hb1))).trans (t1 hu).2⟩, fun hu => by obtain ⟨q, hq, hx⟩ := t2 hu; exact ⟨q, hq, hx⟩⟩

set_option maxRecDepth 100000 in
set_option maxHeartbeats 2000000 in
theorem up_ff {α : Type} {f : α → En} {l N : Nat} {J Jx : List α → World → Prop} (H : Loops f l N J Jx) {b : Nat} {k lo hi : ByteArray} {v : Hd} {tl tr : Tr} {pre : List α} {W : World}
    (h : TrIn (fun _ => True) W (.node b k v tl tr)) (hf : fromB lo k = false) (hu : underB hi k = false) (hJ : J pre W) :
    Calls Tryz.prog 73 #[.pointer (some ⟨b, 0, none⟩), .agg #[.string lo, .string hi], .func (.yield l) #[] #[]] W (Ran J Jx pre ([]) W) := by
  obtain ⟨⟨-, ho⟩, h0, h1, h2, h3, h4, hl, hr⟩ := h
  clear h0 h1 h2 h3 h4 hl hr
  have bx := box_new W lo hi
  have k1 : Kp W (W.alloc (.cells #[.string lo, .string hi] 25)) := Kp.of_below (Below.al (Below.refl _ _) _)
  have ho1 := k1.2 b _ _ _ (.inl rfl) ho
  have hJ1 := H.later _ _ _ hJ (Below.al (Below.refl _ W) (.cells #[.string lo, .string hi] 25))
  have FR : Hid (∀ W', W'.cell? ⟨b, 0, none⟩ = some (.string k) → Calls Tryz.prog 109 #[.pointer (some ⟨b, 0, none⟩), .agg #[.string lo, .string hi]] W' fun e w' => e = .returned (.bool false) ∧ Below W'.heap.size W' w') := fun W' h => from_is hf h
  have UN : Hid (∀ W', W'.cell? ⟨b, 0, none⟩ = some (.string k) → Calls Tryz.prog 110 #[.pointer (some ⟨b, 0, none⟩), .agg #[.string lo, .string hi]] W' fun e w' => e = .returned (.bool false) ∧ Below W'.heap.size W' w') := fun W' h => under_is hu h
  have HH := hid H
  clear H hf hu
  obtain ⟨W0, hW0⟩ : ∃ W0, W0 = W.alloc (.cells #[.string lo, .string hi] 25) := ⟨_, rfl⟩
  obtain ⟨B, hB⟩ : ∃ B, B = W.heap.size := ⟨_, rfl⟩
  go_enter Tryz.func73, Tryz.ntmps73
  go_wp2_with fail
  rw [← hW0] at bx k1 ho1 hJ1 ⊢
  rw [← hB] at bx ⊢
  have c0 : W0.cell? ⟨B, 0, none⟩ = some (.string lo) := cell_of_obj bx rfl
  have c1 : W0.cell? ⟨B, 1, none⟩ = some (.string hi) := cell_of_obj bx rfl
  have n0 : W0.cell? ⟨b, 0, none⟩ = some (.string k) := cell_of_obj ho1 rfl
  have n2 : W0.cell? ⟨b, 2, none⟩ = some (.pointer tl.pt) := cell_of_obj ho1 rfl
  clear hW0 hB ho hJ
  go_cut [21] (fun s21 wx => s21 = .bool false ∧ J pre wx ∧ Kp W0 wx)
  case first =>
    have kc0 := cell_regrown c0; have kc1 := cell_regrown c1; have kn0 := cell_regrown n0
    refine wp_region_quiet_below (by kernel_rfl) (by kernel_rfl) ?_
    repeat (go_big_quiet_step ((go_at_call 109; exact Calls.regrown_of (FR.out _ (cell_later (below_regrown _ _ _) n0)))))
    refine wpQuiet_nil ?_
    intro w1 hw
    have hb1 := below_of_regrown hw
    go_wp2_with fail
    go_meet
    exact ⟨rfl, HH.out.later _ _ _ hJ1 hb1, Kp.of_below hb1⟩
  case rest =>
      obtain ⟨rfl, hJ2, k2⟩ := hcut
      have bx2 := box_kp k2 bx
      have ho2 := k2.2 b _ _ _ (.inl rfl) ho1
      have k02 := k1.trans k2
      clear bx ho1 k1 k2 hJ1 c0 c1 n0 n2
      have c0 : wc.cell? ⟨B, 0, none⟩ = some (.string lo) := cell_of_obj bx2 rfl
      have c1 : wc.cell? ⟨B, 1, none⟩ = some (.string hi) := cell_of_obj bx2 rfl
      have n0 : wc.cell? ⟨b, 0, none⟩ = some (.string k) := cell_of_obj ho2 rfl
      go_wp2_with fail
      go_cut [42] (fun s42 wx => s42 = .bool false ∧ J (pre) wx ∧ Kp wc wx)
      case first =>
        have kc0 := cell_regrown c0; have kc1 := cell_regrown c1; have kn0 := cell_regrown n0
        refine wp_region_quiet_below (by kernel_rfl) (by kernel_rfl) ?_
        repeat (go_big_quiet_step (((go_at_call 109; exact Calls.regrown_of (FR.out _ (cell_later (below_regrown _ _ _) n0))))))
        refine wpQuiet_nil ?_
        intro w1 hw
        have hb1 := below_of_regrown hw
        go_wp2_with fail
        go_meet
        exact ⟨rfl, HH.out.later _ _ _ hJ2 hb1, Kp.of_below hb1⟩
      case rest =>
          obtain ⟨rfl, hJ3, k3⟩ := hcut
          clear c0 c1 n0
          have bx3 := box_kp k3 bx2
          have ho3 := k3.2 b _ _ _ (.inl rfl) ho2
          have k03 := k02.trans k3
          clear bx2 ho2 k02 k3 hJ2
          have d0 : wc.cell? ⟨B, 0, none⟩ = some (.string lo) := cell_of_obj bx3 rfl
          have d1 : wc.cell? ⟨B, 1, none⟩ = some (.string hi) := cell_of_obj bx3 rfl
          have e0 : wc.cell? ⟨b, 0, none⟩ = some (.string k) := cell_of_obj ho3 rfl
          have e2 : wc.cell? ⟨b, 3, none⟩ = some (.pointer tr.pt) := cell_of_obj ho3 rfl
          clear bx3 ho3
          go_wp2_with fail
          have kc0 := cell_regrown d0; have kc1 := cell_regrown d1; have kn0 := cell_regrown e0
          refine wp_region_quiet_below (by kernel_rfl) (by kernel_rfl) ?_
          repeat (go_big_quiet_step ((go_at_call 110; exact Calls.regrown_of (UN.out _ (cell_later (below_regrown _ _ _) e0)))))
          refine wpQuiet_nil ?_
          intro w1 hw
          have hb1 := below_of_regrown hw
          go_wp2_with fail
          go_ret
          exact ⟨true, rfl, fun _ => ⟨by simpa using HH.out.later _ _ _ hJ3 hb1, k03.trans (Kp.of_below hb1)⟩, fun e => (by cases e)⟩

end Go.Proofs.YtfdbffadajepfaaGreat.Vs
