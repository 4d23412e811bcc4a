import Derived.Test.YtneojeidpfjpbaaGreatDoorB10
set_option linter.unusedVariables false
set_option maxHeartbeats 2000000
namespace Go.Proofs.YtneojeidpfjpbaaGreatDoor.Vs
open Go.RowKit Go.Sort Go.Shelf
attribute [local go_sem] Oper.semAt_some
set_option maxRecDepth 100000 in
theorem up_tf {α : Type} {f : α → En} {l N : Nat} {J Jx : List α → World → Prop} (H : Loops f l N J Jx) {b : Nat} {k lo hi : ByteArray} {v : Hd} {tl tr : Tr} {pre y1 : List α} {W : World}
  (h : TrIn (fun _ => True) W (.node b k v tl tr)) (hf : fromB lo k = true) (hu : underB hi k = false) (hJ : J pre W)
  (il : ∀ W', Kp W W' → J pre W' → Calls Tryz.prog 134 #[.pointer tl.pt, .agg #[.string lo, .string hi], .func (.yield l) #[] #[]] W' (Ran J Jx (pre) y1 W')) :
  Calls Tryz.prog 134 #[.pointer (some ⟨b, 0, none⟩), .agg #[.string lo, .string hi], .func (.yield l) #[] #[]] W (Ran J Jx pre (y1) W) := by
 obtain ⟨⟨-, ho⟩, h0, h1, h2, h3, h4, hl, hr⟩ := h; clear h0 h1 h2 h3 h4 hl hr; have bx := box_new W lo hi; have k1 : Kp W (W.alloc (.cells #[.string lo, .string hi] 25)) := Kp.of_below (Below.al (Below.refl _ _) _); have ho1 := k1.2 b _ _ _ (.inl rfl) ho; have hJ1 := H.later _ _ _ hJ (Below.al (Below.refl _ W) (.cells #[.string lo, .string hi] 25)); have FR : Hid (∀ W', W'.cell? ⟨b, 0, none⟩ = some (.string k) → Calls Tryz.prog 182 #[.pointer (some ⟨b, 0, none⟩), .agg #[.string lo, .string hi]] W' fun e w' => e = .returned (.bool true) ∧ Below W'.heap.size W' w') := fun W' h => from_is hf h
 have UN : Hid (∀ W', W'.cell? ⟨b, 0, none⟩ = some (.string k) → Calls Tryz.prog 183 #[.pointer (some ⟨b, 0, none⟩), .agg #[.string lo, .string hi]] W' fun e w' => e = .returned (.bool false) ∧ Below W'.heap.size W' w') := fun W' h => under_is hu h
 have IL := hid il; have HH := hid H; clear il H hf hu; obtain ⟨W0, hW0⟩ : ∃ W0, W0 = W.alloc (.cells #[.string lo, .string hi] 25) := ⟨_, rfl⟩; obtain ⟨B, hB⟩ : ∃ B, B = W.heap.size := ⟨_, rfl⟩; go_enter Tryz.func134, Tryz.ntmps134
 go_wp2_with fail
 rw [← hW0] at bx k1 ho1 hJ1 ⊢; rw [← hB] at bx ⊢; have c0 : W0.cell? ⟨B, 0, none⟩ = some (.string lo) := cell_of_obj bx rfl; have c1 : W0.cell? ⟨B, 1, none⟩ = some (.string hi) := cell_of_obj bx rfl; have n0 : W0.cell? ⟨b, 0, none⟩ = some (.string k) := cell_of_obj ho1 rfl; have n2 : W0.cell? ⟨b, 2, none⟩ = some (.pointer tl.pt) := cell_of_obj ho1 rfl; clear hW0 hB ho hJ; go_cut [21] (fun s21 wx => ∃ u1 : Bool, s21 = .bool (!u1) ∧ (u1 = true → J (pre ++ y1) wx ∧ Kp W0 wx) ∧ (u1 = false → ∃ q, q <+: y1 ∧ Jx (pre ++ q) wx))
 case first =>
  go_region_with (first
   | (go_at_call 182; refine (FR.out _ ?_).mono ?_; (simp [n0]); rintro e w1 ⟨rfl, hb1⟩; have c0' := cell_later hb1 c0; have c1' := cell_later hb1 c1; have n2' := cell_later hb1 n2)
   | (go_at_call 134; refine (IL.out _ (k1.trans (Kp.of_below (Below.on (Below.drew (Below.refl _ _)) hb1))) (HH.out.later _ _ _ hJ1 (Below.on (Below.drew (Below.refl _ _)) hb1))).mono ?_; rintro e w2 ⟨u1, rfl, t1, t2⟩))
  all_goals (try go_wp2_with fail)
  all_goals go_meet
  all_goals exact ⟨u1, rfl, fun hu => ⟨(t1 hu).1, (Kp.of_below (Below.on (Below.drew (Below.refl _ _)) hb1)).trans (t1 hu).2⟩, t2⟩
 case rest =>
  obtain ⟨u1, rfl, t1, t2⟩ := hcut; cases u1 with
  | false =>
   obtain ⟨q, hq, hx⟩ := t2 rfl; have HX := hid hx; have HQ := hid hq; clear t1 t2 hx hq; go_wp2_with fail
   go_ret
   exact ⟨false, rfl, fun e => (by cases e), fun _ => ⟨q, HQ.out, HX.out⟩⟩
  | true =>
   obtain ⟨hJ2, k2⟩ := t1 rfl; clear t1 t2; have bx2 := box_kp k2 bx; have ho2 := k2.2 b _ _ _ (.inl rfl) ho1; have k02 := k1.trans k2; clear bx ho1 k1 k2 hJ1 c0 c1 n0 n2; have c0 : wc.cell? ⟨B, 0, none⟩ = some (.string lo) := cell_of_obj bx2 rfl; have c1 : wc.cell? ⟨B, 1, none⟩ = some (.string hi) := cell_of_obj bx2 rfl; have n0 : wc.cell? ⟨b, 0, none⟩ = some (.string k) := cell_of_obj ho2 rfl; go_wp2_with fail
   go_cut [42] (fun s42 wx => s42 = .bool false ∧ J (pre ++ y1) wx ∧ Kp wc wx)
   case first =>
    have kc0 := cell_regrown c0; have kc1 := cell_regrown c1; have kn0 := cell_regrown n0
    refine wp_region_quiet_below (by kernel_rfl) (by kernel_rfl) ?_; repeat (go_big_quiet_step (first | (go_at_call 182; exact Calls.regrown_of (FR.out _ (cell_later (below_regrown _ _ _) n0))) | (go_at_call 183; exact Calls.regrown_of (UN.out _ (cell_later (below_regrown _ _ _) n0)))))
    refine wpQuiet_nil ?_; intro w1 hw; have hb1 := below_of_regrown hw; go_wp2_with fail
    go_meet
    exact ⟨rfl, HH.out.later _ _ _ hJ2 hb1, Kp.of_below hb1⟩
   case rest =>
     obtain ⟨rfl, hJ3, k3⟩ := hcut; clear c0 c1 n0; have bx3 := box_kp k3 bx2; have ho3 := k3.2 b _ _ _ (.inl rfl) ho2; have k03 := k02.trans k3; clear bx2 ho2 k02 k3 hJ2; have d0 : wc.cell? ⟨B, 0, none⟩ = some (.string lo) := cell_of_obj bx3 rfl; have d1 : wc.cell? ⟨B, 1, none⟩ = some (.string hi) := cell_of_obj bx3 rfl; have e0 : wc.cell? ⟨b, 0, none⟩ = some (.string k) := cell_of_obj ho3 rfl; have e2 : wc.cell? ⟨b, 3, none⟩ = some (.pointer tr.pt) := cell_of_obj ho3 rfl; clear bx3 ho3; go_wp2_with fail
     have kc0 := cell_regrown d0; have kc1 := cell_regrown d1; have kn0 := cell_regrown e0
     refine wp_region_quiet_below (by kernel_rfl) (by kernel_rfl) ?_; repeat (go_big_quiet_step ((go_at_call 183; exact Calls.regrown_of (UN.out _ (cell_later (below_regrown _ _ _) e0)))))
     refine wpQuiet_nil ?_; intro w1 hw; have hb1 := below_of_regrown hw; go_wp2_with fail
     go_ret
     exact ⟨true, rfl, fun _ => ⟨HH.out.later _ _ _ hJ3 hb1, k03.trans (Kp.of_below hb1)⟩, fun e => (by cases e)⟩
set_option maxRecDepth 100000 in
theorem up_ft {α : Type} {f : α → En} {l N : Nat} {J Jx : List α → World → Prop} (H : Loops f l N J Jx) {b : Nat} {k lo hi : ByteArray} {v : Hd} {tl tr : Tr} {pre y3 : List α} {W : World}
  (h : TrIn (fun _ => True) W (.node b k v tl tr)) (hf : fromB lo k = false) (hu : underB hi k = true) (hJ : J pre W)
  (ir : ∀ W', Kp W W' → J (pre) W' → Calls Tryz.prog 134 #[.pointer tr.pt, .agg #[.string lo, .string hi], .func (.yield l) #[] #[]] W' (Ran J Jx (pre) y3 W')) :
  Calls Tryz.prog 134 #[.pointer (some ⟨b, 0, none⟩), .agg #[.string lo, .string hi], .func (.yield l) #[] #[]] W (Ran J Jx pre (y3) W) := by
 obtain ⟨⟨-, ho⟩, h0, h1, h2, h3, h4, hl, hr⟩ := h; clear h0 h1 h2 h3 h4 hl hr; have bx := box_new W lo hi; have k1 : Kp W (W.alloc (.cells #[.string lo, .string hi] 25)) := Kp.of_below (Below.al (Below.refl _ _) _); have ho1 := k1.2 b _ _ _ (.inl rfl) ho; have hJ1 := H.later _ _ _ hJ (Below.al (Below.refl _ W) (.cells #[.string lo, .string hi] 25)); have FR : Hid (∀ W', W'.cell? ⟨b, 0, none⟩ = some (.string k) → Calls Tryz.prog 182 #[.pointer (some ⟨b, 0, none⟩), .agg #[.string lo, .string hi]] W' fun e w' => e = .returned (.bool false) ∧ Below W'.heap.size W' w') := fun W' h => from_is hf h
 have UN : Hid (∀ W', W'.cell? ⟨b, 0, none⟩ = some (.string k) → Calls Tryz.prog 183 #[.pointer (some ⟨b, 0, none⟩), .agg #[.string lo, .string hi]] W' fun e w' => e = .returned (.bool true) ∧ Below W'.heap.size W' w') := fun W' h => under_is hu h
 have IR := hid ir; have HH := hid H; clear ir H hf hu; obtain ⟨W0, hW0⟩ : ∃ W0, W0 = W.alloc (.cells #[.string lo, .string hi] 25) := ⟨_, rfl⟩; obtain ⟨B, hB⟩ : ∃ B, B = W.heap.size := ⟨_, rfl⟩; go_enter Tryz.func134, Tryz.ntmps134
 go_wp2_with fail
 rw [← hW0] at bx k1 ho1 hJ1 ⊢; rw [← hB] at bx ⊢; have c0 : W0.cell? ⟨B, 0, none⟩ = some (.string lo) := cell_of_obj bx rfl; have c1 : W0.cell? ⟨B, 1, none⟩ = some (.string hi) := cell_of_obj bx rfl; have n0 : W0.cell? ⟨b, 0, none⟩ = some (.string k) := cell_of_obj ho1 rfl; have n2 : W0.cell? ⟨b, 2, none⟩ = some (.pointer tl.pt) := cell_of_obj ho1 rfl; clear hW0 hB ho hJ; go_cut [21] (fun s21 wx => s21 = .bool false ∧ J pre wx ∧ Kp W0 wx)
 case first =>
  have kc0 := cell_regrown c0; have kc1 := cell_regrown c1; have kn0 := cell_regrown n0
  refine wp_region_quiet_below (by kernel_rfl) (by kernel_rfl) ?_; repeat (go_big_quiet_step ((go_at_call 182; exact Calls.regrown_of (FR.out _ (cell_later (below_regrown _ _ _) n0)))))
  refine wpQuiet_nil ?_; intro w1 hw; have hb1 := below_of_regrown hw; go_wp2_with fail
  go_meet
  exact ⟨rfl, HH.out.later _ _ _ hJ1 hb1, Kp.of_below hb1⟩
 case rest =>
   obtain ⟨rfl, hJ2, k2⟩ := hcut; have bx2 := box_kp k2 bx; have ho2 := k2.2 b _ _ _ (.inl rfl) ho1; have k02 := k1.trans k2; clear bx ho1 k1 k2 hJ1 c0 c1 n0 n2; have c0 : wc.cell? ⟨B, 0, none⟩ = some (.string lo) := cell_of_obj bx2 rfl; have c1 : wc.cell? ⟨B, 1, none⟩ = some (.string hi) := cell_of_obj bx2 rfl; have n0 : wc.cell? ⟨b, 0, none⟩ = some (.string k) := cell_of_obj ho2 rfl; go_wp2_with fail
   go_cut [42] (fun s42 wx => s42 = .bool false ∧ J (pre) wx ∧ Kp wc wx)
   case first =>
    have kc0 := cell_regrown c0; have kc1 := cell_regrown c1; have kn0 := cell_regrown n0
    refine wp_region_quiet_below (by kernel_rfl) (by kernel_rfl) ?_; repeat (go_big_quiet_step (((go_at_call 182; exact Calls.regrown_of (FR.out _ (cell_later (below_regrown _ _ _) n0))))))
    refine wpQuiet_nil ?_; intro w1 hw; have hb1 := below_of_regrown hw; go_wp2_with fail
    go_meet
    exact ⟨rfl, HH.out.later _ _ _ hJ2 hb1, Kp.of_below hb1⟩
   case rest =>
     obtain ⟨rfl, hJ3, k3⟩ := hcut; clear c0 c1 n0; have bx3 := box_kp k3 bx2; have ho3 := k3.2 b _ _ _ (.inl rfl) ho2; have k03 := k02.trans k3; clear bx2 ho2 k02 k3 hJ2; have d0 : wc.cell? ⟨B, 0, none⟩ = some (.string lo) := cell_of_obj bx3 rfl; have d1 : wc.cell? ⟨B, 1, none⟩ = some (.string hi) := cell_of_obj bx3 rfl; have e0 : wc.cell? ⟨b, 0, none⟩ = some (.string k) := cell_of_obj ho3 rfl; have e2 : wc.cell? ⟨b, 3, none⟩ = some (.pointer tr.pt) := cell_of_obj ho3 rfl; clear bx3 ho3; go_wp2_with fail
     go_region_with (first
      | (go_at_call 183; refine (UN.out _ ?_).mono ?_; (simp [e0]); rintro e w1 ⟨rfl, hb1⟩; have d0' := cell_later hb1 d0; have d1' := cell_later hb1 d1; have e2' := cell_later hb1 e2)
      | (go_at_call 134; refine (IR.out _ (k03.trans (Kp.of_below (Below.on (Below.drew (Below.refl _ _)) hb1))) (HH.out.later _ _ _ hJ3 (Below.on (Below.drew (Below.refl _ _)) hb1))).mono ?_; rintro e w2 ⟨u3, rfl, t1, t2⟩))
     all_goals (try go_wp2_with fail)
     all_goals go_ret
     all_goals exact ⟨u3, rfl, fun hu => ⟨(t1 hu).1, (k03.trans (Kp.of_below (Below.on (Below.drew (Below.refl _ _)) hb1))).trans (t1 hu).2⟩, fun hu => by obtain ⟨q, hq, hx⟩ := t2 hu; exact ⟨q, hq, hx⟩⟩
set_option maxRecDepth 100000 in
theorem up_ff {α : Type} {f : α → En} {l N : Nat} {J Jx : List α → World → Prop} (H : Loops f l N J Jx) {b : Nat} {k lo hi : ByteArray} {v : Hd} {tl tr : Tr} {pre : List α} {W : World}
  (h : TrIn (fun _ => True) W (.node b k v tl tr)) (hf : fromB lo k = false) (hu : underB hi k = false) (hJ : J pre W) :
  Calls Tryz.prog 134 #[.pointer (some ⟨b, 0, none⟩), .agg #[.string lo, .string hi], .func (.yield l) #[] #[]] W (Ran J Jx pre ([]) W) := by
 obtain ⟨⟨-, ho⟩, h0, h1, h2, h3, h4, hl, hr⟩ := h; clear h0 h1 h2 h3 h4 hl hr; have bx := box_new W lo hi; have k1 : Kp W (W.alloc (.cells #[.string lo, .string hi] 25)) := Kp.of_below (Below.al (Below.refl _ _) _); have ho1 := k1.2 b _ _ _ (.inl rfl) ho; have hJ1 := H.later _ _ _ hJ (Below.al (Below.refl _ W) (.cells #[.string lo, .string hi] 25)); have FR : Hid (∀ W', W'.cell? ⟨b, 0, none⟩ = some (.string k) → Calls Tryz.prog 182 #[.pointer (some ⟨b, 0, none⟩), .agg #[.string lo, .string hi]] W' fun e w' => e = .returned (.bool false) ∧ Below W'.heap.size W' w') := fun W' h => from_is hf h
 have UN : Hid (∀ W', W'.cell? ⟨b, 0, none⟩ = some (.string k) → Calls Tryz.prog 183 #[.pointer (some ⟨b, 0, none⟩), .agg #[.string lo, .string hi]] W' fun e w' => e = .returned (.bool false) ∧ Below W'.heap.size W' w') := fun W' h => under_is hu h
 have HH := hid H; clear H hf hu; obtain ⟨W0, hW0⟩ : ∃ W0, W0 = W.alloc (.cells #[.string lo, .string hi] 25) := ⟨_, rfl⟩; obtain ⟨B, hB⟩ : ∃ B, B = W.heap.size := ⟨_, rfl⟩; go_enter Tryz.func134, Tryz.ntmps134
 go_wp2_with fail
 rw [← hW0] at bx k1 ho1 hJ1 ⊢; rw [← hB] at bx ⊢; have c0 : W0.cell? ⟨B, 0, none⟩ = some (.string lo) := cell_of_obj bx rfl; have c1 : W0.cell? ⟨B, 1, none⟩ = some (.string hi) := cell_of_obj bx rfl; have n0 : W0.cell? ⟨b, 0, none⟩ = some (.string k) := cell_of_obj ho1 rfl; have n2 : W0.cell? ⟨b, 2, none⟩ = some (.pointer tl.pt) := cell_of_obj ho1 rfl; clear hW0 hB ho hJ; go_cut [21] (fun s21 wx => s21 = .bool false ∧ J pre wx ∧ Kp W0 wx)
 case first =>
  have kc0 := cell_regrown c0; have kc1 := cell_regrown c1; have kn0 := cell_regrown n0
  refine wp_region_quiet_below (by kernel_rfl) (by kernel_rfl) ?_; repeat (go_big_quiet_step ((go_at_call 182; exact Calls.regrown_of (FR.out _ (cell_later (below_regrown _ _ _) n0)))))
  refine wpQuiet_nil ?_; intro w1 hw; have hb1 := below_of_regrown hw; go_wp2_with fail
  go_meet
  exact ⟨rfl, HH.out.later _ _ _ hJ1 hb1, Kp.of_below hb1⟩
 case rest =>
   obtain ⟨rfl, hJ2, k2⟩ := hcut; have bx2 := box_kp k2 bx; have ho2 := k2.2 b _ _ _ (.inl rfl) ho1; have k02 := k1.trans k2; clear bx ho1 k1 k2 hJ1 c0 c1 n0 n2; have c0 : wc.cell? ⟨B, 0, none⟩ = some (.string lo) := cell_of_obj bx2 rfl; have c1 : wc.cell? ⟨B, 1, none⟩ = some (.string hi) := cell_of_obj bx2 rfl; have n0 : wc.cell? ⟨b, 0, none⟩ = some (.string k) := cell_of_obj ho2 rfl; go_wp2_with fail
   go_cut [42] (fun s42 wx => s42 = .bool false ∧ J (pre) wx ∧ Kp wc wx)
   case first =>
    have kc0 := cell_regrown c0; have kc1 := cell_regrown c1; have kn0 := cell_regrown n0
    refine wp_region_quiet_below (by kernel_rfl) (by kernel_rfl) ?_; repeat (go_big_quiet_step (((go_at_call 182; exact Calls.regrown_of (FR.out _ (cell_later (below_regrown _ _ _) n0))))))
    refine wpQuiet_nil ?_; intro w1 hw; have hb1 := below_of_regrown hw; go_wp2_with fail
    go_meet
    exact ⟨rfl, HH.out.later _ _ _ hJ2 hb1, Kp.of_below hb1⟩
   case rest =>
     obtain ⟨rfl, hJ3, k3⟩ := hcut; clear c0 c1 n0; have bx3 := box_kp k3 bx2; have ho3 := k3.2 b _ _ _ (.inl rfl) ho2; have k03 := k02.trans k3; clear bx2 ho2 k02 k3 hJ2; have d0 : wc.cell? ⟨B, 0, none⟩ = some (.string lo) := cell_of_obj bx3 rfl; have d1 : wc.cell? ⟨B, 1, none⟩ = some (.string hi) := cell_of_obj bx3 rfl; have e0 : wc.cell? ⟨b, 0, none⟩ = some (.string k) := cell_of_obj ho3 rfl; have e2 : wc.cell? ⟨b, 3, none⟩ = some (.pointer tr.pt) := cell_of_obj ho3 rfl; clear bx3 ho3; go_wp2_with fail
     have kc0 := cell_regrown d0; have kc1 := cell_regrown d1; have kn0 := cell_regrown e0
     refine wp_region_quiet_below (by kernel_rfl) (by kernel_rfl) ?_; repeat (go_big_quiet_step ((go_at_call 183; exact Calls.regrown_of (UN.out _ (cell_later (below_regrown _ _ _) e0)))))
     refine wpQuiet_nil ?_; intro w1 hw; have hb1 := below_of_regrown hw; go_wp2_with fail
     go_ret
     exact ⟨true, rfl, fun _ => ⟨by simpa using HH.out.later _ _ _ hJ3 hb1, k03.trans (Kp.of_below hb1)⟩, fun e => (by cases e)⟩
open Go.RowKit Go.Sort
theorem turnedLeft_is {S : Nat → Prop} {b : Nat} {k : ByteArray} {v : Hd} {l i o : Tr} {rb : Nat} {rk : ByteArray} {rv : Hd} {w : World} (hS : ∀ j, w.heap.size ≤ j → S j) (h0 : w.cell? ⟨b, 0, none⟩ = some (.string k)) (h1 : w.cell? ⟨b, 1, none⟩ = some (.slice (some ⟨v.g, 0, none⟩) v.n v.cap))
  (hx : TrIn S w l) (hr : TrIn S w (.node rb rk rv i o)) (hn : l.n + i.n + o.n + 1 ≤ 1152921504606846976) :
  Calls Tryz.prog 261 #[.pointer (some ⟨b, 0, none⟩), .pointer l.pt, .pointer (some ⟨rb, 0, none⟩)] w fun e w' => ∃ T' : Tr, e = .returned (.pointer T'.pt) ∧ TrIn S w' T' ∧ T'.list = l.list ++ (k, v) :: (i.list ++ (rk, rv) :: o.list) ∧ Below w.heap.size w w' := by
 obtain ⟨hrb, r0, r1, r2, r3, r4, hin1, hin2⟩ := hr; clear r4; obtain ⟨hi, ho⟩ : TrIn S w i ∧ TrIn S w o := ⟨hin1, hin2⟩; clear hin1 hin2; have WI : Hid (∀ W, Below w.heap.size w W → Calls Tryz.prog 260 #[.pointer i.pt] W fun e w' => e = .returned (.int .i64 ((i.n : Int) + 1)) ∧ w' = W) := fun W hb => weight_is (hi.later hb) (by omega)
 have WO : Hid (∀ W, Below w.heap.size w W → Calls Tryz.prog 260 #[.pointer o.pt] W fun e w' => e = .returned (.int .i64 ((o.n : Int) + 1)) ∧ w' = W) := fun W hb => weight_is (ho.later hb) (by omega)
 have HS := hid hS; clear hS; have later : ∀ W, Below w.heap.size w W → ∀ j, W.heap.size ≤ j → S j := fun W hb j hj => HS.out j (Nat.le_trans hb.size hj)
 have hw2 : IntKind.i64.wrap (2 * ((o.n : Int) + 1)) = 2 * ((o.n : Int) + 1) := by rw [IntKind.wrap_i64]; omega
 by_cases hlt : i.n + 1 < 2 * (o.n + 1)
 ·have hlt' : decide (((i.n : Int) + 1) < 2 * ((o.n : Int) + 1)) = true := decide_eq_true (by omega); have O1 : Hid (∀ W, Below w.heap.size w W → Calls Tryz.prog 263 #[.pointer (some ⟨b, 0, none⟩), .pointer l.pt, .pointer i.pt] W fun e w' => ∃ b', e = .returned (.pointer (some ⟨b', 0, none⟩)) ∧ TrIn S w' (.node b' k v l i) ∧ Below W.heap.size W w') := fun W hb =>
   over_is (later W hb) (cell_later hb h0) (cell_later hb h1) (hx.later hb) (hi.later hb) (by omega)
  have O2 : Hid (∀ W b1, Below w.heap.size w W → TrIn S W (.node b1 k v l i) → Calls Tryz.prog 263 #[.pointer (some ⟨rb, 0, none⟩), .pointer (some ⟨b1, 0, none⟩), .pointer o.pt] W fun e w' => ∃ b', e = .returned (.pointer (some ⟨b', 0, none⟩)) ∧ TrIn S w' (.node b' rk rv (.node b1 k v l i) o) ∧ Below W.heap.size W w') := fun W b1 hb ht =>
   over_is (l := .node b1 k v l i) (later W hb) (cell_later hb r0) (cell_later hb r1) ht (ho.later hb) (by simp only [Tr.n]; omega)
  obtain ⟨ni, hni⟩ : ∃ m, m = i.n := ⟨_, rfl⟩; obtain ⟨no, hno⟩ : ∃ m, m = o.n := ⟨_, rfl⟩; rw [← hni] at WI hlt'; rw [← hno] at WO hlt' hw2; obtain ⟨pi, hpi⟩ : ∃ p, p = i.pt := ⟨_, rfl⟩; obtain ⟨po, hpo⟩ : ∃ p, p = o.pt := ⟨_, rfl⟩; obtain ⟨px, hpx⟩ : ∃ p, p = l.pt := ⟨_, rfl⟩; rw [← hpi] at WI O1 r2; rw [← hpo] at WO O2 r3; rw [← hpx] at O1 ⊢; have hn' : no ≤ 1152921504606846976 := by omega
  clear hni hno hpi hpo hpx hlt hn hi ho hx later r0 r1 h0 h1 HS; go_enter Tryz.func261, Tryz.ntmps261
  go_wp2_with fail
  go_region
  go_wp2_with (first
   | (go_at_call_of 260 pi; refine (WI.out _ ?_).mono ?_; ((repeat (first | exact Below.refl _ _ | assumption | refine Below.drew ?_ | refine Below.al ?_ _ | refine Below.setCell ?_ (by first | exact Nat.le_refl _ | (simp; omega) | (simp; done)) _ | refine Below.on ?_ (by assumption)))); rintro e w1 ⟨rfl, rfl⟩)
   | (go_at_call_of 260 po; refine (WO.out _ ?_).mono ?_; ((repeat (first | exact Below.refl _ _ | assumption | refine Below.drew ?_ | refine Below.al ?_ _ | refine Below.setCell ?_ (by first | exact Nat.le_refl _ | (simp; omega) | (simp; done)) _ | refine Below.on ?_ (by assumption)))); rintro e w1 ⟨rfl, rfl⟩)
   | (go_at_call_of 263 px; refine (O1.out _ ?_).mono ?_; ((repeat (first | exact Below.refl _ _ | assumption | refine Below.drew ?_ | refine Below.al ?_ _ | refine Below.setCell ?_ (by first | exact Nat.le_refl _ | (simp; omega) | (simp; done)) _ | refine Below.on ?_ (by assumption)))); rintro e w1 ⟨b1, rfl, t1, hb1⟩)
   | (go_at_call_of 263 po; refine (O2.out _ b1 ?_ t1).mono ?_; ((repeat (first | exact Below.refl _ _ | assumption | refine Below.drew ?_ | refine Below.al ?_ _ | refine Below.setCell ?_ (by first | exact Nat.le_refl _ | (simp; omega) | (simp; done)) _ | refine Below.on ?_ (by assumption)))); rintro e w2 ⟨b2, rfl, t2, hb2⟩))
  go_ret
  exact ⟨.node b2 rk rv (.node b1 k v l i) o, rfl, t2, by simp [Tr.list], by (repeat (first | exact Below.refl _ _ | assumption | refine Below.drew ?_ | refine Below.al ?_ _ | refine Below.setCell ?_ (by first | exact Nat.le_refl _ | (simp; omega) | (simp; done)) _ | refine Below.on ?_ (by assumption)))⟩
 ·have hlt' : decide (((i.n : Int) + 1) < 2 * ((o.n : Int) + 1)) = false := decide_eq_false (by omega); cases i with
  | nil => simp only [Tr.n] at hlt; omega
  | node ib ik iv c d =>
   obtain ⟨hib, i0, i1, i2, i3, i4, hin1, hin2⟩ := hi; clear i4; obtain ⟨hc, hd⟩ : TrIn S w c ∧ TrIn S w d := ⟨hin1, hin2⟩; clear hin1 hin2; simp only [Tr.n] at hn; have O1 : Hid (∀ W, Below w.heap.size w W → Calls Tryz.prog 263 #[.pointer (some ⟨b, 0, none⟩), .pointer l.pt, .pointer c.pt] W fun e w' => ∃ b', e = .returned (.pointer (some ⟨b', 0, none⟩)) ∧ TrIn S w' (.node b' k v l c) ∧ Below W.heap.size W w') := fun W hb =>
    over_is (later W hb) (cell_later hb h0) (cell_later hb h1) (hx.later hb) (hc.later hb) (by omega)
   have O2 : Hid (∀ W, Below w.heap.size w W → Calls Tryz.prog 263 #[.pointer (some ⟨rb, 0, none⟩), .pointer d.pt, .pointer o.pt] W fun e w' => ∃ b', e = .returned (.pointer (some ⟨b', 0, none⟩)) ∧ TrIn S w' (.node b' rk rv d o) ∧ Below W.heap.size W w') := fun W hb =>
    over_is (later W hb) (cell_later hb r0) (cell_later hb r1) (hd.later hb) (ho.later hb) (by omega)
   have O3 : Hid (∀ W b1 b2, Below w.heap.size w W → TrIn S W (.node b1 k v l c) → TrIn S W (.node b2 rk rv d o) → Calls Tryz.prog 263 #[.pointer (some ⟨ib, 0, none⟩), .pointer (some ⟨b1, 0, none⟩), .pointer (some ⟨b2, 0, none⟩)] W fun e w' => ∃ b', e = .returned (.pointer (some ⟨b', 0, none⟩)) ∧ TrIn S w' (.node b' ik iv (.node b1 k v l c) (.node b2 rk rv d o)) ∧ Below W.heap.size W w') := fun W b1 b2 hb ht hu =>
    over_is (l := .node b1 k v l c) (r := .node b2 rk rv d o) (later W hb) (cell_later hb i0) (cell_later hb i1) ht hu (by simp only [Tr.n]; omega)
   simp only [Tr.pt] at r2 WI; obtain ⟨ni, hni⟩ : ∃ m, m = (Tr.node ib ik iv c d).n := ⟨_, rfl⟩; obtain ⟨no, hno⟩ : ∃ m, m = o.n := ⟨_, rfl⟩; rw [← hni] at WI hlt'; rw [← hno] at WO hlt' hw2; obtain ⟨pc, hpc⟩ : ∃ p, p = c.pt := ⟨_, rfl⟩; obtain ⟨pd, hpd⟩ : ∃ p, p = d.pt := ⟨_, rfl⟩; obtain ⟨po, hpo⟩ : ∃ p, p = o.pt := ⟨_, rfl⟩; obtain ⟨px, hpx⟩ : ∃ p, p = l.pt := ⟨_, rfl⟩; rw [← hpc] at O1 i2; rw [← hpd] at O2 i3; rw [← hpo] at WO O2 r3; rw [← hpx] at O1 ⊢; have hn' : no ≤ 1152921504606846976 := by omega
   clear hni hno hpc hpd hpo hpx hlt hn hc hd ho hx later r0 r1 h0 h1 i0 i1 HS; go_enter Tryz.func261, Tryz.ntmps261
   go_wp2_with fail
   go_region
   go_wp2_with (first
    | (go_at_call_of 260 po; refine (WO.out _ ?_).mono ?_; ((repeat (first | exact Below.refl _ _ | assumption | refine Below.drew ?_ | refine Below.al ?_ _ | refine Below.setCell ?_ (by first | exact Nat.le_refl _ | (simp; omega) | (simp; done)) _ | refine Below.on ?_ (by assumption)))); rintro e w1 ⟨rfl, rfl⟩)
    | (go_at_call 260; refine (WI.out _ ?_).mono ?_; ((repeat (first | exact Below.refl _ _ | assumption | refine Below.drew ?_ | refine Below.al ?_ _ | refine Below.setCell ?_ (by first | exact Nat.le_refl _ | (simp; omega) | (simp; done)) _ | refine Below.on ?_ (by assumption)))); rintro e w1 ⟨rfl, rfl⟩))
   go_region_held3 (fun w' => w'.cell? ⟨ib, 2, none⟩ = some (.pointer pc) ∧ w'.cell? ⟨ib, 3, none⟩ = some (.pointer pd) ∧ Below w.heap.size w w')
    ((refine (fun (hB : Below w.heap.size w _) => ⟨cell_later hB i2, cell_later hB i3, hB⟩) ?_; (repeat (first | exact Below.refl _ _ | assumption | refine Below.drew ?_ | refine Below.al ?_ _ | refine Below.setCell ?_ (by first | exact Nat.le_refl _ | (simp; omega) | (simp; done)) _ | refine Below.on ?_ (by assumption)))))
    (first
     | (go_at_call_of 263 px; refine (O1.out _ ?_).mono ?_; ((repeat (first | exact Below.refl _ _ | assumption | refine Below.drew ?_ | refine Below.al ?_ _ | refine Below.setCell ?_ (by first | exact Nat.le_refl _ | (simp; omega) | (simp; done)) _ | refine Below.on ?_ (by assumption)))); rintro e w1 ⟨b1, rfl, t1, hb1⟩)
     | (go_at_call_of 263 po; refine (O2.out _ ?_).mono ?_; ((repeat (first | exact Below.refl _ _ | assumption | refine Below.drew ?_ | refine Below.al ?_ _ | refine Below.setCell ?_ (by first | exact Nat.le_refl _ | (simp; omega) | (simp; done)) _ | refine Below.on ?_ (by assumption)))); rintro e w2 ⟨b2, rfl, t2, hb2⟩)
     | (go_at_call 263; refine (O3.out _ b1 b2 ?_ (t1.later ?_) (t2.later ?_)).mono ?_; ((repeat (first | exact Below.refl _ _ | assumption | refine Below.drew ?_ | refine Below.al ?_ _ | refine Below.setCell ?_ (by first | exact Nat.le_refl _ | (simp; omega) | (simp; done)) _ | refine Below.on ?_ (by assumption)))); ((repeat (first | exact Below.refl _ _ | assumption | refine Below.drew ?_ | refine Below.al ?_ _ | refine Below.setCell ?_ (by first | exact Nat.le_refl _ | (simp; omega) | (simp; done)) _ | refine Below.on ?_ (by assumption)))); ((repeat (first | exact Below.refl _ _ | assumption | refine Below.drew ?_ | refine Below.al ?_ _ | refine Below.setCell ?_ (by first | exact Nat.le_refl _ | (simp; omega) | (simp; done)) _ | refine Below.on ?_ (by assumption)))); rintro e w3 ⟨b3, rfl, t3, hb3⟩))
   all_goals go_wp2_with fail
   all_goals go_ret
   all_goals exact ⟨.node b3 ik iv (.node b1 k v l c) (.node b2 rk rv d o), rfl, t3, by simp [Tr.list], by (repeat (first | exact Below.refl _ _ | assumption | refine Below.drew ?_ | refine Below.al ?_ _ | refine Below.setCell ?_ (by first | exact Nat.le_refl _ | (simp; omega) | (simp; done)) _ | refine Below.on ?_ (by assumption)))⟩
theorem turnedRight_is {S : Nat → Prop} {b : Nat} {k : ByteArray} {v : Hd} {r i o : Tr} {rb : Nat} {rk : ByteArray} {rv : Hd} {w : World} (hS : ∀ j, w.heap.size ≤ j → S j) (h0 : w.cell? ⟨b, 0, none⟩ = some (.string k)) (h1 : w.cell? ⟨b, 1, none⟩ = some (.slice (some ⟨v.g, 0, none⟩) v.n v.cap))
  (hx : TrIn S w r) (hr : TrIn S w (.node rb rk rv o i)) (hn : r.n + i.n + o.n + 1 ≤ 1152921504606846976) :
  Calls Tryz.prog 262 #[.pointer (some ⟨b, 0, none⟩), .pointer (some ⟨rb, 0, none⟩), .pointer r.pt] w fun e w' => ∃ T' : Tr, e = .returned (.pointer T'.pt) ∧ TrIn S w' T' ∧ T'.list = (o.list ++ (rk, rv) :: i.list) ++ (k, v) :: r.list ∧ Below w.heap.size w w' := by
 obtain ⟨hrb, r0, r1, r2, r3, r4, hin1, hin2⟩ := hr; clear r4; obtain ⟨hi, ho⟩ : TrIn S w i ∧ TrIn S w o := ⟨hin2, hin1⟩; clear hin1 hin2; have WI : Hid (∀ W, Below w.heap.size w W → Calls Tryz.prog 260 #[.pointer i.pt] W fun e w' => e = .returned (.int .i64 ((i.n : Int) + 1)) ∧ w' = W) := fun W hb => weight_is (hi.later hb) (by omega)
 have WO : Hid (∀ W, Below w.heap.size w W → Calls Tryz.prog 260 #[.pointer o.pt] W fun e w' => e = .returned (.int .i64 ((o.n : Int) + 1)) ∧ w' = W) := fun W hb => weight_is (ho.later hb) (by omega)
 have HS := hid hS; clear hS; have later : ∀ W, Below w.heap.size w W → ∀ j, W.heap.size ≤ j → S j := fun W hb j hj => HS.out j (Nat.le_trans hb.size hj)
 have hw2 : IntKind.i64.wrap (2 * ((o.n : Int) + 1)) = 2 * ((o.n : Int) + 1) := by rw [IntKind.wrap_i64]; omega
 by_cases hlt : i.n + 1 < 2 * (o.n + 1)
 ·have hlt' : decide (((i.n : Int) + 1) < 2 * ((o.n : Int) + 1)) = true := decide_eq_true (by omega); have O1 : Hid (∀ W, Below w.heap.size w W → Calls Tryz.prog 263 #[.pointer (some ⟨b, 0, none⟩), .pointer i.pt, .pointer r.pt] W fun e w' => ∃ b', e = .returned (.pointer (some ⟨b', 0, none⟩)) ∧ TrIn S w' (.node b' k v i r) ∧ Below W.heap.size W w') := fun W hb =>
   over_is (later W hb) (cell_later hb h0) (cell_later hb h1) (hi.later hb) (hx.later hb) (by omega)
  have O2 : Hid (∀ W b1, Below w.heap.size w W → TrIn S W (.node b1 k v i r) → Calls Tryz.prog 263 #[.pointer (some ⟨rb, 0, none⟩), .pointer o.pt, .pointer (some ⟨b1, 0, none⟩)] W fun e w' => ∃ b', e = .returned (.pointer (some ⟨b', 0, none⟩)) ∧ TrIn S w' (.node b' rk rv o (.node b1 k v i r)) ∧ Below W.heap.size W w') := fun W b1 hb ht =>
   over_is (r := .node b1 k v i r) (later W hb) (cell_later hb r0) (cell_later hb r1) (ho.later hb) ht (by simp only [Tr.n]; omega)
  obtain ⟨ni, hni⟩ : ∃ m, m = i.n := ⟨_, rfl⟩; obtain ⟨no, hno⟩ : ∃ m, m = o.n := ⟨_, rfl⟩; rw [← hni] at WI hlt'; rw [← hno] at WO hlt' hw2; obtain ⟨pi, hpi⟩ : ∃ p, p = i.pt := ⟨_, rfl⟩; obtain ⟨po, hpo⟩ : ∃ p, p = o.pt := ⟨_, rfl⟩; obtain ⟨px, hpx⟩ : ∃ p, p = r.pt := ⟨_, rfl⟩; rw [← hpi] at WI O1 r3; rw [← hpo] at WO O2 r2; rw [← hpx] at O1 ⊢; have hn' : no ≤ 1152921504606846976 := by omega
  clear hni hno hpi hpo hpx hlt hn hi ho hx later r0 r1 h0 h1 HS; go_enter Tryz.func262, Tryz.ntmps262
  go_wp2_with fail
  go_region
  go_wp2_with (first
   | (go_at_call_of 260 pi; refine (WI.out _ ?_).mono ?_; ((repeat (first | exact Below.refl _ _ | assumption | refine Below.drew ?_ | refine Below.al ?_ _ | refine Below.setCell ?_ (by first | exact Nat.le_refl _ | (simp; omega) | (simp; done)) _ | refine Below.on ?_ (by assumption)))); rintro e w1 ⟨rfl, rfl⟩)
   | (go_at_call_of 260 po; refine (WO.out _ ?_).mono ?_; ((repeat (first | exact Below.refl _ _ | assumption | refine Below.drew ?_ | refine Below.al ?_ _ | refine Below.setCell ?_ (by first | exact Nat.le_refl _ | (simp; omega) | (simp; done)) _ | refine Below.on ?_ (by assumption)))); rintro e w1 ⟨rfl, rfl⟩)
   | (go_at_call_of 263 px; refine (O1.out _ ?_).mono ?_; ((repeat (first | exact Below.refl _ _ | assumption | refine Below.drew ?_ | refine Below.al ?_ _ | refine Below.setCell ?_ (by first | exact Nat.le_refl _ | (simp; omega) | (simp; done)) _ | refine Below.on ?_ (by assumption)))); rintro e w1 ⟨b1, rfl, t1, hb1⟩)
   | (go_at_call_of 263 po; refine (O2.out _ b1 ?_ t1).mono ?_; ((repeat (first | exact Below.refl _ _ | assumption | refine Below.drew ?_ | refine Below.al ?_ _ | refine Below.setCell ?_ (by first | exact Nat.le_refl _ | (simp; omega) | (simp; done)) _ | refine Below.on ?_ (by assumption)))); rintro e w2 ⟨b2, rfl, t2, hb2⟩))
  go_ret
  exact ⟨.node b2 rk rv o (.node b1 k v i r), rfl, t2, by simp [Tr.list], by (repeat (first | exact Below.refl _ _ | assumption | refine Below.drew ?_ | refine Below.al ?_ _ | refine Below.setCell ?_ (by first | exact Nat.le_refl _ | (simp; omega) | (simp; done)) _ | refine Below.on ?_ (by assumption)))⟩
 ·have hlt' : decide (((i.n : Int) + 1) < 2 * ((o.n : Int) + 1)) = false := decide_eq_false (by omega); cases i with
  | nil => simp only [Tr.n] at hlt; omega
  | node ib ik iv d c =>
   obtain ⟨hib, i0, i1, i2, i3, i4, hin1, hin2⟩ := hi; clear i4; obtain ⟨hc, hd⟩ : TrIn S w c ∧ TrIn S w d := ⟨hin2, hin1⟩; clear hin1 hin2; simp only [Tr.n] at hn; have O1 : Hid (∀ W, Below w.heap.size w W → Calls Tryz.prog 263 #[.pointer (some ⟨b, 0, none⟩), .pointer c.pt, .pointer r.pt] W fun e w' => ∃ b', e = .returned (.pointer (some ⟨b', 0, none⟩)) ∧ TrIn S w' (.node b' k v c r) ∧ Below W.heap.size W w') := fun W hb =>
    over_is (later W hb) (cell_later hb h0) (cell_later hb h1) (hc.later hb) (hx.later hb) (by omega)
   have O2 : Hid (∀ W, Below w.heap.size w W → Calls Tryz.prog 263 #[.pointer (some ⟨rb, 0, none⟩), .pointer o.pt, .pointer d.pt] W fun e w' => ∃ b', e = .returned (.pointer (some ⟨b', 0, none⟩)) ∧ TrIn S w' (.node b' rk rv o d) ∧ Below W.heap.size W w') := fun W hb =>
    over_is (later W hb) (cell_later hb r0) (cell_later hb r1) (ho.later hb) (hd.later hb) (by omega)
   have O3 : Hid (∀ W b1 b2, Below w.heap.size w W → TrIn S W (.node b1 k v c r) → TrIn S W (.node b2 rk rv o d) → Calls Tryz.prog 263 #[.pointer (some ⟨ib, 0, none⟩), .pointer (some ⟨b2, 0, none⟩), .pointer (some ⟨b1, 0, none⟩)] W fun e w' => ∃ b', e = .returned (.pointer (some ⟨b', 0, none⟩)) ∧ TrIn S w' (.node b' ik iv (.node b2 rk rv o d) (.node b1 k v c r)) ∧ Below W.heap.size W w') := fun W b1 b2 hb ht hu =>
    over_is (r := .node b1 k v c r) (l := .node b2 rk rv o d) (later W hb) (cell_later hb i0) (cell_later hb i1) hu ht (by simp only [Tr.n]; omega)
   simp only [Tr.pt] at r3 WI; obtain ⟨ni, hni⟩ : ∃ m, m = (Tr.node ib ik iv d c).n := ⟨_, rfl⟩; obtain ⟨no, hno⟩ : ∃ m, m = o.n := ⟨_, rfl⟩; rw [← hni] at WI hlt'; rw [← hno] at WO hlt' hw2; obtain ⟨pc, hpc⟩ : ∃ p, p = c.pt := ⟨_, rfl⟩; obtain ⟨pd, hpd⟩ : ∃ p, p = d.pt := ⟨_, rfl⟩; obtain ⟨po, hpo⟩ : ∃ p, p = o.pt := ⟨_, rfl⟩; obtain ⟨px, hpx⟩ : ∃ p, p = r.pt := ⟨_, rfl⟩; rw [← hpc] at O1 i3; rw [← hpd] at O2 i2; rw [← hpo] at WO O2 r2; rw [← hpx] at O1 ⊢; have hn' : no ≤ 1152921504606846976 := by omega
   clear hni hno hpc hpd hpo hpx hlt hn hc hd ho hx later r0 r1 h0 h1 i0 i1 HS; go_enter Tryz.func262, Tryz.ntmps262
   go_wp2_with fail
   go_region
   go_wp2_with (first
    | (go_at_call_of 260 po; refine (WO.out _ ?_).mono ?_; ((repeat (first | exact Below.refl _ _ | assumption | refine Below.drew ?_ | refine Below.al ?_ _ | refine Below.setCell ?_ (by first | exact Nat.le_refl _ | (simp; omega) | (simp; done)) _ | refine Below.on ?_ (by assumption)))); rintro e w1 ⟨rfl, rfl⟩)
    | (go_at_call 260; refine (WI.out _ ?_).mono ?_; ((repeat (first | exact Below.refl _ _ | assumption | refine Below.drew ?_ | refine Below.al ?_ _ | refine Below.setCell ?_ (by first | exact Nat.le_refl _ | (simp; omega) | (simp; done)) _ | refine Below.on ?_ (by assumption)))); rintro e w1 ⟨rfl, rfl⟩))
   go_region_held3 (fun w' => w'.cell? ⟨ib, 2, none⟩ = some (.pointer pd) ∧ w'.cell? ⟨ib, 3, none⟩ = some (.pointer pc) ∧ Below w.heap.size w w')
    ((refine (fun (hB : Below w.heap.size w _) => ⟨cell_later hB i2, cell_later hB i3, hB⟩) ?_; (repeat (first | exact Below.refl _ _ | assumption | refine Below.drew ?_ | refine Below.al ?_ _ | refine Below.setCell ?_ (by first | exact Nat.le_refl _ | (simp; omega) | (simp; done)) _ | refine Below.on ?_ (by assumption)))))
    (first
     | (go_at_call_of 263 px; refine (O1.out _ ?_).mono ?_; ((repeat (first | exact Below.refl _ _ | assumption | refine Below.drew ?_ | refine Below.al ?_ _ | refine Below.setCell ?_ (by first | exact Nat.le_refl _ | (simp; omega) | (simp; done)) _ | refine Below.on ?_ (by assumption)))); rintro e w1 ⟨b1, rfl, t1, hb1⟩)
     | (go_at_call_of 263 po; refine (O2.out _ ?_).mono ?_; ((repeat (first | exact Below.refl _ _ | assumption | refine Below.drew ?_ | refine Below.al ?_ _ | refine Below.setCell ?_ (by first | exact Nat.le_refl _ | (simp; omega) | (simp; done)) _ | refine Below.on ?_ (by assumption)))); rintro e w2 ⟨b2, rfl, t2, hb2⟩)
     | (go_at_call 263; refine (O3.out _ b1 b2 ?_ (t1.later ?_) (t2.later ?_)).mono ?_; ((repeat (first | exact Below.refl _ _ | assumption | refine Below.drew ?_ | refine Below.al ?_ _ | refine Below.setCell ?_ (by first | exact Nat.le_refl _ | (simp; omega) | (simp; done)) _ | refine Below.on ?_ (by assumption)))); ((repeat (first | exact Below.refl _ _ | assumption | refine Below.drew ?_ | refine Below.al ?_ _ | refine Below.setCell ?_ (by first | exact Nat.le_refl _ | (simp; omega) | (simp; done)) _ | refine Below.on ?_ (by assumption)))); ((repeat (first | exact Below.refl _ _ | assumption | refine Below.drew ?_ | refine Below.al ?_ _ | refine Below.setCell ?_ (by first | exact Nat.le_refl _ | (simp; omega) | (simp; done)) _ | refine Below.on ?_ (by assumption)))); rintro e w3 ⟨b3, rfl, t3, hb3⟩))
   all_goals go_wp2_with fail
   all_goals go_ret
   all_goals exact ⟨.node b3 ik iv (.node b2 rk rv o d) (.node b1 k v c r), rfl, t3, by simp [Tr.list], by (repeat (first | exact Below.refl _ _ | assumption | refine Below.drew ?_ | refine Below.al ?_ _ | refine Below.setCell ?_ (by first | exact Nat.le_refl _ | (simp; omega) | (simp; done)) _ | refine Below.on ?_ (by assumption)))⟩
end Go.Proofs.YtneojeidpfjpbaaGreatDoor.Vs
