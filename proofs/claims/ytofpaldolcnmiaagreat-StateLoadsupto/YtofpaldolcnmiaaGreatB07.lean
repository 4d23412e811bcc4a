import Derived.Test.YtofpaldolcnmiaaGreatB06
set_option linter.unusedVariables false
set_option maxHeartbeats 2000000
namespace Go.Proofs.YtofpaldolcnmiaaGreat.Vs
open Go.RowKit Go.Sort Go.Shelf
attribute [local go_sem] Oper.semAt_some
set_option maxRecDepth 100000 in
theorem up_tt {α : Type} {f : α → En} {l N : Nat} {J Jx : List α → World → Prop} (H : Loops f l N J Jx) {b : Nat} {k lo hi : ByteArray} {v : Hd} {tl tr : Tr} {pre y1 y3 : List α} {y : α} {W : World}
  (h : TrIn (fun _ => True) W (.node b k v tl tr)) (hf : fromB lo k = true) (hu : underB hi k = true) (hy : f y = (k, v)) (hJ : J pre W) (hN : (pre ++ y1).length < N)
  (il : ∀ W', Kp W W' → J pre W' → Calls Tryz.prog 183 #[.pointer tl.pt, .agg #[.string lo, .string hi], .func (.yield l) #[] #[]] W' (Ran J Jx (pre) y1 W'))
  (ir : ∀ W', Kp W W' → J (pre ++ y1 ++ [y]) W' → Calls Tryz.prog 183 #[.pointer tr.pt, .agg #[.string lo, .string hi], .func (.yield l) #[] #[]] W' (Ran J Jx (pre ++ y1 ++ [y]) y3 W')) :
  Calls Tryz.prog 183 #[.pointer (some ⟨b, 0, none⟩), .agg #[.string lo, .string hi], .func (.yield l) #[] #[]] W (Ran J Jx pre (y1 ++ [y] ++ y3) W) := by
 obtain ⟨⟨-, ho⟩, h0, h1, h2, h3, h4, hl, hr⟩ := h; clear h0 h1 h2 h3 h4 hl hr; have bx := box_new W lo hi; have k1 : Kp W (W.alloc (.cells #[.string lo, .string hi] 126)) := Kp.of_below (Below.al (Below.refl _ _) _); have ho1 := k1.2 b _ _ _ (.inl rfl) ho; have hJ1 := H.later _ _ _ hJ (Below.al (Below.refl _ W) (.cells #[.string lo, .string hi] 126)); have FR : Hid (∀ W', W'.cell? ⟨b, 0, none⟩ = some (.string k) → Calls Tryz.prog 231 #[.pointer (some ⟨b, 0, none⟩), .agg #[.string lo, .string hi]] W' fun e w' => e = .returned (.bool true) ∧ Below W'.heap.size W' w') := fun W' h => from_is hf h
 have UN : Hid (∀ W', W'.cell? ⟨b, 0, none⟩ = some (.string k) → Calls Tryz.prog 232 #[.pointer (some ⟨b, 0, none⟩), .agg #[.string lo, .string hi]] W' fun e w' => e = .returned (.bool true) ∧ Below W'.heap.size W' w') := fun W' h => under_is hu h
 have IL := hid il; have IR := hid ir; have HH := hid H; clear il ir H hf hu; obtain ⟨W0, hW0⟩ : ∃ W0, W0 = W.alloc (.cells #[.string lo, .string hi] 126) := ⟨_, rfl⟩; obtain ⟨B, hB⟩ : ∃ B, B = W.heap.size := ⟨_, rfl⟩; go_enter Tryz.func183, Tryz.ntmps183
 go_wp2_with fail
 rw [← hW0] at bx k1 ho1 hJ1 ⊢; rw [← hB] at bx ⊢; have c0 : W0.cell? ⟨B, 0, none⟩ = some (.string lo) := cob bx rfl; have c1 : W0.cell? ⟨B, 1, none⟩ = some (.string hi) := cob bx rfl; have n0 : W0.cell? ⟨b, 0, none⟩ = some (.string k) := cob ho1 rfl; have n2 : W0.cell? ⟨b, 2, none⟩ = some (.pointer tl.pt) := cob ho1 rfl; clear hW0 hB ho hJ; go_cut [21] (fun s21 wx => ∃ u1 : Bool, s21 = .bool (!u1) ∧ (u1 = true → J (pre ++ y1) wx ∧ Kp W0 wx) ∧ (u1 = false → ∃ q, q <+: y1 ∧ Jx (pre ++ q) wx))
 case first =>
  go_region_with (first
   | (go_at_call 231; refine (FR.out _ ?_).mono ?_; (simp [n0]); rintro e w1 ⟨rfl, hb1⟩; have c0' := cell_later hb1 c0; have c1' := cell_later hb1 c1; have n2' := cell_later hb1 n2)
   | (go_at_call 183; refine (IL.out _ (k1.trans (Kp.of_below (Below.on (Below.drew (Below.refl _ _)) hb1))) (HH.out.later _ _ _ hJ1 (Below.on (Below.drew (Below.refl _ _)) hb1))).mono ?_; rintro e w2 ⟨u1, rfl, t1, t2⟩))
  all_goals (try go_wp2_with fail)
  all_goals go_meet
  all_goals exact ⟨u1, rfl, fun hu => ⟨(t1 hu).1, (Kp.of_below (Below.on (Below.drew (Below.refl _ _)) hb1)).trans (t1 hu).2⟩, t2⟩
 case rest =>
  obtain ⟨u1, rfl, t1, t2⟩ := hcut; cases u1 with
  | false =>
   obtain ⟨q, hq, hx⟩ := t2 rfl; have HX := hid hx; have HQ := hid hq; clear t1 t2 hx hq; go_wp2_with fail
   go_ret
   exact ⟨false, rfl, fun e => (by cases e), fun _ => ⟨q, HQ.out.trans (by rw [List.append_assoc]; exact List.prefix_append _ _), HX.out⟩⟩
  | true =>
   obtain ⟨hJ2, k2⟩ := t1 rfl; clear t1 t2; have bx2 := box_kp k2 bx; have ho2 := k2.2 b _ _ _ (.inl rfl) ho1; have k02 := k1.trans k2; clear bx ho1 k1 k2 hJ1 c0 c1 n0 n2; have c0 : wc.cell? ⟨B, 0, none⟩ = some (.string lo) := cob bx2 rfl; have c1 : wc.cell? ⟨B, 1, none⟩ = some (.string hi) := cob bx2 rfl; have n0 : wc.cell? ⟨b, 0, none⟩ = some (.string k) := cob ho2 rfl; have n1 : wc.cell? ⟨b, 1, none⟩ = some (.slice (some ⟨v.g, 0, none⟩) v.n v.cap) := cob ho2 rfl; have UY : Hid (∀ W', Below wc.heap.size wc W' → Calls Tryz.prog 232 #[.pointer (some ⟨b, 0, none⟩), .agg #[.string lo, .string hi]] W' fun e w' => e = .returned (.bool true) ∧ w'.cell? ⟨b, 0, none⟩ = some (.string k) ∧ w'.cell? ⟨b, 1, none⟩ = some (.slice (some ⟨v.g, 0, none⟩) v.n v.cap) ∧ Hid (Kp wc w') ∧
     YieldAt Fence.wide (7 - 1) Tryz.prog l #[.string k, .slice (some ⟨v.g, 0, none⟩) v.n v.cap] w' fun e W' => ∃ u, e = .returned (.bool u) ∧ (u = true → J (pre ++ y1 ++ [y]) W' ∧ Kp w' W') ∧ (u = false → Jx (pre ++ y1 ++ [y]) W')) := fun W' hb =>
    (UN.out W' (cell_later hb n0)).mono fun e w' hw => ⟨hw.1, cell_later (Below.on hb hw.2) n0, cell_later (Below.on hb hw.2) n1, Kp.of_below (Below.on hb hw.2), by
     have := HH.out.round (7 - 1) (pre ++ y1) y w' (HH.out.later _ _ _ hJ2 (Below.on hb hw.2)) hN; rw [hy] at this; exact this⟩
   go_wp2_with fail
   go_cut [42] (fun s42 wx => ∃ u2 : Bool, s42 = .bool (!u2) ∧ (u2 = true → J (pre ++ y1 ++ [y]) wx ∧ Kp wc wx) ∧ (u2 = false → Jx (pre ++ y1 ++ [y]) wx))
   case first =>
    refine (wpIn_wide (n := 7)).1 ?_; refine wpIn_region_any (by kernel_rfl) ?_; change wpAnyIn _ _ _ _ _ _ 21 #[false, false, false, false, false, false, false, false, false, false, false, false, false, false, false, false, false, false, false, false, false] _ (World.drew _)
    refine wpAnyIn_take (i := 0) (v := ?_) rfl rfl (by kernel_rfl) (by kernel_rfl) (by kernel_rfl) (fun _ _ _ h => h) ⟨Or.inl ⟨by rfl, (by intro w; go_simp; try with_reducible rfl)⟩, fun _ => rfl⟩ ?_; simp only [Act.put, sqa, sqc, sqb, List.getElem_toArray, List.getElem_cons_zero]; refine wpAnyIn_ready (rs := [1]) (by kernel_rfl) (by simp) (AllReadyIn.cons rfl (fun K hK => ?_) AllReadyIn.nil); go_simp
    refine hK _ _ ?_; clear hK K; simp only [sqa, sqc, sqb]; refine wpAnyIn_ready (rs := [2]) (by kernel_rfl) (by simp) (AllReadyIn.cons rfl (fun K hK => ?_) AllReadyIn.nil); go_simp
    gi_wp2_with ((try refine ⟨trivial, ?_⟩); gi_at_call 231; refine (callsIn_wide.2 (FR.out _ ?_)).mono ?_; (simp [n0]); rintro e w1 ⟨rfl, hb1⟩; have c0' := cell_later hb1 c0; have c1' := cell_later hb1 c1)
    first | simp only [sqa, sqc, sqb] | (refine hK _ _ ?_; clear hK K; simp only [sqa, sqc, sqb])
    refine wpAnyIn_take (i := 3) (v := ?_) rfl rfl (by kernel_rfl) (by kernel_rfl) (by kernel_rfl) (fun _ _ _ h => h) ⟨Or.inl ⟨by rfl, (by intro w; go_simp; try with_reducible rfl)⟩, fun _ => rfl⟩ ?_; simp only [Act.put, sqa, sqc, sqb, List.getElem_toArray, List.getElem_cons_zero, List.getElem_cons_succ]; refine wpAnyIn_take (i := 4) (v := ?_) rfl rfl (by kernel_rfl) (by kernel_rfl) (by kernel_rfl) (fun _ _ _ h => h) ⟨Or.inl ⟨by rfl, (by intro w; go_simp; try with_reducible rfl)⟩, fun _ => rfl⟩ ?_; simp only [Act.put, sqa, sqc, sqb, List.getElem_toArray, List.getElem_cons_zero, List.getElem_cons_succ]; refine wpAnyIn_ready (rs := [5]) (by kernel_rfl) (by simp) (AllReadyIn.cons rfl (fun K hK => ?_) AllReadyIn.nil); go_simp
    refine hK _ _ ?_; clear hK K; simp only [sqa, sqc, sqb]; refine wpAnyIn_ready (rs := [6]) (by kernel_rfl) (by simp) (AllReadyIn.cons rfl (fun K hK => ?_) AllReadyIn.nil); go_simp
    gi_wp2_with ((try refine ⟨trivial, ?_⟩); gi_at_call 232; refine (callsIn_wide.2 (UY.out _ (Below.on (Below.drew (Below.refl _ _)) hb1))).mono ?_; rintro e w2 ⟨rfl, m0, m1, hk2, fn, tmps, assign, body, hyy, hR⟩)
    first | simp only [sqa, sqc, sqb] | (refine hK _ _ ?_; clear hK K; simp only [sqa, sqc, sqb])
    refine wpAnyIn_take (i := 7) (v := ?_) rfl rfl (by kernel_rfl) (by kernel_rfl) (by kernel_rfl) (fun _ _ _ h => h) ⟨Or.inl ⟨by rfl, (by intro w; go_simp; try with_reducible rfl)⟩, fun _ => rfl⟩ ?_; simp only [Act.put, sqa, sqc, sqb, List.getElem_toArray, List.getElem_cons_zero, List.getElem_cons_succ]; refine wpAnyIn_take (i := 8) (v := ?_) rfl rfl (by kernel_rfl) (by kernel_rfl) (by kernel_rfl) (fun _ _ _ h => h) ⟨Or.inl ⟨by rfl, (by intro w; go_simp; try with_reducible rfl)⟩, fun _ => rfl⟩ ?_; simp only [Act.put, sqa, sqc, sqb, List.getElem_toArray, List.getElem_cons_zero, List.getElem_cons_succ]
    refine wpAnyIn_take (i := 9) (v := ?_) rfl rfl (by kernel_rfl) (by kernel_rfl) (by kernel_rfl) (fun _ _ _ h => h) ⟨Or.inl ⟨by rfl, (by intro w; go_simp; try with_reducible rfl)⟩, fun _ => rfl⟩ ?_; simp only [Act.put, sqa, sqc, sqb, List.getElem_toArray, List.getElem_cons_zero, List.getElem_cons_succ]; refine wpAnyIn_take (i := 10) (v := ?_) rfl rfl (by kernel_rfl) (by kernel_rfl) (by kernel_rfl) (fun _ _ _ h => h) ⟨Or.inl ⟨by rfl, (by intro w; go_simp; try with_reducible rfl)⟩, fun _ => rfl⟩ ?_; simp only [Act.put, sqa, sqc, sqb, List.getElem_toArray, List.getElem_cons_zero, List.getElem_cons_succ]
    refine wpAnyIn_take (i := 11) (v := ?_) rfl rfl (by kernel_rfl) (by kernel_rfl) (by kernel_rfl) (fun _ _ _ h => h) ⟨Or.inl ⟨by rfl, (by intro w; go_simp; try with_reducible rfl)⟩, fun _ => rfl⟩ ?_; simp only [Act.put, sqa, sqc, sqb, List.getElem_toArray, List.getElem_cons_zero, List.getElem_cons_succ]; refine wpAnyIn_take (i := 12) (v := ?_) rfl rfl (by kernel_rfl) (by kernel_rfl) (by kernel_rfl) (fun _ _ _ h => h) ⟨Or.inl ⟨by rfl, (by intro w; go_simp; try with_reducible rfl)⟩, fun _ => rfl⟩ ?_; simp only [Act.put, sqa, sqc, sqb, List.getElem_toArray, List.getElem_cons_zero, List.getElem_cons_succ]
    refine wpAnyIn_take (i := 14) (v := ?_) rfl rfl (by kernel_rfl) (by kernel_rfl) (by kernel_rfl) (fun _ _ _ h => h) ⟨Or.inl ⟨by rfl, (by intro w; go_simp; try with_reducible rfl)⟩, fun _ => rfl⟩ ?_; simp only [Act.put, sqa, sqc, sqb, List.getElem_toArray, List.getElem_cons_zero, List.getElem_cons_succ]; refine wpAnyIn_take (i := 15) (v := ?_) rfl rfl (by kernel_rfl) (by kernel_rfl) (by kernel_rfl) (fun _ _ _ h => h) ⟨Or.inl ⟨by rfl, (by intro w; go_simp; try with_reducible rfl)⟩, fun _ => rfl⟩ ?_; simp only [Act.put, sqa, sqc, sqb, List.getElem_toArray, List.getElem_cons_zero, List.getElem_cons_succ]
    refine wpAnyIn_take (i := 16) (v := ?_) rfl rfl (by kernel_rfl) (by kernel_rfl) (by kernel_rfl) (fun _ _ _ h => h) ⟨Or.inl ⟨by rfl, (by intro w; go_simp; try with_reducible rfl)⟩, fun _ => rfl⟩ ?_; simp only [Act.put, sqa, sqc, sqb, List.getElem_toArray, List.getElem_cons_zero, List.getElem_cons_succ]; refine wpAnyIn_ready (rs := [13, 17]) (by kernel_rfl) (by simp) (AllReadyIn.cons rfl (fun K hK => ?_) (AllReadyIn.cons rfl (fun K hK => ?_) AllReadyIn.nil))
    ·go_simp
     refine hK _ _ ?_; clear hK K; simp only [sqa, sqc, sqb]; refine wpAnyIn_ready (rs := [17]) (by kernel_rfl) (by simp) (AllReadyIn.cons rfl (fun K hK => ?_) AllReadyIn.nil); go_simp
     refine hK _ _ ?_; clear hK K; simp only [sqa, sqc, sqb]; refine wpAnyIn_ready (rs := [18]) (by kernel_rfl) (by simp) (AllReadyIn.cons rfl (fun K hK => ?_) AllReadyIn.nil); go_simp
     refine hR.mono ?_; clear hR; rintro e w3 ⟨u2, rfl, s1, s2⟩; refine hK _ _ ?_; clear hK K; simp only [sqa, sqc, sqb]; refine wpAnyIn_take (i := 19) (v := ?_) rfl rfl (by kernel_rfl) (by kernel_rfl) (by kernel_rfl) (fun _ _ _ h => h) ⟨Or.inl ⟨by rfl, (by intro w; go_simp; try with_reducible rfl)⟩, fun _ => rfl⟩ ?_; simp only [Act.put, sqa, sqc, sqb, List.getElem_toArray, List.getElem_cons_zero, List.getElem_cons_succ]; refine wpAnyIn_take (i := 20) (v := ?_) rfl rfl (by kernel_rfl) (by kernel_rfl) (by kernel_rfl) (fun _ _ _ h => h) ⟨Or.inl ⟨by rfl, (by intro w; go_simp; try with_reducible rfl)⟩, fun _ => rfl⟩ ?_; simp only [Act.put, sqa, sqc, sqb, List.getElem_toArray, List.getElem_cons_zero, List.getElem_cons_succ]
     refine wpAnyIn_done (by kernel_rfl) ?_ _; go_wp2_with fail
     go_meet
     exact ⟨u2, rfl, fun hu => ⟨(s1 hu).1, hk2.out.trans (s1 hu).2⟩, s2⟩
    ·go_simp
     refine hK _ _ ?_; clear hK K; simp only [sqa, sqc, sqb]; refine wpAnyIn_ready (rs := [13]) (by kernel_rfl) (by simp) (AllReadyIn.cons rfl (fun K hK => ?_) AllReadyIn.nil); go_simp
     refine hK _ _ ?_; clear hK K; simp only [sqa, sqc, sqb]; refine wpAnyIn_ready (rs := [18]) (by kernel_rfl) (by simp) (AllReadyIn.cons rfl (fun K hK => ?_) AllReadyIn.nil); go_simp
     refine hR.mono ?_; clear hR; rintro e w3 ⟨u2, rfl, s1, s2⟩; refine hK _ _ ?_; clear hK K; simp only [sqa, sqc, sqb]; refine wpAnyIn_take (i := 19) (v := ?_) rfl rfl (by kernel_rfl) (by kernel_rfl) (by kernel_rfl) (fun _ _ _ h => h) ⟨Or.inl ⟨by rfl, (by intro w; go_simp; try with_reducible rfl)⟩, fun _ => rfl⟩ ?_; simp only [Act.put, sqa, sqc, sqb, List.getElem_toArray, List.getElem_cons_zero, List.getElem_cons_succ]; refine wpAnyIn_take (i := 20) (v := ?_) rfl rfl (by kernel_rfl) (by kernel_rfl) (by kernel_rfl) (fun _ _ _ h => h) ⟨Or.inl ⟨by rfl, (by intro w; go_simp; try with_reducible rfl)⟩, fun _ => rfl⟩ ?_; simp only [Act.put, sqa, sqc, sqb, List.getElem_toArray, List.getElem_cons_zero, List.getElem_cons_succ]
     refine wpAnyIn_done (by kernel_rfl) ?_ _; go_wp2_with fail
     go_meet
     exact ⟨u2, rfl, fun hu => ⟨(s1 hu).1, hk2.out.trans (s1 hu).2⟩, s2⟩
   case rest =>
    obtain ⟨u2, rfl, s1, s2⟩ := hcut; cases u2 with
    | false =>
     have HX := hid (s2 rfl); clear s1 s2; go_wp2_with fail
     go_ret
     exact ⟨false, rfl, fun e => (by cases e), fun _ => ⟨y1 ++ [y], List.prefix_append _ _, by rw [← List.append_assoc]; exact HX.out⟩⟩
    | true =>
     obtain ⟨hJ3, k3⟩ := s1 rfl; clear s1 s2 UY c0 c1 n0 n1; have bx3 := box_kp k3 bx2; have ho3 := k3.2 b _ _ _ (.inl rfl) ho2; have k03 := k02.trans k3; clear bx2 ho2 k02 k3 hJ2; have d0 : wc.cell? ⟨B, 0, none⟩ = some (.string lo) := cob bx3 rfl; have d1 : wc.cell? ⟨B, 1, none⟩ = some (.string hi) := cob bx3 rfl; have e0 : wc.cell? ⟨b, 0, none⟩ = some (.string k) := cob ho3 rfl; have e2 : wc.cell? ⟨b, 3, none⟩ = some (.pointer tr.pt) := cob ho3 rfl; clear bx3 ho3; go_wp2_with fail
     go_region_with (first
      | (go_at_call 232; refine (UN.out _ ?_).mono ?_; (simp [e0]); rintro e w1 ⟨rfl, hb1⟩; have d0' := cell_later hb1 d0; have d1' := cell_later hb1 d1; have e2' := cell_later hb1 e2)
      | (go_at_call 183; refine (IR.out _ (k03.trans (Kp.of_below (Below.on (Below.drew (Below.refl _ _)) hb1))) (HH.out.later _ _ _ hJ3 (Below.on (Below.drew (Below.refl _ _)) hb1))).mono ?_; rintro e w2 ⟨u3, rfl, t1, t2⟩))
     all_goals (try go_wp2_with fail)
     all_goals go_ret
     all_goals exact ⟨u3, rfl, fun hu => ⟨by rw [List.append_assoc, List.append_assoc] at t1; simpa [List.append_assoc] using (t1 hu).1, (k03.trans (Kp.of_below (Below.on (Below.drew (Below.refl _ _)) hb1))).trans (t1 hu).2⟩, fun hu => by obtain ⟨q, hq, hx⟩ := t2 hu; exact ⟨y1 ++ [y] ++ q, (List.prefix_append_right_inj _).2 hq, by simpa [List.append_assoc] using hx⟩⟩
attribute [local go_sem] Oper.semAt_some
set_option maxRecDepth 100000 in
theorem up_tf {α : Type} {f : α → En} {l N : Nat} {J Jx : List α → World → Prop} (H : Loops f l N J Jx) {b : Nat} {k lo hi : ByteArray} {v : Hd} {tl tr : Tr} {pre y1 : List α} {W : World}
  (h : TrIn (fun _ => True) W (.node b k v tl tr)) (hf : fromB lo k = true) (hu : underB hi k = false) (hJ : J pre W)
  (il : ∀ W', Kp W W' → J pre W' → Calls Tryz.prog 183 #[.pointer tl.pt, .agg #[.string lo, .string hi], .func (.yield l) #[] #[]] W' (Ran J Jx (pre) y1 W')) :
  Calls Tryz.prog 183 #[.pointer (some ⟨b, 0, none⟩), .agg #[.string lo, .string hi], .func (.yield l) #[] #[]] W (Ran J Jx pre (y1) W) := by
 obtain ⟨⟨-, ho⟩, h0, h1, h2, h3, h4, hl, hr⟩ := h; clear h0 h1 h2 h3 h4 hl hr; have bx := box_new W lo hi; have k1 : Kp W (W.alloc (.cells #[.string lo, .string hi] 126)) := Kp.of_below (Below.al (Below.refl _ _) _); have ho1 := k1.2 b _ _ _ (.inl rfl) ho; have hJ1 := H.later _ _ _ hJ (Below.al (Below.refl _ W) (.cells #[.string lo, .string hi] 126)); have FR : Hid (∀ W', W'.cell? ⟨b, 0, none⟩ = some (.string k) → Calls Tryz.prog 231 #[.pointer (some ⟨b, 0, none⟩), .agg #[.string lo, .string hi]] W' fun e w' => e = .returned (.bool true) ∧ Below W'.heap.size W' w') := fun W' h => from_is hf h
 have UN : Hid (∀ W', W'.cell? ⟨b, 0, none⟩ = some (.string k) → Calls Tryz.prog 232 #[.pointer (some ⟨b, 0, none⟩), .agg #[.string lo, .string hi]] W' fun e w' => e = .returned (.bool false) ∧ Below W'.heap.size W' w') := fun W' h => under_is hu h
 have IL := hid il; have HH := hid H; clear il H hf hu; obtain ⟨W0, hW0⟩ : ∃ W0, W0 = W.alloc (.cells #[.string lo, .string hi] 126) := ⟨_, rfl⟩; obtain ⟨B, hB⟩ : ∃ B, B = W.heap.size := ⟨_, rfl⟩; go_enter Tryz.func183, Tryz.ntmps183
 go_wp2_with fail
 rw [← hW0] at bx k1 ho1 hJ1 ⊢; rw [← hB] at bx ⊢; have c0 : W0.cell? ⟨B, 0, none⟩ = some (.string lo) := cob bx rfl; have c1 : W0.cell? ⟨B, 1, none⟩ = some (.string hi) := cob bx rfl; have n0 : W0.cell? ⟨b, 0, none⟩ = some (.string k) := cob ho1 rfl; have n2 : W0.cell? ⟨b, 2, none⟩ = some (.pointer tl.pt) := cob ho1 rfl; clear hW0 hB ho hJ; go_cut [21] (fun s21 wx => ∃ u1 : Bool, s21 = .bool (!u1) ∧ (u1 = true → J (pre ++ y1) wx ∧ Kp W0 wx) ∧ (u1 = false → ∃ q, q <+: y1 ∧ Jx (pre ++ q) wx))
 case first =>
  go_region_with (first
   | (go_at_call 231; refine (FR.out _ ?_).mono ?_; (simp [n0]); rintro e w1 ⟨rfl, hb1⟩; have c0' := cell_later hb1 c0; have c1' := cell_later hb1 c1; have n2' := cell_later hb1 n2)
   | (go_at_call 183; refine (IL.out _ (k1.trans (Kp.of_below (Below.on (Below.drew (Below.refl _ _)) hb1))) (HH.out.later _ _ _ hJ1 (Below.on (Below.drew (Below.refl _ _)) hb1))).mono ?_; rintro e w2 ⟨u1, rfl, t1, t2⟩))
  all_goals (try go_wp2_with fail)
  all_goals go_meet
  all_goals exact ⟨u1, rfl, fun hu => ⟨(t1 hu).1, (Kp.of_below (Below.on (Below.drew (Below.refl _ _)) hb1)).trans (t1 hu).2⟩, t2⟩
 case rest =>
  obtain ⟨u1, rfl, t1, t2⟩ := hcut; cases u1 with
  | false =>
   obtain ⟨q, hq, hx⟩ := t2 rfl; have HX := hid hx; have HQ := hid hq; clear t1 t2 hx hq; go_wp2_with fail
   go_ret
   exact ⟨false, rfl, fun e => (by cases e), fun _ => ⟨q, HQ.out, HX.out⟩⟩
  | true =>
   obtain ⟨hJ2, k2⟩ := t1 rfl; clear t1 t2; have bx2 := box_kp k2 bx; have ho2 := k2.2 b _ _ _ (.inl rfl) ho1; have k02 := k1.trans k2; clear bx ho1 k1 k2 hJ1 c0 c1 n0 n2; have c0 : wc.cell? ⟨B, 0, none⟩ = some (.string lo) := cob bx2 rfl; have c1 : wc.cell? ⟨B, 1, none⟩ = some (.string hi) := cob bx2 rfl; have n0 : wc.cell? ⟨b, 0, none⟩ = some (.string k) := cob ho2 rfl; go_wp2_with fail
   go_cut [42] (fun s42 wx => s42 = .bool false ∧ J (pre ++ y1) wx ∧ Kp wc wx)
   case first =>
    have kc0 := cell_regrown c0; have kc1 := cell_regrown c1; have kn0 := cell_regrown n0
    refine wp_region_quiet_below (by kernel_rfl) (by kernel_rfl) ?_; repeat (go_big_quiet_step (first | (go_at_call 231; exact Calls.regrown_of (FR.out _ (cell_later (below_regrown _ _ _) n0))) | (go_at_call 232; exact Calls.regrown_of (UN.out _ (cell_later (below_regrown _ _ _) n0)))))
    refine wpQuiet_nil ?_; intro w1 hw; have hb1 := bor hw; go_wp2_with fail
    go_meet
    exact ⟨rfl, HH.out.later _ _ _ hJ2 hb1, Kp.of_below hb1⟩
   case rest =>
     obtain ⟨rfl, hJ3, k3⟩ := hcut; clear c0 c1 n0; have bx3 := box_kp k3 bx2; have ho3 := k3.2 b _ _ _ (.inl rfl) ho2; have k03 := k02.trans k3; clear bx2 ho2 k02 k3 hJ2; have d0 : wc.cell? ⟨B, 0, none⟩ = some (.string lo) := cob bx3 rfl; have d1 : wc.cell? ⟨B, 1, none⟩ = some (.string hi) := cob bx3 rfl; have e0 : wc.cell? ⟨b, 0, none⟩ = some (.string k) := cob ho3 rfl; have e2 : wc.cell? ⟨b, 3, none⟩ = some (.pointer tr.pt) := cob ho3 rfl; clear bx3 ho3; go_wp2_with fail
     have kc0 := cell_regrown d0; have kc1 := cell_regrown d1; have kn0 := cell_regrown e0
     refine wp_region_quiet_below (by kernel_rfl) (by kernel_rfl) ?_; repeat (go_big_quiet_step ((go_at_call 232; exact Calls.regrown_of (UN.out _ (cell_later (below_regrown _ _ _) e0)))))
     refine wpQuiet_nil ?_; intro w1 hw; have hb1 := bor hw; go_wp2_with fail
     go_ret
     exact ⟨true, rfl, fun _ => ⟨HH.out.later _ _ _ hJ3 hb1, k03.trans (Kp.of_below hb1)⟩, fun e => (by cases e)⟩
set_option maxRecDepth 100000 in
theorem up_ft {α : Type} {f : α → En} {l N : Nat} {J Jx : List α → World → Prop} (H : Loops f l N J Jx) {b : Nat} {k lo hi : ByteArray} {v : Hd} {tl tr : Tr} {pre y3 : List α} {W : World}
  (h : TrIn (fun _ => True) W (.node b k v tl tr)) (hf : fromB lo k = false) (hu : underB hi k = true) (hJ : J pre W)
  (ir : ∀ W', Kp W W' → J (pre) W' → Calls Tryz.prog 183 #[.pointer tr.pt, .agg #[.string lo, .string hi], .func (.yield l) #[] #[]] W' (Ran J Jx (pre) y3 W')) :
  Calls Tryz.prog 183 #[.pointer (some ⟨b, 0, none⟩), .agg #[.string lo, .string hi], .func (.yield l) #[] #[]] W (Ran J Jx pre (y3) W) := by
 obtain ⟨⟨-, ho⟩, h0, h1, h2, h3, h4, hl, hr⟩ := h; clear h0 h1 h2 h3 h4 hl hr; have bx := box_new W lo hi; have k1 : Kp W (W.alloc (.cells #[.string lo, .string hi] 126)) := Kp.of_below (Below.al (Below.refl _ _) _); have ho1 := k1.2 b _ _ _ (.inl rfl) ho; have hJ1 := H.later _ _ _ hJ (Below.al (Below.refl _ W) (.cells #[.string lo, .string hi] 126)); have FR : Hid (∀ W', W'.cell? ⟨b, 0, none⟩ = some (.string k) → Calls Tryz.prog 231 #[.pointer (some ⟨b, 0, none⟩), .agg #[.string lo, .string hi]] W' fun e w' => e = .returned (.bool false) ∧ Below W'.heap.size W' w') := fun W' h => from_is hf h
 have UN : Hid (∀ W', W'.cell? ⟨b, 0, none⟩ = some (.string k) → Calls Tryz.prog 232 #[.pointer (some ⟨b, 0, none⟩), .agg #[.string lo, .string hi]] W' fun e w' => e = .returned (.bool true) ∧ Below W'.heap.size W' w') := fun W' h => under_is hu h
 have IR := hid ir; have HH := hid H; clear ir H hf hu; obtain ⟨W0, hW0⟩ : ∃ W0, W0 = W.alloc (.cells #[.string lo, .string hi] 126) := ⟨_, rfl⟩; obtain ⟨B, hB⟩ : ∃ B, B = W.heap.size := ⟨_, rfl⟩; go_enter Tryz.func183, Tryz.ntmps183
 go_wp2_with fail
 rw [← hW0] at bx k1 ho1 hJ1 ⊢; rw [← hB] at bx ⊢; have c0 : W0.cell? ⟨B, 0, none⟩ = some (.string lo) := cob bx rfl; have c1 : W0.cell? ⟨B, 1, none⟩ = some (.string hi) := cob bx rfl; have n0 : W0.cell? ⟨b, 0, none⟩ = some (.string k) := cob ho1 rfl; have n2 : W0.cell? ⟨b, 2, none⟩ = some (.pointer tl.pt) := cob ho1 rfl; clear hW0 hB ho hJ; go_cut [21] (fun s21 wx => s21 = .bool false ∧ J pre wx ∧ Kp W0 wx)
 case first =>
  have kc0 := cell_regrown c0; have kc1 := cell_regrown c1; have kn0 := cell_regrown n0
  refine wp_region_quiet_below (by kernel_rfl) (by kernel_rfl) ?_; repeat (go_big_quiet_step ((go_at_call 231; exact Calls.regrown_of (FR.out _ (cell_later (below_regrown _ _ _) n0)))))
  refine wpQuiet_nil ?_; intro w1 hw; have hb1 := bor hw; go_wp2_with fail
  go_meet
  exact ⟨rfl, HH.out.later _ _ _ hJ1 hb1, Kp.of_below hb1⟩
 case rest =>
   obtain ⟨rfl, hJ2, k2⟩ := hcut; have bx2 := box_kp k2 bx; have ho2 := k2.2 b _ _ _ (.inl rfl) ho1; have k02 := k1.trans k2; clear bx ho1 k1 k2 hJ1 c0 c1 n0 n2; have c0 : wc.cell? ⟨B, 0, none⟩ = some (.string lo) := cob bx2 rfl; have c1 : wc.cell? ⟨B, 1, none⟩ = some (.string hi) := cob bx2 rfl; have n0 : wc.cell? ⟨b, 0, none⟩ = some (.string k) := cob ho2 rfl; go_wp2_with fail
   go_cut [42] (fun s42 wx => s42 = .bool false ∧ J (pre) wx ∧ Kp wc wx)
   case first =>
    have kc0 := cell_regrown c0; have kc1 := cell_regrown c1; have kn0 := cell_regrown n0
    refine wp_region_quiet_below (by kernel_rfl) (by kernel_rfl) ?_; repeat (go_big_quiet_step (((go_at_call 231; exact Calls.regrown_of (FR.out _ (cell_later (below_regrown _ _ _) n0))))))
    refine wpQuiet_nil ?_; intro w1 hw; have hb1 := bor hw; go_wp2_with fail
    go_meet
    exact ⟨rfl, HH.out.later _ _ _ hJ2 hb1, Kp.of_below hb1⟩
   case rest =>
     obtain ⟨rfl, hJ3, k3⟩ := hcut; clear c0 c1 n0; have bx3 := box_kp k3 bx2; have ho3 := k3.2 b _ _ _ (.inl rfl) ho2; have k03 := k02.trans k3; clear bx2 ho2 k02 k3 hJ2; have d0 : wc.cell? ⟨B, 0, none⟩ = some (.string lo) := cob bx3 rfl; have d1 : wc.cell? ⟨B, 1, none⟩ = some (.string hi) := cob bx3 rfl; have e0 : wc.cell? ⟨b, 0, none⟩ = some (.string k) := cob ho3 rfl; have e2 : wc.cell? ⟨b, 3, none⟩ = some (.pointer tr.pt) := cob ho3 rfl; clear bx3 ho3; go_wp2_with fail
     go_region_with (first
      | (go_at_call 232; refine (UN.out _ ?_).mono ?_; (simp [e0]); rintro e w1 ⟨rfl, hb1⟩; have d0' := cell_later hb1 d0; have d1' := cell_later hb1 d1; have e2' := cell_later hb1 e2)
      | (go_at_call 183; refine (IR.out _ (k03.trans (Kp.of_below (Below.on (Below.drew (Below.refl _ _)) hb1))) (HH.out.later _ _ _ hJ3 (Below.on (Below.drew (Below.refl _ _)) hb1))).mono ?_; rintro e w2 ⟨u3, rfl, t1, t2⟩))
     all_goals (try go_wp2_with fail)
     all_goals go_ret
     all_goals exact ⟨u3, rfl, fun hu => ⟨(t1 hu).1, (k03.trans (Kp.of_below (Below.on (Below.drew (Below.refl _ _)) hb1))).trans (t1 hu).2⟩, fun hu => by obtain ⟨q, hq, hx⟩ := t2 hu; exact ⟨q, hq, hx⟩⟩
set_option maxRecDepth 100000 in
theorem up_ff {α : Type} {f : α → En} {l N : Nat} {J Jx : List α → World → Prop} (H : Loops f l N J Jx) {b : Nat} {k lo hi : ByteArray} {v : Hd} {tl tr : Tr} {pre : List α} {W : World}
  (h : TrIn (fun _ => True) W (.node b k v tl tr)) (hf : fromB lo k = false) (hu : underB hi k = false) (hJ : J pre W) :
  Calls Tryz.prog 183 #[.pointer (some ⟨b, 0, none⟩), .agg #[.string lo, .string hi], .func (.yield l) #[] #[]] W (Ran J Jx pre ([]) W) := by
 obtain ⟨⟨-, ho⟩, h0, h1, h2, h3, h4, hl, hr⟩ := h; clear h0 h1 h2 h3 h4 hl hr; have bx := box_new W lo hi; have k1 : Kp W (W.alloc (.cells #[.string lo, .string hi] 126)) := Kp.of_below (Below.al (Below.refl _ _) _); have ho1 := k1.2 b _ _ _ (.inl rfl) ho; have hJ1 := H.later _ _ _ hJ (Below.al (Below.refl _ W) (.cells #[.string lo, .string hi] 126)); have FR : Hid (∀ W', W'.cell? ⟨b, 0, none⟩ = some (.string k) → Calls Tryz.prog 231 #[.pointer (some ⟨b, 0, none⟩), .agg #[.string lo, .string hi]] W' fun e w' => e = .returned (.bool false) ∧ Below W'.heap.size W' w') := fun W' h => from_is hf h
 have UN : Hid (∀ W', W'.cell? ⟨b, 0, none⟩ = some (.string k) → Calls Tryz.prog 232 #[.pointer (some ⟨b, 0, none⟩), .agg #[.string lo, .string hi]] W' fun e w' => e = .returned (.bool false) ∧ Below W'.heap.size W' w') := fun W' h => under_is hu h
 have HH := hid H; clear H hf hu; obtain ⟨W0, hW0⟩ : ∃ W0, W0 = W.alloc (.cells #[.string lo, .string hi] 126) := ⟨_, rfl⟩; obtain ⟨B, hB⟩ : ∃ B, B = W.heap.size := ⟨_, rfl⟩; go_enter Tryz.func183, Tryz.ntmps183
 go_wp2_with fail
 rw [← hW0] at bx k1 ho1 hJ1 ⊢; rw [← hB] at bx ⊢; have c0 : W0.cell? ⟨B, 0, none⟩ = some (.string lo) := cob bx rfl; have c1 : W0.cell? ⟨B, 1, none⟩ = some (.string hi) := cob bx rfl; have n0 : W0.cell? ⟨b, 0, none⟩ = some (.string k) := cob ho1 rfl; have n2 : W0.cell? ⟨b, 2, none⟩ = some (.pointer tl.pt) := cob ho1 rfl; clear hW0 hB ho hJ; go_cut [21] (fun s21 wx => s21 = .bool false ∧ J pre wx ∧ Kp W0 wx)
 case first =>
  have kc0 := cell_regrown c0; have kc1 := cell_regrown c1; have kn0 := cell_regrown n0
  refine wp_region_quiet_below (by kernel_rfl) (by kernel_rfl) ?_; repeat (go_big_quiet_step ((go_at_call 231; exact Calls.regrown_of (FR.out _ (cell_later (below_regrown _ _ _) n0)))))
  refine wpQuiet_nil ?_; intro w1 hw; have hb1 := bor hw; go_wp2_with fail
  go_meet
  exact ⟨rfl, HH.out.later _ _ _ hJ1 hb1, Kp.of_below hb1⟩
 case rest =>
   obtain ⟨rfl, hJ2, k2⟩ := hcut; have bx2 := box_kp k2 bx; have ho2 := k2.2 b _ _ _ (.inl rfl) ho1; have k02 := k1.trans k2; clear bx ho1 k1 k2 hJ1 c0 c1 n0 n2; have c0 : wc.cell? ⟨B, 0, none⟩ = some (.string lo) := cob bx2 rfl; have c1 : wc.cell? ⟨B, 1, none⟩ = some (.string hi) := cob bx2 rfl; have n0 : wc.cell? ⟨b, 0, none⟩ = some (.string k) := cob ho2 rfl; go_wp2_with fail
   go_cut [42] (fun s42 wx => s42 = .bool false ∧ J (pre) wx ∧ Kp wc wx)
   case first =>
    have kc0 := cell_regrown c0; have kc1 := cell_regrown c1; have kn0 := cell_regrown n0
    refine wp_region_quiet_below (by kernel_rfl) (by kernel_rfl) ?_; repeat (go_big_quiet_step (((go_at_call 231; exact Calls.regrown_of (FR.out _ (cell_later (below_regrown _ _ _) n0))))))
    refine wpQuiet_nil ?_; intro w1 hw; have hb1 := bor hw; go_wp2_with fail
    go_meet
    exact ⟨rfl, HH.out.later _ _ _ hJ2 hb1, Kp.of_below hb1⟩
   case rest =>
     obtain ⟨rfl, hJ3, k3⟩ := hcut; clear c0 c1 n0; have bx3 := box_kp k3 bx2; have ho3 := k3.2 b _ _ _ (.inl rfl) ho2; have k03 := k02.trans k3; clear bx2 ho2 k02 k3 hJ2; have d0 : wc.cell? ⟨B, 0, none⟩ = some (.string lo) := cob bx3 rfl; have d1 : wc.cell? ⟨B, 1, none⟩ = some (.string hi) := cob bx3 rfl; have e0 : wc.cell? ⟨b, 0, none⟩ = some (.string k) := cob ho3 rfl; have e2 : wc.cell? ⟨b, 3, none⟩ = some (.pointer tr.pt) := cob ho3 rfl; clear bx3 ho3; go_wp2_with fail
     have kc0 := cell_regrown d0; have kc1 := cell_regrown d1; have kn0 := cell_regrown e0
     refine wp_region_quiet_below (by kernel_rfl) (by kernel_rfl) ?_; repeat (go_big_quiet_step ((go_at_call 232; exact Calls.regrown_of (UN.out _ (cell_later (below_regrown _ _ _) e0)))))
     refine wpQuiet_nil ?_; intro w1 hw; have hb1 := bor hw; go_wp2_with fail
     go_ret
     exact ⟨true, rfl, fun _ => ⟨by simpa using HH.out.later _ _ _ hJ3 hb1, k03.trans (Kp.of_below hb1)⟩, fun e => (by cases e)⟩
end Go.Proofs.YtofpaldolcnmiaaGreat.Vs
