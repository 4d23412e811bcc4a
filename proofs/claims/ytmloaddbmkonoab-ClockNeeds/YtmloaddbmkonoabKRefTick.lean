import Derived.Test.YtmloaddbmkonoabKRefNeed
import Derived.Test.YtmloaddbmkonoabKTick
namespace Go.Proofs.Ytmloaddbmkonoab
open Go.RowKit Go.Sort
set_option linter.unusedVariables false

theorem putS_only (w : World) (q : Nat) (a b c : Int) : Only q w (putStamp w q a b c) := (((Only.refl _ _).set 0 _).set 1 _).set 2 _

set_option maxHeartbeats 4000000 in
theorem rtick_f (B n : Nat) (x : Rd) (r lw ll ln : Int) (w : World) (H : Hid (RefAt w B x)) (hB : B ≤ w.heap.size) (hlen : (x.ss.length + 1) * 16 ≤ 140737488355328) (HM : Hid (maxSt zst x.ss = ⟨lw, ll, ln⟩)) (HN : Hid (x.rs.length = n + 1)) (hn : n + 1 ≤ 9223372036854775807) (HRD : Hid (x.rs.getD n 0 = r))
    (hlt : decide (r ≤ lw) = false) (htop : (r == 18446744073709551615) = false) :
    Calls Try.prog 14 #[.pointer (some ⟨x.d, 0, none⟩)] w fun e w' => e = .returned (.tuple #[stv r 0 x.node, .int .i64 0]) ∧ Onl x.has w w' ∧ ∃ g k, (g = x.g3 ∨ w.heap.size ≤ g) ∧ RefAt w' B { x with g3 := g, k3 := k, ss := x.ss ++ [⟨r, 0, x.node⟩] } := by
  obtain ⟨i0, hi, hz0, hz1, hz2⟩ := info_parts Try.infoSt
  have hd := H.out.lt
  have hl : Hid (x.ss.length ≤ 9223372036854775807) := hid (show _ ≤ _ by omega)
  go_enter Try.func14, Try.ntmps14
  go_wp2_with (first
    | (go_at_call 18; refine (rlast_is HM.out _ (H.out.later (w3c_below w 0 0 0)) hl.out).mono ?_; rintro e w1 ⟨rfl, hb1⟩))
  obtain ⟨wb, hwb⟩ : ∃ wb, wb = w3c w1 lw ll ln := ⟨_, rfl⟩
  have bb : Below (w3c w 0 0 0).heap.size (w3c w 0 0 0) wb := by rw [hwb]; exact Below.on hb1 (w3c_below _ _ _ _)
  have T := w3c_at w1 lw ll ln
  rw [← hwb] at T
  show Code.wp _ _ _ _ (w3c w1 lw ll ln)
  rw [← hwb]
  have Hb := (H.out.later (w3c_below w 0 0 0)).later bb
  have Z := (w3c_at w 0 0 0).later bb
  have ZL : Loose wb w.heap.size := (w3c_loose w 0 0 0).later bb (w3c_size w 0 0 0)
  have ⟨t0, t1, t2⟩ := T
  have ⟨z0, z1, z2⟩ := Z
  have zf : ∀ o, wb.frozen? ⟨w.heap.size, o, none⟩ = false := ZL
  have c0 := Hb.c0
  have c2 := Hb.c2
  have e2 := Hb.reading (i := n) (by have := HN.out; omega)
  rw [HRD.out] at e2
  rw [HN.out] at c2
  have ht := T.lt
  have hz := Z.lt
  have hdb := Hb.lt
  have HT := hid T
  have HZ := hid Z
  have HHb := hid Hb
  have Hwb := hid (Below.on (w3c_below w 0 0 0) bb)
  clear hwb T Hb bb hb1 Z
  go_region
  all_goals go_wp2_with fail
  obtain ⟨wa, hwa⟩ : ∃ wa, wa = (w3c wb r 0 x.node).drew := ⟨_, rfl⟩
  have ba : Below wb.heap.size wb wa := by rw [hwa]; exact Below.drew (w3c_below _ _ _ _)
  have A : StampAt wa wb.heap.size r 0 x.node := by rw [hwa]; exact (w3c_at wb r 0 x.node).later (Below.drew (Below.refl _ _))
  show Code.wp _ _ _ _ (w3c wb r 0 x.node).drew
  rw [← hwa]
  clear hwa t0 t1 t2 c0 c2 e2
  have ⟨s0, s1, s2⟩ := A
  have Ha := HHb.out.later ba
  have c3 := Ha.c3
  have hne := Ha.d3
  have hda : x.d < wa.heap.size := Ha.lt
  have HHa := hid Ha
  have HA := hid A
  have HZa := hid (HZ.out.later ba)
  have HLa := hid (Loose.later ZL ba hz)
  have hqa : wb.heap.size < wa.heap.size := A.lt
  have Hwa := hid (Below.on Hwb.out ba)
  have HB := hid (show B ≤ (w3c wa r 0 x.node).drew.heap.size from Nat.le_trans (Nat.le_trans hB Hwa.out.size) (w3c_below wa r 0 x.node).size)
  have Hbb := hid (show Below wa.heap.size wa (w3c wa r 0 x.node).drew from Below.drew (w3c_below wa r 0 x.node))
  have Hown := hid (Ha.later Hbb.out).r3
  have n1 : Hid (∀ j u, (St.cs ⟨r, 0, x.node⟩)[j]? = some u → (w3c wa r 0 x.node).drew.cell? (Addr.add ⟨wa.heap.size, 0, none⟩ j) = some u) := by
    show ∀ j u, _
    intro j u hj
    match j, hj with
    | 0, hj => simp [St.cs] at hj; subst hj; simp [go_sem, Addr.add]
    | 1, hj => simp [St.cs] at hj; subst hj; simp [go_sem, Addr.add]
    | 2, hj => simp [St.cs] at hj; subst hj; simp [go_sem, Addr.add]
  have n2 : Hid (∀ u ∈ St.cs ⟨r, 0, x.node⟩, u.oneCell' = true) := fun u hu => by simp [St.cs] at hu; rcases hu with rfl | rfl | rfl <;> rfl
  have n3 : Hid (x.ss.length + 1 ≤ maxLen) := by show _ ≤ _; unfold maxLen; omega
  have n4 := hid hlen
  clear A Ha hlen ba z0 z1 z2 zf ZL HZ
  go_cut [] (fun wx => Onl x.has wa wx ∧ ∃ g k, (g = x.g3 ∨ wa.heap.size ≤ g) ∧ RefAt wx B { x with g3 := g, k3 := k, ss := x.ss ++ [⟨r, 0, x.node⟩] })
  case first =>
    go_region_law ((refine step_append_lies _ (by rfl) _ _ 56 (by rfl) B 33 i0 (stv 0 0 0) 3 16 Try.underlying56 hi hz0 hz1 hz2 rfl (by decide) (.slice (some ⟨x.g3, 0, none⟩) x.ss.length x.k3) x.ss.length (flat x.ss) (by simp [Act.eval]) Hown.out ⟨wa.heap.size, 0, none⟩ 1 1 (St.cs ⟨r, 0, x.node⟩) (by simp [Act.eval]) rfl n1.out n2.out (by decide) n3.out n4.out HB.out (w3c wa r 0 x.node).drew.heap.size rfl ?_; intro g cap w2 hown hgrow hat hlt2; have o1 := grown_onl hgrow; have k3 := o1.cell hne (HHa.out.later Hbb.out).c3; have kf : ∀ o, w2.frozen? ⟨x.d, o, none⟩ = false := o1.loose hne (HHa.out.later Hbb.out).lt (HHa.out.later Hbb.out).loose; have HR := hid (HHa.out.app3 (v := ⟨r, 0, x.node⟩) Hbb.out hgrow hown hat); clear hown hgrow hat hlt2 o1))
    all_goals (try go_wp2_with fail)
    all_goals go_meet
    all_goals exact ⟨HR.out.2.1, g, cap, HR.out.2.2, HR.out.1⟩
  case rest =>
    obtain ⟨r1, g, k, r2, r3⟩ := hcut
    have nh : ∀ i, x.has i → i < w.heap.size := fun i h => (H.out.has_lt i h).2
    have hwbs : w.heap.size ≤ wb.heap.size := Hwb.out.size
    have fN : ¬ x.has w.heap.size := fun h => by have := nh _ h; omega
    have fS : ¬ x.has wb.heap.size := fun h => by have := nh _ h; omega
    have s0 := r1.cell fS HA.out.1
    have s1 := r1.cell fS HA.out.2.1
    have s2 := r1.cell fS HA.out.2.2
    have z0 := r1.cell fN HZa.out.1
    have z1 := r1.cell fN HZa.out.2.1
    have z2 := r1.cell fN HZa.out.2.2
    have zf : ∀ o, wc.frozen? ⟨w.heap.size, o, none⟩ = false := r1.loose fN HZa.out.lt HLa.out
    have hne2 : w.heap.size ≠ wb.heap.size := by omega
    have HR1 := hid r1
    have HR2 := hid r2
    have HR3 := hid r3
    clear r1 r2 r3 c3 nh fN fS
    go_wp2_with fail
    refine bodyPost_ret (v := .tuple #[stv r 0 x.node, .int .i64 0]) (by simp [results, Try.results14, go_sem, z0, z1, z2]) rfl ⟨rfl, ?_, g, k, ?_, ?_⟩
    · exact Onl.fresh (Onl.fresh (Onl.of_below Hwa.out) HR1.out (fun i h => .inl h)) (Onl.of_only (F := fun i => i = w.heap.size) (putS_only wc w.heap.size r 0 x.node) rfl) (fun i h => .inr (Nat.le_of_eq h.symm))
    · rcases HR2.out with h | h
      · exact .inl h
      · exact .inr (Nat.le_trans Hwa.out.size h)
    · refine HR3.out.keep (Onl.of_only (F := fun i => i = w.heap.size) (putS_only wc w.heap.size r 0 x.node) rfl) ?_
      rintro i (h | h | h | h) e
      · have := (H.out.has_lt x.d (.inl rfl)).2; dsimp only at h; omega
      · have := (H.out.has_lt x.g2 (.inr (.inl rfl))).2; dsimp only at h; omega
      · have h3 := (H.out.has_lt x.g3 (.inr (.inr (.inl rfl)))).2
        have h4 := HZa.out.lt
        have h5 := HR2.out
        dsimp only at h; omega
      · have := (H.out.has_lt x.g4 (.inr (.inr (.inr rfl)))).2; dsimp only at h; omega

set_option maxHeartbeats 4000000 in
theorem rtick_b (B n : Nat) (x : Rd) (r lw ll ln : Int) (w : World) (H : Hid (RefAt w B x)) (hB : B ≤ w.heap.size) (hlen : (x.ss.length + 1) * 16 ≤ 140737488355328) (HM : Hid (maxSt zst x.ss = ⟨lw, ll, ln⟩)) (HN : Hid (x.rs.length = n + 1)) (hn : n + 1 ≤ 9223372036854775807) (HRD : Hid (x.rs.getD n 0 = r))
    (hlt : r ≤ lw) (htop : (lw == 18446744073709551615) = false) (hll : (ll == 4294967295) = false) (h0 : 0 ≤ ll) (h1 : ll ≤ 4294967294) :
    Calls Try.prog 14 #[.pointer (some ⟨x.d, 0, none⟩)] w fun e w' => e = .returned (.tuple #[stv lw (ll + 1) x.node, .int .i64 0]) ∧ Onl x.has w w' ∧ ∃ g k, (g = x.g3 ∨ w.heap.size ≤ g) ∧ RefAt w' B { x with g3 := g, k3 := k, ss := x.ss ++ [⟨lw, (ll + 1), x.node⟩] } := by
  obtain ⟨i0, hi, hz0, hz1, hz2⟩ := info_parts Try.infoSt
  have hd := H.out.lt
  have hl : Hid (x.ss.length ≤ 9223372036854775807) := hid (show _ ≤ _ by omega)
  go_enter Try.func14, Try.ntmps14
  go_wp2_with (first
    | (go_at_call 18; refine (rlast_is HM.out _ (H.out.later (w3c_below w 0 0 0)) hl.out).mono ?_; rintro e w1 ⟨rfl, hb1⟩))
  obtain ⟨wb, hwb⟩ : ∃ wb, wb = w3c w1 lw ll ln := ⟨_, rfl⟩
  have bb : Below (w3c w 0 0 0).heap.size (w3c w 0 0 0) wb := by rw [hwb]; exact Below.on hb1 (w3c_below _ _ _ _)
  have T := w3c_at w1 lw ll ln
  rw [← hwb] at T
  show Code.wp _ _ _ _ (w3c w1 lw ll ln)
  rw [← hwb]
  have Hb := (H.out.later (w3c_below w 0 0 0)).later bb
  have Z := (w3c_at w 0 0 0).later bb
  have ZL : Loose wb w.heap.size := (w3c_loose w 0 0 0).later bb (w3c_size w 0 0 0)
  have ⟨t0, t1, t2⟩ := T
  have ⟨z0, z1, z2⟩ := Z
  have zf : ∀ o, wb.frozen? ⟨w.heap.size, o, none⟩ = false := ZL
  have c0 := Hb.c0
  have c2 := Hb.c2
  have e2 := Hb.reading (i := n) (by have := HN.out; omega)
  rw [HRD.out] at e2
  rw [HN.out] at c2
  have ht := T.lt
  have hz := Z.lt
  have hdb := Hb.lt
  have HT := hid T
  have HZ := hid Z
  have HHb := hid Hb
  have Hwb := hid (Below.on (w3c_below w 0 0 0) bb)
  clear hwb T Hb bb hb1 Z
  go_region
  all_goals go_wp2_with fail
  obtain ⟨wa, hwa⟩ : ∃ wa, wa = (w3c wb lw (ll + 1) x.node).drew := ⟨_, rfl⟩
  have ba : Below wb.heap.size wb wa := by rw [hwa]; exact Below.drew (w3c_below _ _ _ _)
  have A : StampAt wa wb.heap.size lw (ll + 1) x.node := by rw [hwa]; exact (w3c_at wb lw (ll + 1) x.node).later (Below.drew (Below.refl _ _))
  show Code.wp _ _ _ _ (w3c wb lw (ll + 1) x.node).drew
  rw [← hwa]
  clear hwa t0 t1 t2 c0 c2 e2
  have ⟨s0, s1, s2⟩ := A
  have Ha := HHb.out.later ba
  have c3 := Ha.c3
  have hne := Ha.d3
  have hda : x.d < wa.heap.size := Ha.lt
  have HHa := hid Ha
  have HA := hid A
  have HZa := hid (HZ.out.later ba)
  have HLa := hid (Loose.later ZL ba hz)
  have hqa : wb.heap.size < wa.heap.size := A.lt
  have Hwa := hid (Below.on Hwb.out ba)
  have HB := hid (show B ≤ (w3c wa lw (ll + 1) x.node).drew.heap.size from Nat.le_trans (Nat.le_trans hB Hwa.out.size) (w3c_below wa lw (ll + 1) x.node).size)
  have Hbb := hid (show Below wa.heap.size wa (w3c wa lw (ll + 1) x.node).drew from Below.drew (w3c_below wa lw (ll + 1) x.node))
  have Hown := hid (Ha.later Hbb.out).r3
  have n1 : Hid (∀ j u, (St.cs ⟨lw, (ll + 1), x.node⟩)[j]? = some u → (w3c wa lw (ll + 1) x.node).drew.cell? (Addr.add ⟨wa.heap.size, 0, none⟩ j) = some u) := by
    show ∀ j u, _
    intro j u hj
    match j, hj with
    | 0, hj => simp [St.cs] at hj; subst hj; simp [go_sem, Addr.add]
    | 1, hj => simp [St.cs] at hj; subst hj; simp [go_sem, Addr.add]
    | 2, hj => simp [St.cs] at hj; subst hj; simp [go_sem, Addr.add]
  have n2 : Hid (∀ u ∈ St.cs ⟨lw, (ll + 1), x.node⟩, u.oneCell' = true) := fun u hu => by simp [St.cs] at hu; rcases hu with rfl | rfl | rfl <;> rfl
  have n3 : Hid (x.ss.length + 1 ≤ maxLen) := by show _ ≤ _; unfold maxLen; omega
  have n4 := hid hlen
  clear A Ha hlen ba z0 z1 z2 zf ZL HZ
  go_cut [] (fun wx => Onl x.has wa wx ∧ ∃ g k, (g = x.g3 ∨ wa.heap.size ≤ g) ∧ RefAt wx B { x with g3 := g, k3 := k, ss := x.ss ++ [⟨lw, (ll + 1), x.node⟩] })
  case first =>
    go_region_law ((refine step_append_lies _ (by rfl) _ _ 56 (by rfl) B 33 i0 (stv 0 0 0) 3 16 Try.underlying56 hi hz0 hz1 hz2 rfl (by decide) (.slice (some ⟨x.g3, 0, none⟩) x.ss.length x.k3) x.ss.length (flat x.ss) (by simp [Act.eval]) Hown.out ⟨wa.heap.size, 0, none⟩ 1 1 (St.cs ⟨lw, (ll + 1), x.node⟩) (by simp [Act.eval]) rfl n1.out n2.out (by decide) n3.out n4.out HB.out (w3c wa lw (ll + 1) x.node).drew.heap.size rfl ?_; intro g cap w2 hown hgrow hat hlt2; have o1 := grown_onl hgrow; have k3 := o1.cell hne (HHa.out.later Hbb.out).c3; have kf : ∀ o, w2.frozen? ⟨x.d, o, none⟩ = false := o1.loose hne (HHa.out.later Hbb.out).lt (HHa.out.later Hbb.out).loose; have HR := hid (HHa.out.app3 (v := ⟨lw, (ll + 1), x.node⟩) Hbb.out hgrow hown hat); clear hown hgrow hat hlt2 o1))
    all_goals (try go_wp2_with fail)
    all_goals go_meet
    all_goals exact ⟨HR.out.2.1, g, cap, HR.out.2.2, HR.out.1⟩
  case rest =>
    obtain ⟨r1, g, k, r2, r3⟩ := hcut
    have nh : ∀ i, x.has i → i < w.heap.size := fun i h => (H.out.has_lt i h).2
    have hwbs : w.heap.size ≤ wb.heap.size := Hwb.out.size
    have fN : ¬ x.has w.heap.size := fun h => by have := nh _ h; omega
    have fS : ¬ x.has wb.heap.size := fun h => by have := nh _ h; omega
    have s0 := r1.cell fS HA.out.1
    have s1 := r1.cell fS HA.out.2.1
    have s2 := r1.cell fS HA.out.2.2
    have z0 := r1.cell fN HZa.out.1
    have z1 := r1.cell fN HZa.out.2.1
    have z2 := r1.cell fN HZa.out.2.2
    have zf : ∀ o, wc.frozen? ⟨w.heap.size, o, none⟩ = false := r1.loose fN HZa.out.lt HLa.out
    have hne2 : w.heap.size ≠ wb.heap.size := by omega
    have HR1 := hid r1
    have HR2 := hid r2
    have HR3 := hid r3
    clear r1 r2 r3 c3 nh fN fS
    go_wp2_with fail
    refine bodyPost_ret (v := .tuple #[stv lw (ll + 1) x.node, .int .i64 0]) (by simp [results, Try.results14, go_sem, z0, z1, z2]) rfl ⟨rfl, ?_, g, k, ?_, ?_⟩
    · exact Onl.fresh (Onl.fresh (Onl.of_below Hwa.out) HR1.out (fun i h => .inl h)) (Onl.of_only (F := fun i => i = w.heap.size) (putS_only wc w.heap.size lw (ll + 1) x.node) rfl) (fun i h => .inr (Nat.le_of_eq h.symm))
    · rcases HR2.out with h | h
      · exact .inl h
      · exact .inr (Nat.le_trans Hwa.out.size h)
    · refine HR3.out.keep (Onl.of_only (F := fun i => i = w.heap.size) (putS_only wc w.heap.size lw (ll + 1) x.node) rfl) ?_
      rintro i (h | h | h | h) e
      · have := (H.out.has_lt x.d (.inl rfl)).2; dsimp only at h; omega
      · have := (H.out.has_lt x.g2 (.inr (.inl rfl))).2; dsimp only at h; omega
      · have h3 := (H.out.has_lt x.g3 (.inr (.inr (.inl rfl)))).2
        have h4 := HZa.out.lt
        have h5 := HR2.out
        dsimp only at h; omega
      · have := (H.out.has_lt x.g4 (.inr (.inr (.inr rfl)))).2; dsimp only at h; omega

set_option maxHeartbeats 4000000 in
theorem rtick_d (B n : Nat) (x : Rd) (r lw ll ln : Int) (w : World) (H : Hid (RefAt w B x)) (hB : B ≤ w.heap.size) (hlen : (x.ss.length + 1) * 16 ≤ 140737488355328) (HM : Hid (maxSt zst x.ss = ⟨lw, ll, ln⟩)) (HN : Hid (x.rs.length = n + 1)) (hn : n + 1 ≤ 9223372036854775807) (HRD : Hid (x.rs.getD n 0 = r))
    (hlt : r ≤ lw) (htop : (lw == 18446744073709551615) = false) (hll : (ll == 4294967295) = true) (h0 : 0 ≤ lw) (h1 : lw ≤ 18446744073709551613) (htop2 : (lw + 1 == 18446744073709551615) = false) :
    Calls Try.prog 14 #[.pointer (some ⟨x.d, 0, none⟩)] w fun e w' => e = .returned (.tuple #[stv (lw + 1) 0 x.node, .int .i64 0]) ∧ Onl x.has w w' ∧ ∃ g k, (g = x.g3 ∨ w.heap.size ≤ g) ∧ RefAt w' B { x with g3 := g, k3 := k, ss := x.ss ++ [⟨(lw + 1), 0, x.node⟩] } := by
  obtain ⟨i0, hi, hz0, hz1, hz2⟩ := info_parts Try.infoSt
  have hd := H.out.lt
  have hl : Hid (x.ss.length ≤ 9223372036854775807) := hid (show _ ≤ _ by omega)
  go_enter Try.func14, Try.ntmps14
  go_wp2_with (first
    | (go_at_call 18; refine (rlast_is HM.out _ (H.out.later (w3c_below w 0 0 0)) hl.out).mono ?_; rintro e w1 ⟨rfl, hb1⟩))
  obtain ⟨wb, hwb⟩ : ∃ wb, wb = w3c w1 lw ll ln := ⟨_, rfl⟩
  have bb : Below (w3c w 0 0 0).heap.size (w3c w 0 0 0) wb := by rw [hwb]; exact Below.on hb1 (w3c_below _ _ _ _)
  have T := w3c_at w1 lw ll ln
  rw [← hwb] at T
  show Code.wp _ _ _ _ (w3c w1 lw ll ln)
  rw [← hwb]
  have Hb := (H.out.later (w3c_below w 0 0 0)).later bb
  have Z := (w3c_at w 0 0 0).later bb
  have ZL : Loose wb w.heap.size := (w3c_loose w 0 0 0).later bb (w3c_size w 0 0 0)
  have ⟨t0, t1, t2⟩ := T
  have ⟨z0, z1, z2⟩ := Z
  have zf : ∀ o, wb.frozen? ⟨w.heap.size, o, none⟩ = false := ZL
  have c0 := Hb.c0
  have c2 := Hb.c2
  have e2 := Hb.reading (i := n) (by have := HN.out; omega)
  rw [HRD.out] at e2
  rw [HN.out] at c2
  have ht := T.lt
  have hz := Z.lt
  have hdb := Hb.lt
  have HT := hid T
  have HZ := hid Z
  have HHb := hid Hb
  have Hwb := hid (Below.on (w3c_below w 0 0 0) bb)
  clear hwb T Hb bb hb1 Z
  go_region
  all_goals go_wp2_with fail
  obtain ⟨wa, hwa⟩ : ∃ wa, wa = (w3c wb (lw + 1) 0 x.node).drew := ⟨_, rfl⟩
  have ba : Below wb.heap.size wb wa := by rw [hwa]; exact Below.drew (w3c_below _ _ _ _)
  have A : StampAt wa wb.heap.size (lw + 1) 0 x.node := by rw [hwa]; exact (w3c_at wb (lw + 1) 0 x.node).later (Below.drew (Below.refl _ _))
  show Code.wp _ _ _ _ (w3c wb (lw + 1) 0 x.node).drew
  rw [← hwa]
  clear hwa t0 t1 t2 c0 c2 e2
  have ⟨s0, s1, s2⟩ := A
  have Ha := HHb.out.later ba
  have c3 := Ha.c3
  have hne := Ha.d3
  have hda : x.d < wa.heap.size := Ha.lt
  have HHa := hid Ha
  have HA := hid A
  have HZa := hid (HZ.out.later ba)
  have HLa := hid (Loose.later ZL ba hz)
  have hqa : wb.heap.size < wa.heap.size := A.lt
  have Hwa := hid (Below.on Hwb.out ba)
  have HB := hid (show B ≤ (w3c wa (lw + 1) 0 x.node).drew.heap.size from Nat.le_trans (Nat.le_trans hB Hwa.out.size) (w3c_below wa (lw + 1) 0 x.node).size)
  have Hbb := hid (show Below wa.heap.size wa (w3c wa (lw + 1) 0 x.node).drew from Below.drew (w3c_below wa (lw + 1) 0 x.node))
  have Hown := hid (Ha.later Hbb.out).r3
  have n1 : Hid (∀ j u, (St.cs ⟨(lw + 1), 0, x.node⟩)[j]? = some u → (w3c wa (lw + 1) 0 x.node).drew.cell? (Addr.add ⟨wa.heap.size, 0, none⟩ j) = some u) := by
    show ∀ j u, _
    intro j u hj
    match j, hj with
    | 0, hj => simp [St.cs] at hj; subst hj; simp [go_sem, Addr.add]
    | 1, hj => simp [St.cs] at hj; subst hj; simp [go_sem, Addr.add]
    | 2, hj => simp [St.cs] at hj; subst hj; simp [go_sem, Addr.add]
  have n2 : Hid (∀ u ∈ St.cs ⟨(lw + 1), 0, x.node⟩, u.oneCell' = true) := fun u hu => by simp [St.cs] at hu; rcases hu with rfl | rfl | rfl <;> rfl
  have n3 : Hid (x.ss.length + 1 ≤ maxLen) := by show _ ≤ _; unfold maxLen; omega
  have n4 := hid hlen
  clear A Ha hlen ba z0 z1 z2 zf ZL HZ
  go_cut [] (fun wx => Onl x.has wa wx ∧ ∃ g k, (g = x.g3 ∨ wa.heap.size ≤ g) ∧ RefAt wx B { x with g3 := g, k3 := k, ss := x.ss ++ [⟨(lw + 1), 0, x.node⟩] })
  case first =>
    go_region_law ((refine step_append_lies _ (by rfl) _ _ 56 (by rfl) B 33 i0 (stv 0 0 0) 3 16 Try.underlying56 hi hz0 hz1 hz2 rfl (by decide) (.slice (some ⟨x.g3, 0, none⟩) x.ss.length x.k3) x.ss.length (flat x.ss) (by simp [Act.eval]) Hown.out ⟨wa.heap.size, 0, none⟩ 1 1 (St.cs ⟨(lw + 1), 0, x.node⟩) (by simp [Act.eval]) rfl n1.out n2.out (by decide) n3.out n4.out HB.out (w3c wa (lw + 1) 0 x.node).drew.heap.size rfl ?_; intro g cap w2 hown hgrow hat hlt2; have o1 := grown_onl hgrow; have k3 := o1.cell hne (HHa.out.later Hbb.out).c3; have kf : ∀ o, w2.frozen? ⟨x.d, o, none⟩ = false := o1.loose hne (HHa.out.later Hbb.out).lt (HHa.out.later Hbb.out).loose; have HR := hid (HHa.out.app3 (v := ⟨(lw + 1), 0, x.node⟩) Hbb.out hgrow hown hat); clear hown hgrow hat hlt2 o1))
    all_goals (try go_wp2_with fail)
    all_goals go_meet
    all_goals exact ⟨HR.out.2.1, g, cap, HR.out.2.2, HR.out.1⟩
  case rest =>
    obtain ⟨r1, g, k, r2, r3⟩ := hcut
    have nh : ∀ i, x.has i → i < w.heap.size := fun i h => (H.out.has_lt i h).2
    have hwbs : w.heap.size ≤ wb.heap.size := Hwb.out.size
    have fN : ¬ x.has w.heap.size := fun h => by have := nh _ h; omega
    have fS : ¬ x.has wb.heap.size := fun h => by have := nh _ h; omega
    have s0 := r1.cell fS HA.out.1
    have s1 := r1.cell fS HA.out.2.1
    have s2 := r1.cell fS HA.out.2.2
    have z0 := r1.cell fN HZa.out.1
    have z1 := r1.cell fN HZa.out.2.1
    have z2 := r1.cell fN HZa.out.2.2
    have zf : ∀ o, wc.frozen? ⟨w.heap.size, o, none⟩ = false := r1.loose fN HZa.out.lt HLa.out
    have hne2 : w.heap.size ≠ wb.heap.size := by omega
    have HR1 := hid r1
    have HR2 := hid r2
    have HR3 := hid r3
    clear r1 r2 r3 c3 nh fN fS
    go_wp2_with fail
    refine bodyPost_ret (v := .tuple #[stv (lw + 1) 0 x.node, .int .i64 0]) (by simp [results, Try.results14, go_sem, z0, z1, z2]) rfl ⟨rfl, ?_, g, k, ?_, ?_⟩
    · exact Onl.fresh (Onl.fresh (Onl.of_below Hwa.out) HR1.out (fun i h => .inl h)) (Onl.of_only (F := fun i => i = w.heap.size) (putS_only wc w.heap.size (lw + 1) 0 x.node) rfl) (fun i h => .inr (Nat.le_of_eq h.symm))
    · rcases HR2.out with h | h
      · exact .inl h
      · exact .inr (Nat.le_trans Hwa.out.size h)
    · refine HR3.out.keep (Onl.of_only (F := fun i => i = w.heap.size) (putS_only wc w.heap.size (lw + 1) 0 x.node) rfl) ?_
      rintro i (h | h | h | h) e
      · have := (H.out.has_lt x.d (.inl rfl)).2; dsimp only at h; omega
      · have := (H.out.has_lt x.g2 (.inr (.inl rfl))).2; dsimp only at h; omega
      · have h3 := (H.out.has_lt x.g3 (.inr (.inr (.inl rfl)))).2
        have h4 := HZa.out.lt
        have h5 := HR2.out
        dsimp only at h; omega
      · have := (H.out.has_lt x.g4 (.inr (.inr (.inr rfl)))).2; dsimp only at h; omega

set_option maxHeartbeats 4000000 in
theorem rtick_a (B n : Nat) (x : Rd) (r lw ll ln : Int) (w : World) (H : Hid (RefAt w B x)) (hB : B ≤ w.heap.size) (hlen : (x.ss.length + 1) * 16 ≤ 140737488355328) (HM : Hid (maxSt zst x.ss = ⟨lw, ll, ln⟩)) (HN : Hid (x.rs.length = n + 1)) (hn : n + 1 ≤ 9223372036854775807) (HRD : Hid (x.rs.getD n 0 = r))
    (hlt : r ≤ lw) (htop : (lw == 18446744073709551615) = true) :
    Calls Try.prog 14 #[.pointer (some ⟨x.d, 0, none⟩)] w fun e w' => e = .returned (.tuple #[stv 0 0 0, .int .i64 11]) ∧ Below w.heap.size w w' := by
  obtain ⟨i0, hi, hz0, hz1, hz2⟩ := info_parts Try.infoSt
  have hd := H.out.lt
  have hl : Hid (x.ss.length ≤ 9223372036854775807) := hid (show _ ≤ _ by omega)
  go_enter Try.func14, Try.ntmps14
  go_wp2_with (first
    | (go_at_call 18; refine (rlast_is HM.out _ (H.out.later (w3c_below w 0 0 0)) hl.out).mono ?_; rintro e w1 ⟨rfl, hb1⟩))
  obtain ⟨wb, hwb⟩ : ∃ wb, wb = w3c w1 lw ll ln := ⟨_, rfl⟩
  have bb : Below (w3c w 0 0 0).heap.size (w3c w 0 0 0) wb := by rw [hwb]; exact Below.on hb1 (w3c_below _ _ _ _)
  have T := w3c_at w1 lw ll ln
  rw [← hwb] at T
  show Code.wp _ _ _ _ (w3c w1 lw ll ln)
  rw [← hwb]
  have Hb := (H.out.later (w3c_below w 0 0 0)).later bb
  have Z := (w3c_at w 0 0 0).later bb
  have ZL : Loose wb w.heap.size := (w3c_loose w 0 0 0).later bb (w3c_size w 0 0 0)
  have ⟨t0, t1, t2⟩ := T
  have ⟨z0, z1, z2⟩ := Z
  have zf : ∀ o, wb.frozen? ⟨w.heap.size, o, none⟩ = false := ZL
  have c0 := Hb.c0
  have c2 := Hb.c2
  have e2 := Hb.reading (i := n) (by have := HN.out; omega)
  rw [HRD.out] at e2
  rw [HN.out] at c2
  have ht := T.lt
  have hz := Z.lt
  have hdb := Hb.lt
  have HT := hid T
  have HZ := hid Z
  have HHb := hid Hb
  have Hwb := hid (Below.on (w3c_below w 0 0 0) bb)
  clear hwb T Hb bb hb1 Z
  go_region
  all_goals go_wp2_with fail
  refine bodyPost_ret (v := .tuple #[stv 0 0 0, .int .i64 11]) (by simp [results, Try.results14, go_sem, z0, z1, z2, hz]) rfl ⟨rfl, ?_⟩
  exact Below.drew (Below.al (Below.put Hwb.out (Nat.le_refl _) 0 0 0) _)

set_option maxHeartbeats 4000000 in
theorem rtick_c (B n : Nat) (x : Rd) (r lw ll ln : Int) (w : World) (H : Hid (RefAt w B x)) (hB : B ≤ w.heap.size) (hlen : (x.ss.length + 1) * 16 ≤ 140737488355328) (HM : Hid (maxSt zst x.ss = ⟨lw, ll, ln⟩)) (HN : Hid (x.rs.length = n + 1)) (hn : n + 1 ≤ 9223372036854775807) (HRD : Hid (x.rs.getD n 0 = r))
    (hlt : r ≤ lw) (htop : (lw == 18446744073709551615) = false) (hll : (ll == 4294967295) = true) (h0 : 0 ≤ lw) (h1 : lw ≤ 18446744073709551614) (htop2 : (lw + 1 == 18446744073709551615) = true) :
    Calls Try.prog 14 #[.pointer (some ⟨x.d, 0, none⟩)] w fun e w' => e = .returned (.tuple #[stv 0 0 0, .int .i64 11]) ∧ Below w.heap.size w w' := by
  obtain ⟨i0, hi, hz0, hz1, hz2⟩ := info_parts Try.infoSt
  have hd := H.out.lt
  have hl : Hid (x.ss.length ≤ 9223372036854775807) := hid (show _ ≤ _ by omega)
  go_enter Try.func14, Try.ntmps14
  go_wp2_with (first
    | (go_at_call 18; refine (rlast_is HM.out _ (H.out.later (w3c_below w 0 0 0)) hl.out).mono ?_; rintro e w1 ⟨rfl, hb1⟩))
  obtain ⟨wb, hwb⟩ : ∃ wb, wb = w3c w1 lw ll ln := ⟨_, rfl⟩
  have bb : Below (w3c w 0 0 0).heap.size (w3c w 0 0 0) wb := by rw [hwb]; exact Below.on hb1 (w3c_below _ _ _ _)
  have T := w3c_at w1 lw ll ln
  rw [← hwb] at T
  show Code.wp _ _ _ _ (w3c w1 lw ll ln)
  rw [← hwb]
  have Hb := (H.out.later (w3c_below w 0 0 0)).later bb
  have Z := (w3c_at w 0 0 0).later bb
  have ZL : Loose wb w.heap.size := (w3c_loose w 0 0 0).later bb (w3c_size w 0 0 0)
  have ⟨t0, t1, t2⟩ := T
  have ⟨z0, z1, z2⟩ := Z
  have zf : ∀ o, wb.frozen? ⟨w.heap.size, o, none⟩ = false := ZL
  have c0 := Hb.c0
  have c2 := Hb.c2
  have e2 := Hb.reading (i := n) (by have := HN.out; omega)
  rw [HRD.out] at e2
  rw [HN.out] at c2
  have ht := T.lt
  have hz := Z.lt
  have hdb := Hb.lt
  have HT := hid T
  have HZ := hid Z
  have HHb := hid Hb
  have Hwb := hid (Below.on (w3c_below w 0 0 0) bb)
  clear hwb T Hb bb hb1 Z
  go_region
  all_goals go_wp2_with fail
  refine bodyPost_ret (v := .tuple #[stv 0 0 0, .int .i64 11]) (by simp [results, Try.results14, go_sem, z0, z1, z2, hz]) rfl ⟨rfl, ?_⟩
  exact Below.drew (Below.al (Below.put Hwb.out (Nat.le_refl _) 0 0 0) _)

set_option maxHeartbeats 4000000 in
theorem rtick_e (B n : Nat) (x : Rd) (r lw ll ln : Int) (w : World) (H : Hid (RefAt w B x)) (hB : B ≤ w.heap.size) (hlen : (x.ss.length + 1) * 16 ≤ 140737488355328) (HM : Hid (maxSt zst x.ss = ⟨lw, ll, ln⟩)) (HN : Hid (x.rs.length = n + 1)) (hn : n + 1 ≤ 9223372036854775807) (HRD : Hid (x.rs.getD n 0 = r))
    (hlt : decide (r ≤ lw) = false) (htop : (r == 18446744073709551615) = true) :
    Calls Try.prog 14 #[.pointer (some ⟨x.d, 0, none⟩)] w fun e w' => e = .returned (.tuple #[stv 0 0 0, .int .i64 11]) ∧ Below w.heap.size w w' := by
  obtain ⟨i0, hi, hz0, hz1, hz2⟩ := info_parts Try.infoSt
  have hd := H.out.lt
  have hl : Hid (x.ss.length ≤ 9223372036854775807) := hid (show _ ≤ _ by omega)
  go_enter Try.func14, Try.ntmps14
  go_wp2_with (first
    | (go_at_call 18; refine (rlast_is HM.out _ (H.out.later (w3c_below w 0 0 0)) hl.out).mono ?_; rintro e w1 ⟨rfl, hb1⟩))
  obtain ⟨wb, hwb⟩ : ∃ wb, wb = w3c w1 lw ll ln := ⟨_, rfl⟩
  have bb : Below (w3c w 0 0 0).heap.size (w3c w 0 0 0) wb := by rw [hwb]; exact Below.on hb1 (w3c_below _ _ _ _)
  have T := w3c_at w1 lw ll ln
  rw [← hwb] at T
  show Code.wp _ _ _ _ (w3c w1 lw ll ln)
  rw [← hwb]
  have Hb := (H.out.later (w3c_below w 0 0 0)).later bb
  have Z := (w3c_at w 0 0 0).later bb
  have ZL : Loose wb w.heap.size := (w3c_loose w 0 0 0).later bb (w3c_size w 0 0 0)
  have ⟨t0, t1, t2⟩ := T
  have ⟨z0, z1, z2⟩ := Z
  have zf : ∀ o, wb.frozen? ⟨w.heap.size, o, none⟩ = false := ZL
  have c0 := Hb.c0
  have c2 := Hb.c2
  have e2 := Hb.reading (i := n) (by have := HN.out; omega)
  rw [HRD.out] at e2
  rw [HN.out] at c2
  have ht := T.lt
  have hz := Z.lt
  have hdb := Hb.lt
  have HT := hid T
  have HZ := hid Z
  have HHb := hid Hb
  have Hwb := hid (Below.on (w3c_below w 0 0 0) bb)
  clear hwb T Hb bb hb1 Z
  go_region
  all_goals go_wp2_with fail
  refine bodyPost_ret (v := .tuple #[stv 0 0 0, .int .i64 11]) (by simp [results, Try.results14, go_sem, z0, z1, z2, hz]) rfl ⟨rfl, ?_⟩
  exact Below.drew (Below.al (Below.put Hwb.out (Nat.le_refl _) 0 0 0) _)

/-- a Tick of the document's clock -/
theorem rtick_is (B n : Nat) (x : Rd) (c : Ck) {W L N E : Int} (hx : tickN c = ⟨W, L, N, E⟩) (w : World) (H : RefAt w B x) (hB : B ≤ w.heap.size) (hlen : (x.ss.length + 1) * 16 ≤ 140737488355328) (hm : maxSt zst x.ss = c.l) (hN : x.rs.length = n + 1) (hn : n + 1 ≤ 9223372036854775807) (hr : x.rs.getD n 0 = c.rd)
    (hno : x.node = c.node) (hc : c.ok) :
    Calls Try.prog 14 #[.pointer (some ⟨x.d, 0, none⟩)] w fun e w' => e = .returned (.tuple #[stv W L N, .int .i64 E]) ∧ Onl x.has w w' ∧
      ((E = 0 ∧ ∃ g k, (g = x.g3 ∨ w.heap.size ≤ g) ∧ RefAt w' B { x with g3 := g, k3 := k, ss := x.ss ++ [⟨W, L, N⟩] }) ∨ (E ≠ 0 ∧ RefAt w' B x)) := by
  obtain ⟨win, ceil, node, rd, lw, ll, ln⟩ := c
  dsimp only at hm hr hno
  subst hno
  obtain ⟨⟨a1, a2⟩, ⟨b1, b2⟩, d1, d2⟩ : StB lw ll ln := hc.l
  have hru := hc.rd
  unfold U64 at hru
  dsimp only at a1 a2 b1 b2 d1 d2 hru
  by_cases hle : rd ≤ lw
  · have e : tickN ⟨win, ceil, x.node, rd, ⟨lw, ll, ln⟩⟩ = nxt lw ll x.node := by unfold tickN; rw [if_pos hle]
    by_cases ha : lw = 18446744073709551615
    · rw [e, nxt_top ha] at hx
      injection hx with q1 q2 q3 q4
      subst q1 q2 q3 q4
      exact (rtick_a B n x rd lw ll ln w H hB hlen hm hN hn hr hle (beq_iff_eq.2 ha)).mono fun e w' ⟨h1, h2⟩ => ⟨h1, Onl.of_below h2, .inr ⟨by decide, H.later h2⟩⟩
    · by_cases hb : ll < 4294967295
      · rw [e, nxt_in ha hb] at hx
        injection hx with q1 q2 q3 q4
        subst q1 q2 q3 q4
        exact (rtick_b B n x rd lw ll ln w H hB hlen hm hN hn hr hle (beq_eq_false_iff_ne.2 ha) (beq_eq_false_iff_ne.2 (by omega)) b1 (by omega)).mono fun e w' ⟨h1, h2, h3⟩ => ⟨h1, h2, .inl ⟨rfl, h3⟩⟩
      · by_cases hl : lw + 1 = 18446744073709551615
        · rw [e, nxt_end ha hb hl] at hx
          injection hx with q1 q2 q3 q4
          subst q1 q2 q3 q4
          exact (rtick_c B n x rd lw ll ln w H hB hlen hm hN hn hr hle (beq_eq_false_iff_ne.2 ha) (beq_iff_eq.2 (by omega)) a1 (by omega) (beq_iff_eq.2 hl)).mono fun e w' ⟨h1, h2⟩ => ⟨h1, Onl.of_below h2, .inr ⟨by decide, H.later h2⟩⟩
        · rw [e, nxt_up ha hb hl] at hx
          injection hx with q1 q2 q3 q4
          subst q1 q2 q3 q4
          exact (rtick_d B n x rd lw ll ln w H hB hlen hm hN hn hr hle (beq_eq_false_iff_ne.2 ha) (beq_iff_eq.2 (by omega)) a1 (by omega) (beq_eq_false_iff_ne.2 hl)).mono fun e w' ⟨h1, h2, h3⟩ => ⟨h1, h2, .inl ⟨rfl, h3⟩⟩
  · by_cases he : rd = 18446744073709551615
    · have e : tickN ⟨win, ceil, x.node, rd, ⟨lw, ll, ln⟩⟩ = ⟨0, 0, 0, 11⟩ := by unfold tickN; rw [if_neg hle, if_pos he]
      rw [e] at hx
      injection hx with q1 q2 q3 q4
      subst q1 q2 q3 q4
      exact (rtick_e B n x rd lw ll ln w H hB hlen hm hN hn hr (decide_eq_false hle) (beq_iff_eq.2 he)).mono fun e w' ⟨h1, h2⟩ => ⟨h1, Onl.of_below h2, .inr ⟨by decide, H.later h2⟩⟩
    · have e : tickN ⟨win, ceil, x.node, rd, ⟨lw, ll, ln⟩⟩ = ⟨rd, 0, x.node, 0⟩ := by unfold tickN; rw [if_neg hle, if_neg he]
      rw [e] at hx
      injection hx with q1 q2 q3 q4
      subst q1 q2 q3 q4
      exact (rtick_f B n x rd lw ll ln w H hB hlen hm hN hn hr (decide_eq_false hle) (beq_eq_false_iff_ne.2 he)).mono fun e w' ⟨h1, h2, h3⟩ => ⟨h1, h2, .inl ⟨rfl, h3⟩⟩

end Go.Proofs.Ytmloaddbmkonoab
