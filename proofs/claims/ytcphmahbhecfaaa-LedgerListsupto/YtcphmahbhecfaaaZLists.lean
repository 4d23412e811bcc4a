import Derived.Test.YtcphmahbhecfaaaZBook
/- lists. -/
namespace Go.Proofs.Ytcphmahbhecfaaa.Lg
open Go.RowKit Go.Sort Go.Shelf Go.Lib Lk
set_option linter.unusedVariables false

set_option maxRecDepth 100000 in
set_option maxHeartbeats 8000000 in
theorem lists_is {W w : World} {p : Nat} {m : Option Nat} {M : List En} {v : Value} {l : List En2} {home i : Int} (S : StL W w p m M v l) (hM : 0 < M.length) (hM2 : M.length ≤ 1800000) (hl : l.length ≤ 15000000) :
    Calls Try.prog 7 #[.pointer (some ⟨p, 0, none⟩), .int .u32 home, .int .i64 i, v] w fun e w' => ∃ v' l', e = .returned (.tuple #[v', .bool true]) ∧ Hid (StL W w' p m M v' l') ∧ Hid (l'.length = l.length + 8) := by
  have HS := hid S
  have HML := hid hl
  clear S hl
  go_enter Try.func7, Try.ntmps7
  go_wp2_with fail
  refine (ents_is HS.out.led (by omega)).mono ?_
  rintro e w1 ⟨a, n, ca, U, rfl, HN, HA, HPU, HSU, HB1⟩
  have E2 := hid (ents_at (HS.out.led.later HB1.out) (by omega) HN.out HPU.out HSU.out)
  go_wp2_with fail
  refine E2.out.mono ?_
  rintro e w2 ⟨b, cb, rfl, HBb, HB2⟩
  have HB02 := hid (Below.on HB1.out HB2.out)
  clear E2
  go_wp2_with fail
  refine (coms_is (HS.out.led.later HB02.out) (by omega) home).mono ?_
  rintro e w3 ⟨c, q, cc, C, rfl, HQ, HC, HPC, HSC, HB3⟩
  have E4 := hid (coms_at (HS.out.led.later (Below.on HB02.out HB3.out)) (by omega) home HQ.out HPC.out HSC.out)
  go_wp2_with fail
  refine E4.out.mono ?_
  rintro e w4 ⟨d, cd, rfl, HD, HB4⟩
  clear E4
  have hnM : n = M.length := by rw [← HN.out, HPU.out.length_eq]
  have hqM : q ≤ M.length := by rw [← HQ.out, HPC.out.length_eq]; exact List.length_filter_le _ _
  have hn0 : ((n : Int) == 0) = false := by simp; omega
  have HAF := hid (Af.start HS.out HB1.out HB2.out HBb.out HB3.out HB4.out HD.out)
  have HA4 := hid (HA.out.later (Below.on HB2.out (Below.on HB3.out HB4.out)))
  have HC4 := hid (HC.out.later HB4.out)
  have OFA : Hid (((Value.slice a n ca).ownBlock = none ∨ (Value.slice a n ca).ownBlock ≠ (Value.slice b n cb).ownBlock) ∧ ((Value.slice a n ca).ownBlock = none ∨ (Value.slice a n ca).ownBlock ≠ (Value.slice d q cd).ownBlock)) :=
    ⟨apart_time HA.out HBb.out (.inl (Nat.le_refl _)), apart_time HA.out HD.out (.inl (Nat.le_trans HB2.out.size HB3.out.size))⟩
  have OFC : Hid (((Value.slice c q cc).ownBlock = none ∨ (Value.slice c q cc).ownBlock ≠ (Value.slice b n cb).ownBlock) ∧ ((Value.slice c q cc).ownBlock = none ∨ (Value.slice c q cc).ownBlock ≠ (Value.slice d q cd).ownBlock)) :=
    ⟨apart_time HC.out HBb.out (.inr (Nat.le_refl _)), apart_time HC.out HD.out (.inl (Nat.le_refl _))⟩
  have HS24 : Hid (w2.heap.size ≤ w4.heap.size) := Nat.le_trans HB3.out.size HB4.out.size
  have RA : Hid (∀ W', Below w4.heap.size w4 W' → RowC En.zero ecs 7 W' a U) := fun W' hb => RowC.later (own_row (n := n) (by have h := HA4.out; rw [OwnE, HN.out] at h; exact h) HN.out) hb
  have RB : Hid (∀ W', Below w4.heap.size w4 W' → RowC En.zero ecs 7 W' b U) := fun W' hb => RowC.later (own_row (n := n) (by have h := HAF.out.ob; rw [OwnE, HN.out] at h; exact h) HN.out) hb
  have RC : Hid (∀ W', Below w4.heap.size w4 W' → RowC En.zero ecs 7 W' c C) := fun W' hb => RowC.later (own_row (n := q) (by have h := HC4.out; rw [OwnE, HQ.out] at h; exact h) HQ.out) hb
  have RD : Hid (∀ W', Below w4.heap.size w4 W' → RowC En.zero ecs 7 W' d C) := fun W' hb => RowC.later (own_row (n := q) (by have h := HAF.out.od; rw [OwnE, HQ.out] at h; exact h) HQ.out) hb
  have SA : Hid (∀ W', Below w4.heap.size w4 W' → Calls Try.prog 15 #[.slice a n ca, .slice b n cb] W' fun r w' => r = .returned (.bool true) ∧ Below W'.heap.size W' w') := fun W' hb => sameEntries_is (RA.out W' hb) (RB.out W' hb) HN.out (by omega)
  have SC : Hid (∀ W', Below w4.heap.size w4 W' → Calls Try.prog 15 #[.slice c q cc, .slice d q cd] W' fun r w' => r = .returned (.bool true) ∧ Below W'.heap.size W' w') := fun W' hb => sameEntries_is (RC.out W' hb) (RD.out W' hb) HQ.out (by omega)
  have hn9 : n ≤ 1800000 := by omega
  have hq9 : q ≤ 1800000 := by omega
  clear HA HBb HC HD HB1 HB2 HB3 HB4 HB02 hnM hqM HPU HSU HPC HSC HS RA RB RC RD hM hM2
  go_upto_region 5 with (first
    | (go_at_call 15; refine (SA.out _ (Below.refl _ _)).mono ?_; clear SA; rintro e w5 ⟨rfl, hb5⟩)
    | (go_at_call 15; refine (SC.out _ hb5).mono ?_; clear SC; rintro e w6 ⟨rfl, hb6⟩))
  have HB6 : Hid (Below w4.heap.size w4 w6) := Below.on hb5 hb6
  have HS46 : Hid (w4.heap.size ≤ w6.heap.size) := HB6.out.size
  have HA6 := hid (HA4.out.later HB6.out)
  have HC6 := hid (HC4.out.later HB6.out)
  have HF6 := hid (HAF.out.later HB6.out)
  clear hb5 hb6 HA4 HC4 hn0
  have KA := hid (kept_at HN.out HA6.out (by omega))
  go_wp2_with fail
  refine KA.out.mono ?_
  rintro e w7 ⟨a7, c7, rfl, ho7, hb7⟩
  have HL1 : Hid ((l.length + 1) * 64 ≤ 140737488355328) := by show _ ≤ _; have h1 := HML.out; omega
  have HF7 := hid (HF6.out.later (Below.al hb7 (.cells #[.slice a n ca, .slice a7 n c7] 58)))
  have HZ7 : Hid (W.heap.size ≤ (w7.alloc (.cells #[.slice a n ca, .slice a7 n c7] 58)).heap.size) := HF7.out.st.below.size
  go_upto_region 6 with (at_builtin; refine append_W2 rfl _ _ rfl (.slice a n ca, .slice a7 n c7) rfl HF7.out.st.book.own rfl (new2v _ _ _ _).1 (new2v _ _ _ _).2 rfl rfl HL1.out HZ7.out ?_; intro v8 w8 ho8 hg8 hn8)
  have E7 : Ent (w7.alloc (.cells #[.slice a n ca, .slice a7 n c7] 58)) (.slice a n ca, .slice a7 n c7) := ⟨U, by rw [HN.out]; omega, HA6.out.zero.later (Below.al hb7 _), ho7.out.zero.later (Below.al (Below.refl _ _) _)⟩
  have OB7 : Off (Value.slice b n cb).ownBlock (.slice a n ca, .slice a7 n c7) := ⟨OFA.out.1, apart_time ho7.out HF6.out.ob (.inr (Nat.le_refl _))⟩
  have OD7 : Off (Value.slice d q cd).ownBlock (.slice a n ca, .slice a7 n c7) := ⟨OFA.out.2, apart_time ho7.out HF6.out.od (.inr (Nat.le_refl _))⟩
  have HF8 := hid (HF7.out.add hg8 ho8 E7 OB7 OD7)
  have HC8 : Hid (OwnE w8 w2.heap.size (.slice c q cc) C) := by_book HF7.out.st.book.own hg8 (HC6.out.later (Below.al hb7 _))
  obtain ⟨l8, hl8⟩ : ∃ l8, l8 = l ++ [(Value.slice a n ca, Value.slice a7 n c7)] := ⟨_, rfl⟩
  have HL8 : Hid (l8.length = l.length + 1) := by show _ = _; rw [hl8, List.length_append]; rfl
  rw [← hl8] at HF8
  clear hl8 E7 OB7 OD7 ho8 hg8 hn8 HF7 HZ7 HL1 HC6 HA6 HF6 ho7 hb7 KA OFA HAF
  have KC := hid (kept_at HQ.out HC8.out (by omega))
  go_wp2_with fail
  refine KC.out.mono ?_
  rintro e w9 ⟨a9, c9, rfl, ho9, hb9⟩
  have HL1 : Hid ((l8.length + 1) * 64 ≤ 140737488355328) := by show _ ≤ _; have h1 := HML.out; have h2 := HL8.out; omega
  have HF9 := hid (HF8.out.later (Below.al hb9 (.cells #[.slice c q cc, .slice a9 q c9] 58)))
  have HZ9 : Hid (W.heap.size ≤ (w9.alloc (.cells #[.slice c q cc, .slice a9 q c9] 58)).heap.size) := HF9.out.st.below.size
  go_upto_region 7 with (at_builtin; refine append_W2 rfl _ _ rfl (.slice c q cc, .slice a9 q c9) rfl HF9.out.st.book.own rfl (new2v _ _ _ _).1 (new2v _ _ _ _).2 rfl rfl HL1.out HZ9.out ?_; intro v10 w10 ho10 hg10 hn10)
  have E9 : Ent (w9.alloc (.cells #[.slice c q cc, .slice a9 q c9] 58)) (.slice c q cc, .slice a9 q c9) := ⟨C, by rw [HQ.out]; omega, HC8.out.zero.later (Below.al hb9 _), ho9.out.zero.later (Below.al (Below.refl _ _) _)⟩
  have OB9 : Off (Value.slice b n cb).ownBlock (.slice c q cc, .slice a9 q c9) := ⟨OFC.out.1, apart_time ho9.out HF8.out.ob (.inr (Nat.le_refl _))⟩
  have OD9 : Off (Value.slice d q cd).ownBlock (.slice c q cc, .slice a9 q c9) := ⟨OFC.out.2, apart_time ho9.out HF8.out.od (.inr (Nat.le_refl _))⟩
  have HF10 := hid (HF9.out.add hg10 ho10 E9 OB9 OD9)
  obtain ⟨l10, hl10⟩ : ∃ l10, l10 = l8 ++ [(Value.slice c q cc, Value.slice a9 q c9)] := ⟨_, rfl⟩
  have HL10 : Hid (l10.length = l.length + 2) := by show _ = _; rw [hl10, List.length_append, HL8.out]; rfl
  rw [← hl10] at HF10
  clear hl10 E9 OB9 OD9 ho10 hg10 hn10 HF9 HZ9 HL1 HC8 HF8 ho9 hb9 KC OFC HL8
  have MB := hid (marked_is HN.out HF10.out.ob HF10.out.st.below.size i (by omega))
  go_wp2_with fail
  refine MB.out.mono ?_
  rintro e w11 ⟨g9, e1, e2, e3, rfl, ho11, he11, hg11⟩
  have MD : Hid (∀ j : Int, Calls Try.prog 17 #[.slice d q cd, .int .i64 j] w11 fun e w' => ∃ g9 e1 e2 e3, e = .returned (.slice (some ⟨g9, 0, none⟩) 3 3) ∧ Hid (OwnW2 w' w11.heap.size (.slice (some ⟨g9, 0, none⟩) 3 3) [e1, e2, e3]) ∧ Hid (∀ e ∈ [e1, e2, e3], Ent w' e ∧ Nr w11 (Value.slice d q cd) e) ∧ Hid (w11.grownBy w' (Value.slice d q cd).ownBlock)) := fun j =>
    marked_is HQ.out (World.ownsRow.kept HF10.out.od hg11.out HF10.out.ap) (Nat.le_trans HF10.out.st.below.size hg11.out.size) j (by omega)
  clear MB
  go_wp2_with fail
  refine (MD.out _).mono ?_
  rintro e w12 ⟨g10, f1, f2, f3, rfl, ho12, he12, hg12⟩
  have LP := hid (lp_of HF10.out ho11.out he11.out hg11.out ho12.out he12.out hg12.out)
  obtain ⟨es, hes⟩ : ∃ es, es = [e1, e2, e3] := ⟨_, rfl⟩
  obtain ⟨fs, hfs⟩ : ∃ fs, fs = [f1, f2, f3] := ⟨_, rfl⟩
  have HEL : Hid (es.length = 3) := by show _ = _; rw [hes]; rfl
  have HFL : Hid (fs.length = 3) := by show _ = _; rw [hfs]; rfl
  rw [← hes, ← hfs] at LP
  clear hes hfs ho11 he11 hg11 ho12 he12 hg12 MD HF10
  go_wp2_with fail
  go_loopg [3, 66] 3 (fun g s3 s66 wr => ∃ (j : Nat) (lj : List En2), j ≤ 3 ∧ g = 3 - j ∧ s66 = .int .i64 j ∧ Hid (lj.length = l10.length + 2 * j) ∧ Hid (Lp W wr p m M s3 lj es fs g9 g10))
  case atStart => exact ⟨0, l10, by omega, rfl, rfl, rfl, LP⟩
  case round =>
    obtain ⟨j, lj, hj, rfl, rfl, HLJ, HLP⟩ := hrel
    clear LP
    obtain ⟨v6, hv6⟩ : ∃ v6, v6 = u3 := ⟨_, rfl⟩
    rw [← hv6] at HLP ⊢
    clear hv6
    by_cases hj3 : j < 3
    · have hjl : j < es.length := by have h1 := HEL.out; omega
      have hjf : j < fs.length := by have h1 := HFL.out; omega
      have hj1 : (j : Int) < 3 := by omega
      obtain ⟨ra, rc, er, hrow⟩ := HLP.out.r1.row
      obtain ⟨rb, eb, d0, d1⟩ := hrow j hjl
      rw [eb] at er
      injection er with er hz1 hz2
      injection er with er
      injection er with er hz3 hz4
      subst er
      clear hz1 hz2 hz3 hz4 hrow eb
      have HEM : Hid (nthW2 es j ∈ es ++ fs) := List.mem_append_left _ (nthW2_mem hjl)
      have HEN := HLP.out.en _ HEM.out
      obtain ⟨x, hx⟩ : ∃ x, x = nthW2 es j := ⟨_, rfl⟩
      rw [← hx] at d0 d1 HEM HEN
      clear hx
      obtain ⟨x1, x2⟩ := x
      obtain ⟨X, hX, o1, o2⟩ := HEN
      obtain ⟨m1, m2, rfl, _⟩ := OwnE.slice o1
      obtain ⟨m3, m4, rfl, _⟩ := OwnE.slice o2
      dsimp only at d0 d1
      have HOA : Hid (OwnW2 (wr.alloc (.cells #[.slice m1 X.length m2, .slice m3 X.length m4] 58)) W.heap.size v6 lj) := HLP.out.st.book.own.later (Below.al (Below.refl _ _) _)
      have HL1 : Hid ((lj.length + 1) * 64 ≤ 140737488355328) := by show _ ≤ _; have h1 := HML.out; have h2 := HL10.out; have h3 := HLJ.out; omega
      have HL2 : Hid (W.heap.size ≤ (wr.alloc (.cells #[.slice m1 X.length m2, .slice m3 X.length m4] 58)).heap.size) := by show _ ≤ _; have h1 := HLP.out.st.below.size; rw [World.size_alloc]; omega
      clear o1 o2 hX hjl
      go_upto_region 13 with (at_builtin; refine append_W2 rfl _ _ rfl (.slice m1 X.length m2, .slice m3 X.length m4) rfl HOA.out rfl (new2v _ _ _ _).1 (new2v _ _ _ _).2 rfl rfl HL1.out HL2.out ?_; intro v7 w13 ho13 hg13 hn13)
      have HLQ := hid (HLP.out.step hg13 ho13 HEM.out hn13)
      obtain ⟨lk, hlk⟩ : ∃ lk, lk = lj ++ [(Value.slice m1 X.length m2, Value.slice m3 X.length m4)] := ⟨_, rfl⟩
      have HLK : Hid (lk.length = lj.length + 1) := by show _ = _; rw [hlk, List.length_append]; rfl
      rw [← hlk] at HLQ
      clear hlk ho13 hg13 hn13 HOA HL1 HL2 HEM HLP d0 d1
      obtain ⟨ra, rc, er, hrow⟩ := HLQ.out.r2.row
      obtain ⟨rb, eb, d0, d1⟩ := hrow j hjf
      rw [eb] at er
      injection er with er hz1 hz2
      injection er with er
      injection er with er hz3 hz4
      subst er
      clear hz1 hz2 hz3 hz4 hrow eb
      have HEM : Hid (nthW2 fs j ∈ es ++ fs) := List.mem_append_right _ (nthW2_mem hjf)
      have HEN := HLQ.out.en _ HEM.out
      obtain ⟨y, hy⟩ : ∃ y, y = nthW2 fs j := ⟨_, rfl⟩
      rw [← hy] at d0 d1 HEM HEN
      clear hy
      obtain ⟨y1, y2⟩ := y
      obtain ⟨Y, hY, o1, o2⟩ := HEN
      obtain ⟨k1, k2, rfl, _⟩ := OwnE.slice o1
      obtain ⟨k3, k4, rfl, _⟩ := OwnE.slice o2
      dsimp only at d0 d1
      have HOA : Hid (OwnW2 (w13.alloc (.cells #[.slice k1 Y.length k2, .slice k3 Y.length k4] 58)) W.heap.size v7 lk) := HLQ.out.st.book.own.later (Below.al (Below.refl _ _) _)
      have HL1 : Hid ((lk.length + 1) * 64 ≤ 140737488355328) := by show _ ≤ _; have h1 := HML.out; have h2 := HL10.out; have h3 := HLJ.out; have h4 := HLK.out; omega
      have HL2 : Hid (W.heap.size ≤ (w13.alloc (.cells #[.slice k1 Y.length k2, .slice k3 Y.length k4] 58)).heap.size) := by show _ ≤ _; have h1 := HLQ.out.st.below.size; rw [World.size_alloc]; omega
      clear o1 o2 hY hjf
      go_wp2_with (at_builtin; refine append_W2 rfl _ _ rfl (.slice k1 Y.length k2, .slice k3 Y.length k4) rfl HOA.out rfl (new2v _ _ _ _).1 (new2v _ _ _ _).2 rfl rfl HL1.out HL2.out ?_; intro v14 w14 ho14 hg14 hn14)
      have HLN := hid (HLQ.out.step hg14 ho14 HEM.out hn14)
      have HLM : Hid ((lk ++ [(Value.slice k1 Y.length k2, Value.slice k3 Y.length k4)]).length = l10.length + 2 * (j + 1)) := by show _ = _; rw [List.length_append, HLK.out, HLJ.out]; simp; omega
      go_roundg (3 - (j + 1))
      case measure => omega
      case rel => exact ⟨j + 1, _, by omega, rfl, by go_num, HLM, HLN⟩
    · obtain rfl : j = 3 := by omega
      clear hj3 hj
      have HST := hid HLP.out.st
      have HFI : Hid (lj.length = l.length + 8) := by show _ = _; rw [HLJ.out, HL10.out]
      go_wp2_with fail
      refine bodyPost_ret (v := .tuple #[v6, .bool true]) (by simp [results, Try.results7, go_sem]) rfl ?_
      exact ⟨_, lj, rfl, HST, HFI⟩
end Go.Proofs.Ytcphmahbhecfaaa.Lg
