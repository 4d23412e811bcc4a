import Derived.Test.YtogjhpknlopajaaXRDiff
/- The document's Differ. -/
namespace Go.Proofs.Ytogjhpknlopajaa.Lg
open Go.RowKit Go.Sort Go.Shelf Go.Lib Lk
set_option linter.unusedVariables false

/-- all entries' transactions are among K -/
def Within (Ms : List (List En)) (K : List Ix) : Prop := ∀ M ∈ Ms, ∀ e ∈ M, e.id ∈ K
theorem gath_len {Ms : List (List En)} {K : List Ix} {A : List En} (hW : Within Ms K) (h : Gath Ms A) : A.length ≤ K.length := by
  have := nodup_len h.nd (k := K) (fun t ht => by
    obtain ⟨x, hx, rfl⟩ := List.mem_map.1 ht
    obtain ⟨_, M, hM, hxM⟩ := h.from_ x hx
    exact hW M hM x hxM)
  simpa using this
theorem mat_len {Ms : List (List En)} {K : List Ix} {M : List En} (hW : Within Ms K) (hM : M ∈ Ms) (hn : (M.map En.id).Nodup) : M.length ≤ K.length := by
  have := nodup_len hn (k := K) (fun t ht => by
    obtain ⟨x, hx, rfl⟩ := List.mem_map.1 ht
    exact hW M hM x hx)
  simpa using this
theorem allG_succ {Ms : List (List En)} {k : Nat} (h : k < Ms.length) : allG Ms (k + 1) = gathL Ms (srtL false (Ms[k])) (allG Ms k) := by
  rw [allG, List.take_succ_eq_append_getElem h, List.flatMap_append, gathL, List.foldl_append]
  simp [allG, gathL]
theorem gath_all {Ms : List (List En)} (k : Nat) : Gath Ms (allG Ms k) := (gathL_ok (gath_nil Ms) (fun x hx => by
  obtain ⟨M, hM, h⟩ := List.mem_flatMap.1 hx
  exact ⟨M, List.mem_of_mem_take hM, (srt_perm false M).mem_iff.1 h⟩)).1
set_option maxRecDepth 8000 in
set_option maxHeartbeats 8000000 in
theorem rdiffer_is {w : World} {a : Option Addr} {n c : Nat} {D : List (Option Rd)} {K : List Ix} (hrow : RowC none (fun d => [ptr d]) 1 w a D) (hn : D.length = n) (hl : n ≤ 9223372036854775807) (hL : ∀ d, some d ∈ D → d.at w) (hnd : ∀ M ∈ matsR D, (M.map En.id).Nodup) (hW : Within (matsR D) K) (hK : K.length ≤ 3518437208882) :
    Calls Try.prog 85 #[.slice a n c] w fun r w' => ∃ (a' : Option Addr) (n' c' : Nat) (X : List Ix), r = .returned (.slice a' n' c') ∧ Hid (X.length = n') ∧ Hid (OwnX w.heap.size w' (.slice a' n' c') n' X) ∧
      Hid (X.Pairwise (fun x y => ltI x y = true)) ∧ Hid (∀ t, t ∈ X ↔ ∃ v, viewOf (matsR D) t = some v ∧ v.df = true) ∧ Hid (Below w.heap.size w w') := by
  obtain ⟨Ms, hMs⟩ : ∃ Ms, Ms = matsR D := ⟨_, rfl⟩
  rw [← hMs] at hnd hW
  have HMS := hid hMs
  have HR := hid hrow
  have HLN := hid hn
  have HL := hid hL
  have HND := hid hnd
  have HW := hid hW
  have NEW := hid (rnew_is w)
  obtain ⟨i0, hi, hz0, hz1, hz2⟩ := info_of infoEn
  obtain ⟨i1, hj, hy0, hy1, hy2⟩ := info_of infoTx
  rw [show matsR D = Ms from hMs.symm]
  clear hrow hn hL hnd hW hMs
  go_enter Try.func85, Try.ntmps85
  go_wp2_with fail
  refine NEW.out.mono ?_
  rintro r w0 ⟨rfl, HL0, hb0⟩
  have HB0 := hid hb0
  clear hb0 NEW
  go_wp2_with fail
  go_loopg [4] n (fun g s4 wr => ∃ (k : Nat) (aA : Option Addr) (nA cA : Nat), k ≤ n ∧ g = n - k ∧ s4 = .int .i64 k ∧ Hid (Rl wr w.heap.size aA nA cA (allG Ms k)) ∧ Hid (∀ b, RItL w.heap.size aA nA cA b → w.heap.size ≤ b) ∧ Hid (Below w.heap.size w wr))
  case atStart =>
    refine ⟨0, none, 0, 0, by omega, by omega, rfl, HL0, fun b hb => ?_, HB0⟩
    rcases hb with rfl | hb
    · exact Nat.le_refl _
    · simp [Value.ownBlock] at hb
  case round =>
    obtain ⟨k, aA, nA, cA, hk, rfl, rfl, HA, HI, HB⟩ := hrel
    by_cases hlt : k < n
    · obtain ⟨b0, off0, eb, hc⟩ := RowC.later HR.out HB.out k (by rw [HLN.out]; exact hlt)
      have hk1 : (k : Int) < (n : Int) := by omega
      obtain ⟨d, hde⟩ : ∃ d, d = nthR D k := ⟨_, rfl⟩
      have hde' : (D[k]?).getD none = d := hde.symm
      rw [hde'] at hc
      have g0 : wr.cell? ⟨b0, off0 + k, none⟩ = some (ptr d) := by have := hc 0 _ rfl; simpa using this
      subst eb
      have hDk : nthR D k = D[k]'(by rw [HLN.out]; exact hlt) := by simp [nthR, HLN.out, hlt]
      have hmem : d ∈ D := by rw [hde, hDk]; exact List.getElem_mem _
      have hMk : matR d ∈ Ms := by rw [HMS.out]; exact List.mem_map.2 ⟨d, hmem, rfl⟩
      have hkM : k < Ms.length := by rw [HMS.out, List.length_map, HLN.out]; exact hlt
      have hsu : allG Ms (k + 1) = gathL Ms (srtL false (matR d)) (allG Ms k) := by
        rw [allG_succ hkM]
        have : Ms[k] = matR d := by simp [HMS.out, hde, hDk]
        rw [this]
      have HSU := hid hsu
      have HMK := hid hMk
      obtain ⟨E, hE⟩ : ∃ E, E = srtL false (matR d) := ⟨_, rfl⟩
      obtain ⟨n1, hn1⟩ : ∃ n1, n1 = (matR d).length := ⟨_, rfl⟩
      have hEl : E.length = n1 := by rw [hE, (srt_perm false _).length_eq, hn1]
      have hnl : n1 ≤ 3518437208882 := by rw [hn1]; exact Nat.le_trans (mat_len HW.out hMk (HND.out _ hMk)) hK
      have ENT : Hid (Calls Try.prog 61 #[ptr d] wr fun r w' => ∃ (a1 : Option Addr) (c1 : Nat), r = .returned (.slice a1 n1 c1) ∧ Hid (OwnL wr.heap.size w' (.slice a1 n1 c1) n1 E) ∧ Hid (Below wr.heap.size wr w')) := by
        cases d with
        | none =>
          refine (rents_nil wr).mono ?_
          rintro r w' ⟨rfl, rfl⟩
          have e1 : n1 = 0 := hn1
          have e2 : E = [] := hE
          subst e1 e2
          exact ⟨none, 0, rfl, ⟨rfl, .inl ⟨rfl, rfl⟩⟩, Below.refl _ _⟩
        | some d =>
          have T := (HL.out d hmem).later HB.out
          have e1 : n1 = d.n := by rw [hn1]; exact T.len
          subst hE
          rw [e1] at hnl ⊢
          exact rentries_is T hnl
      have HEL := hid hEl
      have HEE : Hid (∀ x ∈ E, ∃ M ∈ Ms, x ∈ M) := fun x hx => ⟨matR d, hMk, by rw [hE] at hx; exact (srt_perm false _).mem_iff.1 hx⟩
      have HES : Hid (gathL Ms E (allG Ms k) = allG Ms (k + 1)) := by show _ = _; rw [hsu, hE]
      obtain ⟨pv, hpv⟩ : ∃ pv, pv = ptr d := ⟨_, rfl⟩
      rw [← hpv] at g0 ENT
      clear hc hde hde' hDk hmem hMk hkM hsu hE hn1 hEl hpv
      go_wp2_with fail
      refine ENT.out.mono ?_
      rintro r w1 ⟨a1, c1, rfl, H1, H2⟩
      have HB1 : Hid (Below w.heap.size w w1) := Below.on HB.out H2.out
      have HA1 := hid (HA.out.later H2.out)
      have HD1 : Hid (∀ g, (Value.slice a1 n1 c1).ownBlock = some g → ¬ RItL w.heap.size aA nA cA g) := fun g hg k => by
        have h1 := (H1.out.lt g hg).1
        have h2 := HA.out.its_lt k
        omega
      clear ENT g0
      go_wp2_with fail
      go_loopg [6] n1 (fun g s6 w2 => ∃ (j : Nat) (aA nA cA : _), j ≤ n1 ∧ g = n1 - j ∧ s6 = .int .i64 j ∧ Hid (Rl w2 w.heap.size aA nA cA (gathL Ms (E.take j) (allG Ms k))) ∧ Hid (∀ b, RItL w.heap.size aA nA cA b → w.heap.size ≤ b) ∧ Hid (∀ g, (Value.slice a1 n1 c1).ownBlock = some g → ¬ RItL w.heap.size aA nA cA g) ∧ Hid (OwnL wr.heap.size w2 (.slice a1 n1 c1) n1 E) ∧ Hid (Below w.heap.size w w2))
      case atStart => exact ⟨0, aA, nA, cA, by omega, by omega, rfl, hid (by simpa [gathL] using HA1.out), HI, HD1, H1, HB1⟩
      case round =>
        obtain ⟨j, aA, nA, cA, hjn, rfl, rfl, HA, HI, HD, HE, HB⟩ := hrel
        rename World => w2
        by_cases hjt : j < n1
        · obtain ⟨b, off, eb, hc⟩ := (own_row HE.out HEL.out) j (by rw [HEL.out]; exact hjt)
          have hj1 : (j : Int) < (n1 : Int) := by omega
          obtain ⟨x, hxe⟩ : ∃ x, x = nthE E j := ⟨_, rfl⟩
          have hxe' : (E[j]?).getD En.zero = x := hxe.symm
          rw [hxe'] at hc
          have HGT : Hid (Gath Ms (gathL Ms (E.take j) (allG Ms k))) := (gathL_ok (gath_all k) (fun y hy => HEE.out y (List.mem_of_mem_take hy))).1
          have hnA : nA ≤ 3518437208882 := by rw [← HA.out.len]; exact Nat.le_trans (gath_len HW.out HGT.out) hK
          obtain ⟨u, hu⟩ : ∃ u, difB Ms x = u := ⟨_, rfl⟩
          have hstep : gathL Ms (E.take (j + 1)) (allG Ms k) = stepA Ms (gathL Ms (E.take j) (allG Ms k)) x := by rw [nthE_take (by rw [HEL.out]; exact hjt), gathL_snoc, hxe]
          obtain ⟨A, hA⟩ : ∃ A, A = gathL Ms (E.take j) (allG Ms k) := ⟨_, rfl⟩
          rw [← hA] at HA hstep
          have HST := hid hstep
          have HUU := hid hu
          have DI : Hid (Calls Try.prog 96 #[.slice (some ⟨b0, off0, none⟩) n c, .agg #[.int .u32 x.id.1, .int .u32 x.id.2, .int .u32 x.home, .int .i64 x.oc, .int .u64 x.w, .int .u32 x.l, .int .u32 x.n]] w2 fun r w' => r = .returned (.bool u) ∧ Below w2.heap.size w2 w') := differs_is (by rw [show matsR D = Ms from HMS.out.symm]; exact hu) (RowC.later HR.out HB.out) HLN.out hl (fun d hd => (HL.out d hd).later HB.out)
          have hbE : (Value.slice a1 n1 c1).ownBlock = some b := by
            obtain ⟨g, eg, _⟩ := own_cells HE.out (by omega)
            rw [eg] at eb
            injection eb with eb
            injection eb with e1 _ _
            subst e1
            rw [eg]; rfl
          subst eb
          have g0 : w2.cell? ⟨b, off + j * 7, none⟩ = some (.int .u32 x.id.1) := hc 0 _ rfl
          have g1 : w2.cell? ⟨b, off + j * 7 + 1, none⟩ = some (.int .u32 x.id.2) := hc 1 _ rfl
          have g2 : w2.cell? ⟨b, off + j * 7 + 2, none⟩ = some (.int .u32 x.home) := hc 2 _ rfl
          have g3 : w2.cell? ⟨b, off + j * 7 + 3, none⟩ = some (.int .i64 x.oc) := hc 3 _ rfl
          have g4 : w2.cell? ⟨b, off + j * 7 + 4, none⟩ = some (.int .u64 x.w) := hc 4 _ rfl
          have g5 : w2.cell? ⟨b, off + j * 7 + 5, none⟩ = some (.int .u32 x.l) := hc 5 _ rfl
          have g6 : w2.cell? ⟨b, off + j * 7 + 6, none⟩ = some (.int .u32 x.n) := hc 6 _ rfl
          have HG : Hid (w2.cell? ⟨b, off + j * 7, none⟩ = some (.int .u32 x.id.1) ∧ w2.cell? ⟨b, off + j * 7 + 1, none⟩ = some (.int .u32 x.id.2) ∧ w2.cell? ⟨b, off + j * 7 + 2, none⟩ = some (.int .u32 x.home) ∧ w2.cell? ⟨b, off + j * 7 + 3, none⟩ = some (.int .i64 x.oc) ∧ w2.cell? ⟨b, off + j * 7 + 4, none⟩ = some (.int .u64 x.w) ∧ w2.cell? ⟨b, off + j * 7 + 5, none⟩ = some (.int .u32 x.l) ∧ w2.cell? ⟨b, off + j * 7 + 6, none⟩ = some (.int .u32 x.n)) := ⟨g0, g1, g2, g3, g4, g5, g6⟩
          have HBE := hid hbE
          clear hc hxe hxe' hu hstep hA hbE
          go_wp2_with fail
          refine DI.out.mono ?_
          rintro r w3 ⟨rfl, hb3⟩
          have HA3 := hid (HA.out.later hb3)
          have OUT := hid (routcome_is HA3.out x.id)
          have HB23 := hid hb3
          have g0 := cell_later hb3 g0
          have g1 := cell_later hb3 g1
          clear DI hb3 g2 g3 g4 g5 g6
          go_wp2_with fail
          refine OUT.out.mono ?_
          rintro r w4 ⟨f, ok, rfl, HO1, HO2, HO3⟩
          obtain ⟨w5, hw5⟩ : ∃ w5, w5 = w4.alloc (.cells #[.int .u32 f.id.1, .int .u32 f.id.2, .int .u32 f.home, .int .i64 f.oc, .int .u64 f.w, .int .u32 f.l, .int .u32 f.n] 33) := ⟨_, rfl⟩
          have hb5 : Below w4.heap.size w4 w5 := by rw [hw5]; exact Below.al (Below.refl _ _) _
          have HB25 : Hid (Below w2.heap.size w2 w5) := Below.on (Below.on HB23.out HO3.out) hb5
          have HA5 := hid (HA.out.later HB25.out)
          have HE5 : Hid (OwnL wr.heap.size w5 (.slice (some ⟨b, off, none⟩) n1 c1) n1 E) := owns_keep HE.out fun g hg => HB25.out.block g (HE.out.lt g hg).2
          have HB5 : Hid (Below w.heap.size w w5) := Below.on HB.out HB25.out
          have HG5 : Hid (w5.cell? ⟨b, off + j * 7, none⟩ = some (.int .u32 x.id.1) ∧ w5.cell? ⟨b, off + j * 7 + 1, none⟩ = some (.int .u32 x.id.2) ∧ w5.cell? ⟨b, off + j * 7 + 2, none⟩ = some (.int .u32 x.home) ∧ w5.cell? ⟨b, off + j * 7 + 3, none⟩ = some (.int .i64 x.oc) ∧ w5.cell? ⟨b, off + j * 7 + 4, none⟩ = some (.int .u64 x.w) ∧ w5.cell? ⟨b, off + j * 7 + 5, none⟩ = some (.int .u32 x.l) ∧ w5.cell? ⟨b, off + j * 7 + 6, none⟩ = some (.int .u32 x.n)) := by
            obtain ⟨g0, g1, g2, g3, g4, g5, g6⟩ := HG.out
            exact ⟨cell_later HB25.out g0, cell_later HB25.out g1, cell_later HB25.out g2, cell_later HB25.out g3, cell_later HB25.out g4, cell_later HB25.out g5, cell_later HB25.out g6⟩
          clear OUT hb5 g0 g1 HG
          have STEP : Hid (∀ (P : Prop), ((u && !ok) = false → (u = false ∨ u = true ∧ ok = true) → P) → (u = true → ok = false → P) → P) := fun P h1 h2 => by
            cases u with
            | false => exact h1 rfl (.inl rfl)
            | true =>
              cases ok with
              | true => exact h1 rfl (.inr ⟨rfl, rfl⟩)
              | false => exact h2 rfl rfl
          have hok : (outM A x.id).isNone = !ok := by rw [HO1.out]; cases outM A x.id <;> rfl
          have HOK := hid hok
          clear hok
          refine STEP.out _ (fun hno hcase => ?_) (fun hu1 hk0 => ?_)
          · have HN : Hid (gathL Ms (E.take (j + 1)) (allG Ms k) = A) := by
              show _ = _
              rw [HST.out, stepA, if_neg]
              rw [HUU.out, HOK.out, hno]; simp
            have HA6 : Hid (Rl w5 w.heap.size aA nA cA (gathL Ms (E.take (j + 1)) (allG Ms k))) := by rw [HN.out]; exact HA5
            clear hno
            rcases hcase with rfl | ⟨rfl, rfl⟩
            · go_wp2_with fail
              rw [← hw5]
              go_roundg (n1 - (j + 1))
              case measure => omega
              case rel => exact ⟨j + 1, aA, nA, cA, by omega, rfl, by go_num, HA6, HI, HD, HE5, HB5⟩
            · go_wp2_with fail
              rw [← hw5]
              go_roundg (n1 - (j + 1))
              case measure => omega
              case rel => exact ⟨j + 1, aA, nA, cA, by omega, rfl, by go_num, HA6, HI, HD, HE5, HB5⟩
          · subst hu1 hk0
            have HN : Hid (gathL Ms (E.take (j + 1)) (allG Ms k) = A ++ [x]) := by
              show _ = _
              rw [HST.out, stepA, if_pos]
              rw [HUU.out, HOK.out]; simp
            go_upto_region 12 with fail
            rw [← hw5]
            clear hw5
            have T5 := HA5.out
            have c0 := T5.c0
            obtain ⟨z0, z1, z2, z3, z4, z5, z6⟩ := HG5.out
            have hlt5 := T5.lt
            have HGq := hid T5.ne
            have HFZ := hid T5.loose
            have HN3 : Hid (nA + 1 ≤ maxLen) := by show _ ≤ _; unfold maxLen; omega
            have HN4 : Hid ((nA + 1) * 40 ≤ 140737488355328) := by show _ ≤ _; omega
            have HOW : Hid (∀ W, Below w5.heap.size w5 W → W.ownsRow 0 33 7 (.slice aA nA cA) nA (A.flatMap ecs)) := fun W hb => owns_keep HA5.out.own fun g hg => hb.block g (HA5.out.own.lt g hg).2
            clear T5
            go_region_law ((refine step_append_lies _ (by rfl) _ _ 22 (by rfl) 0 33 i0 (En.val En.zero) 7 40 Try.underlying22 hi hz0 hz1 hz2 rfl (by decide) (.slice aA nA cA) nA (A.flatMap ecs) (by simp [Act.eval]) (HOW.out _ (by (repeat (first | with_reducible exact Below.refl _ _ | with_reducible assumption | with_reducible refine Below.drew ?_ | with_reducible refine Below.al ?_ _ | with_reducible refine Below.setCell ?_ (by first | exact Nat.le_refl _ | (simp; omega) | (simp; done)) _ | with_reducible refine Below.on ?_ (by assumption))))) ⟨w5.heap.size, 0, none⟩ 1 1 (ecs x) (by simp [Act.eval]) rfl (by first | exact lit7 _ x | exact lit7d _ x) (ecs_one x) (by decide) HN3.out HN4.out (Nat.zero_le _) _ rfl ?_; intro g cap w6 hown hgrow hat hlt6; have hO4' : Onl (fun b => (Value.slice aA nA cA).ownBlock = some b) w5 w6 := (Onl.of_below (by (repeat (first | with_reducible exact Below.refl _ _ | with_reducible assumption | with_reducible refine Below.drew ?_ | with_reducible refine Below.al ?_ _ | with_reducible refine Below.setCell ?_ (by first | exact Nat.le_refl _ | (simp; omega) | (simp; done)) _ | with_reducible refine Below.on ?_ (by assumption))))).trans (grown_onl hgrow); have k4 := hO4'.cell HGq.out c0; have f4 : ∀ o, w6.frozen? ⟨w.heap.size, o, none⟩ = false := hO4'.loose HGq.out hlt5 HFZ.out; have HGR := hid hgrow; have HOWN := hid hown; have HAT := hid hat; have HO4 := hid hO4'; clear hown hgrow hat hO4'))
            all_goals (try go_wp2_with fail)
            all_goals
              obtain ⟨wE, hwE⟩ : ∃ wE, wE = w6.setCell ⟨w.heap.size, 0, none⟩ (.slice (some ⟨g, 0, none⟩) (nA + 1) cap) := ⟨_, rfl⟩
              have HRE : Hid (Rl wE w.heap.size (some ⟨g, 0, none⟩) (nA + 1) cap (A ++ [x])) := by rw [hwE]; exact rl_more HA5.out HO4.out HOWN.out
              have HIE : Hid (∀ b, RItL w.heap.size (some ⟨g, 0, none⟩) (nA + 1) cap b → RItL w.heap.size aA nA cA b ∨ w5.heap.size ≤ b) := fun b hb => rl_its hb HAT.out (by simp)
              have HOE : Hid (Onl (RItL w.heap.size aA nA cA) w5 wE) := by rw [hwE]; exact Onl.set (HO4.out.mono fun k hk => .inr hk) (.inl rfl) _ _
              rw [← hwE]
              clear c0 z0 z1 z2 z3 z4 z5 z6 hwE k4 f4
              have HA6 : Hid (Rl wE w.heap.size (some ⟨g, 0, none⟩) (nA + 1) cap (gathL Ms (E.take (j + 1)) (allG Ms k))) := by rw [HN.out]; exact HRE
              have hs5 : w.heap.size ≤ w5.heap.size := HB5.out.size
              have HI6 : Hid (∀ b, RItL w.heap.size (some ⟨g, 0, none⟩) (nA + 1) cap b → w.heap.size ≤ b) := fun b hb => by
                rcases HIE.out b hb with h | h
                · exact HI.out b h
                · omega
              have HD6 : Hid (∀ g', (Value.slice (some ⟨b, off, none⟩) n1 c1).ownBlock = some g' → ¬ RItL w.heap.size (some ⟨g, 0, none⟩) (nA + 1) cap g') := fun g' hg hi => by
                rcases HIE.out g' hi with h | h
                · exact HD.out g' hg h
                · have := (HE5.out.lt g' hg).2; omega
              have HE6 : Hid (OwnL wr.heap.size wE (.slice (some ⟨b, off, none⟩) n1 c1) n1 E) := owns_onl HE5.out HOE.out (fun g hg => HD.out g hg)
              have HB6 : Hid (Below w.heap.size w wE) := HB5.out.trans (HOE.out.below (fun i hi => HI.out i hi) HB5.out.size)
              go_roundg (n1 - (j + 1))
              case measure => omega
              case rel => exact ⟨j + 1, some ⟨g, 0, none⟩, nA + 1, cap, by omega, rfl, by go_num, HA6, HI6, HD6, HE6, HB6⟩
        · obtain rfl : j = n1 := by omega
          have HA6 : Hid (Rl w2 w.heap.size aA nA cA (allG Ms (k + 1))) := by
            have := HA.out
            rwa [show E.take j = E by rw [← HEL.out, List.take_length], HES.out] at this
          go_wp2_with fail
          go_roundg (n - (k + 1))
          case measure => omega
          case rel => exact ⟨k + 1, aA, nA, cA, by omega, rfl, by go_num, HA6, HI, HB⟩
    · obtain rfl : k = n := by omega
      have hMl : Ms.length = k := by rw [HMS.out, List.length_map, HLN.out]
      obtain ⟨A, hA⟩ : ∃ A, A = allG Ms k := ⟨_, rfl⟩
      have HGT : Hid (Gath Ms A) := by rw [hA]; exact gath_all k
      have HMEM : Hid (∀ t, t ∈ A.map En.id ↔ ∃ v, viewOf Ms t = some v ∧ v.df = true) := fun t => by
        rw [dif_view, hA, ← hMl]; exact allG_mem t HND.out
      rw [← hA] at HA
      have hnA : nA ≤ 3518437208882 := by rw [← HA.out.len]; exact Nat.le_trans (gath_len HW.out HGT.out) hK
      have ENT := hid (rentries_is HA.out hnA)
      have HFL : Hid ((srtL false A).length = nA) := by show _ = _; rw [(srt_perm false A).length_eq, HA.out.len]
      obtain ⟨F, hF⟩ : ∃ F, F = srtL false A := ⟨_, rfl⟩
      have HFP : Hid (F.Perm A ∧ F.Pairwise (fun x y => befB false y x = false)) := by rw [hF]; exact ⟨srt_perm false A, srt_sorted false A⟩
      rw [← hF] at ENT HFL
      clear hMl hA hF
      go_wp2_with fail
      refine ENT.out.mono ?_
      rintro r w1 ⟨a1, c1, rfl, H1, H2⟩
      have HB1 : Hid (Below w.heap.size w w1) := Below.on HB.out H2.out
      have HRF := hid (own_row H1.out HFL.out)
      clear ENT
      go_wp2_with fail
      go_loopg [10, 12] nA (fun g s10 s12 w2 => ∃ (j : Nat) (a' : Option Addr) (c' : Nat), j ≤ nA ∧ g = nA - j ∧ s12 = .int .i64 j ∧ s10 = .slice a' j c' ∧ Hid (OwnX w1.heap.size w2 (.slice a' j c') j ((F.take j).map En.id)) ∧ Hid (Below w1.heap.size w1 w2))
      case atStart => exact ⟨0, none, 0, by omega, by omega, rfl, rfl, ⟨rfl, .inl ⟨rfl, rfl⟩⟩, Below.refl _ _⟩
      case round =>
        obtain ⟨j, a', c', hjn, rfl, rfl, rfl, HX, HB2⟩ := hrel
        rename World => w2
        by_cases hjt : j < nA
        · obtain ⟨b, off, eb, hc⟩ := RowC.later HRF.out HB2.out j (by rw [HFL.out]; exact hjt)
          have hj1 : (j : Int) < (nA : Int) := by omega
          obtain ⟨x, hxe⟩ : ∃ x, x = nthE F j := ⟨_, rfl⟩
          have hxe' : (F[j]?).getD En.zero = x := hxe.symm
          rw [hxe'] at hc
          subst eb
          have g0 : w2.cell? ⟨b, off + j * 7, none⟩ = some (.int .u32 x.id.1) := hc 0 _ rfl
          have g1 : w2.cell? ⟨b, off + j * 7 + 1, none⟩ = some (.int .u32 x.id.2) := hc 1 _ rfl
          have hmap : (F.take (j + 1)).map En.id = (F.take j).map En.id ++ [x.id] := by rw [nthE_take (by rw [HFL.out]; exact hjt), List.map_append, hxe]; rfl
          have HMP := hid hmap
          obtain ⟨Y, hY⟩ : ∃ Y, Y = (F.take j).map En.id := ⟨_, rfl⟩
          rw [← hY] at HX HMP
          obtain ⟨w5, hw5⟩ : ∃ w5, w5 = w2.alloc (.cells #[.int .u32 x.id.1, .int .u32 x.id.2] 27) := ⟨_, rfl⟩
          have hb25 : Below w2.heap.size w2 w5 := by rw [hw5]; exact Below.al (Below.refl _ _) _
          have HO5 : Hid (OwnX w1.heap.size w5 (.slice a' j c') j Y) := owns_keep HX.out fun g hg => hb25.block g (HX.out.lt g hg).2
          have blk5 : w5.heap[w2.heap.size]? = some (.cells (tcs x.id).toArray 27) := by rw [hw5]; exact (MapKept.heap_alloc _ _).1
          have HCL : Hid (∀ i y, (tcs x.id)[i]? = some y → w5.cell? ((⟨w2.heap.size, 0, none⟩ : Addr).add i) = some y) := fun i y hj => by
            rw [Addr.add_lit, Nat.zero_add]
            exact cell_of_obj blk5 (by simpa using hj)
          have hs5 : w1.heap.size ≤ w5.heap.size := Nat.le_trans HB2.out.size hb25.size
          have HB15 : Hid (Below w1.heap.size w1 w5) := Below.on HB2.out hb25
          clear hc hxe hxe' hmap hY hb25 blk5
          go_wp2_with (at_builtin; refine wpList_append_own _ rfl _ _ 45 rfl w1.heap.size 27 i1 (ixv (0, 0)) 2 8 Try.underlying45 hj hy0 hy1 hy2 rfl (by decide) (.slice a' j c') j (Y.flatMap tcs) rfl (by rw [← hw5]; exact HO5.out) ⟨w2.heap.size, 0, none⟩ 1 1 (tcs x.id) rfl rfl (by rw [← hw5]; exact HCL.out) (tcs_one x.id) (by unfold maxLen; omega) (by omega) (by rw [← hw5]; exact hs5) ?_)
          intro v2 w6 hown hgrow hnil
          rw [← hw5] at hgrow
          obtain ⟨a2, c2, rfl⟩ := owns_slice hown
          have HB6 : Hid (Below w1.heap.size w1 w6) := Below.grown HB15.out hgrow (by exact hs5) (fun k hk => (HO5.out.lt k hk).1)
          have HX6 : Hid (OwnX w1.heap.size w6 (.slice a2 (j + 1) c2) (j + 1) ((F.take (j + 1)).map En.id)) := by
            rw [HMP.out]
            refine hid ?_
            unfold OwnX
            rw [List.flatMap_append]
            simpa using hown
          clear hown hgrow hnil hw5
          go_wp2_with fail
          go_roundg (nA - (j + 1))
          case measure => omega
          case rel => exact ⟨j + 1, a2, c2, by omega, rfl, by go_num, rfl, HX6, HB6⟩
        · obtain rfl : j = nA := by omega
          have ek : F.take j = F := by rw [← HFL.out, List.take_length]
          rw [ek] at HX
          have HFin : Hid ((F.map En.id).length = j) ∧ Hid (OwnX w.heap.size w2 (.slice a' j c') j (F.map En.id)) ∧ Hid ((F.map En.id).Pairwise (fun x y => ltI x y = true)) ∧ Hid (∀ t, t ∈ F.map En.id ↔ ∃ v, viewOf Ms t = some v ∧ v.df = true) ∧ Hid (Below w.heap.size w w2) := by
            refine ⟨hid (by rw [List.length_map]; exact HFL.out), owns_base HX.out HB1.out.size, hid ?_, fun t => ?_, Below.on HB1.out HB2.out⟩
            · refine rise_strict ((HFP.out.1.map En.id).nodup_iff.2 HGT.out.nd) ?_
              rw [List.pairwise_map]
              exact HFP.out.2
            · rw [(HFP.out.1.map En.id).mem_iff]; exact HMEM.out t
          clear ek
          go_wp2_with fail
          go_ret
          exact ⟨a', j, c', _, rfl, HFin⟩
end Go.Proofs.Ytogjhpknlopajaa.Lg
