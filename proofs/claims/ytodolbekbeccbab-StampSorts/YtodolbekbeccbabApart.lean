import Derived.Test.YtodolbekbeccbabApartPlain
import Derived.Test.YtodolbekbeccbabEqs
import Derived.Test.YtodolbekbeccbabSpared
namespace Go.Proofs.Ytodolbekbeccbab
open Go.RowKit Go.Sort
set_option linter.unusedVariables false

set_option maxHeartbeats 8000000 in
theorem apart_any (B L m c : Nat) (gs ns : Nat → Nat) (fs : Nat → Nat → St) (w : World) (hLi : Lies w L m gs ns) (hF : Fulls w m gs ns fs) (hinj : ∀ i j, i < m → j < m → gs i = gs j → i = j) (hgL : ∀ i, i < m → L ≠ gs i)
    (hBg : ∀ i, i < m → B ≤ gs i) (hB : B ≤ w.heap.size) (hns : ∀ i, i < m → (ns i + 70) * 16 ≤ 140737488355328) (hm : m ≤ 1000) :
    Calls Try.prog 17 #[.slice (some ⟨L, 0, none⟩) m c] w fun e w' => e = .returned (.bool true) ∧ Below B w w' := by
  have HLi := hid hLi
  have HF := hid hF
  have Hinj := hid hinj
  have HgL := hid hgL
  have HBg := hid hBg
  have Hns := hid hns
  clear hLi hF hinj hgL hBg hns
  go_enter Try.func17, Try.ntmps17
  go_wp2_with fail
  go_loopg [3] m (fun g s3 wr => ∃ (k : Nat) (fr : Nat → Nat → St), k ≤ m ∧ g = m - k ∧ s3 = .int .i64 k ∧ (∀ i j, i < k → j < ns i → fr i j = sgn i j) ∧ Fulls wr m gs ns fr ∧ Lies wr L m gs ns ∧ Below B w wr)
  case atStart => exact ⟨0, fs, by omega, by omega, rfl, fun i j h => by omega, HF.out, HLi.out, Below.refl _ _⟩
  case round =>
    obtain ⟨k, fr, hk, rfl, rfl, hfr, hF, hLi, hb⟩ := hrel
    by_cases hlt : k < m
    · have cL := hLi k hlt
      have hn := Hns.out k hlt
      obtain ⟨gk, hgk⟩ : ∃ gk, gk = gs k := ⟨_, rfl⟩
      obtain ⟨n, hnk⟩ : ∃ n, n = ns k := ⟨_, rfl⟩
      rw [← hgk, ← hnk] at cL
      rw [← hnk] at hn
      have Hgk := hid hgk
      have Hnk := hid hnk
      have Hfr := hid hfr
      have HF1 := hid hF
      have HL1 := hid hLi
      clear hgk hnk hfr hF hLi
      go_wp2_with fail
      go_loopg [4] n (fun g s4 wi => ∃ (j : Nat) (fi : Nat → Nat → St), j ≤ n ∧ g = n - j ∧ s4 = .int .i64 j ∧ (∀ i j', i < k → j' < ns i → fi i j' = sgn i j') ∧ (∀ j', j' < j → fi k j' = sgn k j') ∧ Fulls wi m gs ns fi ∧ Lies wi L m gs ns ∧ Below B w wi)
      case atStart => exact ⟨0, fr, by omega, by omega, rfl, Hfr.out, fun j' h => by omega, HF1.out, HL1.out, hb⟩
      case round =>
        clear Hfr HF1 HL1 hb cL
        obtain ⟨j, fi, hj, rfl, rfl, hfi, hfk, hF, hLi, hb⟩ := hrel
        have cL := hLi k hlt
        rw [← Hgk.out, ← Hnk.out] at cL
        by_cases hjn : j < n
        · have hkm : k < m := hlt
          have hrow := row_of_owns_at (hF.row hkm (by have := Hns.out k hkm; unfold maxLen; omega))
          obtain ⟨c0, c1, c2⟩ := hrow.of_tab (by rw [← Hnk.out]; exact hjn)
          have fz : ∀ o, wr.frozen? ⟨gs k, o, none⟩ = false := fun o => (hF.row hkm (by have := Hns.out k hkm; unfold maxLen; omega)).frozenAt o
          rw [← Hgk.out] at c0 c1 c2 fz
          generalize fi k j = y at c0 c1 c2
          have hgl : gk < wr.heap.size := World.block_lt_of_cell? _ _ c0
          have hLl : L < wr.heap.size := World.block_lt_of_cell? _ _ cL
          obtain ⟨s, hs⟩ : ∃ s, s = sgn k j := ⟨_, rfl⟩
          have Hs := hid hs
          have sgn1 : Hid (∀ W, Calls Try.prog 26 #[.int .i64 k, .int .i64 j] W fun e w' => e = .returned (stv s.w s.l s.n) ∧ Below W.heap.size W w') := fun W => by rw [hs]; exact sign_any k j W
          have Hfi := hid hfi
          have Hfk := hid hfk
          have HF1 := hid hF
          have HL1 := hid hLi
          clear hfi hfk hF hLi hrow hs
          go_wp2_with fail
          have hLg : L ≠ gk := by rw [Hgk.out]; exact HgL.out k hkm
          go_region_held3 (fun w' => w'.cell? ⟨L, k, none⟩ = some (.slice (some ⟨gk, 0, none⟩) n n))
            (first | exact cell_later (Below.drew (Below.refl _ _)) cL | assumption | exact (put3_cell _ gk j s ⟨L, k, none⟩ hLg).trans (by assumption))
            (first | (go_at_call 26; refine (sgn1.out _).mono ?_; rintro e w1 ⟨rfl, hb1⟩; have hB1 : Below wr.heap.size wr w1 := (by refine Below.on ?_ hb1; repeat (first | exact Below.refl _ _ | refine Below.drew ?_ | refine Below.al ?_ _)); have dL := cell_later hB1 cL; have d0 := cell_later hB1 c0; have d1 := cell_later hB1 c1; have d2 := cell_later hB1 c2; have fz1 := Loose.later fz hB1 hgl; unfold Loose at fz1))
          all_goals (try go_wp2_with fail)
          go_roundg (n - (j + 1))
          case measure => omega
          case rel =>
            have hgm : ns k ≤ maxLen := by have := Hns.out k hkm; unfold maxLen; omega
            have HP := put_all (fs' := fun i' j' => if i' = k ∧ j' = j then s else fi i' j') hB1 hb HF1.out HL1.out Hinj.out hkm (HgL.out k hkm) hgm (HBg.out k hkm) (by rw [← Hnk.out]; exact hjn) s (by simp) (fun i' j' h => if_neg h)
            rw [← Hgk.out] at HP
            refine ⟨j + 1, _, by omega, rfl, by go_num, fun i j' hi hj' => ?_, fun j' hj' => ?_, HP.1, HP.2.1, HP.2.2⟩
            · show (if _ then _ else _) = _
              rw [if_neg (by omega)]; exact Hfi.out i j' hi hj'
            · show (if _ then _ else _) = _
              by_cases e : j' = j
              · rw [if_pos ⟨rfl, e⟩, e]; exact Hs.out
              · rw [if_neg (fun h => e h.2)]; exact Hfk.out j' (by omega)
        · obtain rfl : j = n := by omega
          have hfj : Hid (∀ i j', i < k + 1 → j' < ns i → fi i j' = sgn i j') := fun i j' hi hj' => by
            by_cases e : i = k
            · subst e; exact hfk j' (by rw [Hnk.out]; exact hj')
            · exact hfi i j' (by omega) hj'
          have HF1 := hid hF
          have HL1 := hid hLi
          clear hfi hfk hF hLi
          go_wp2_with fail
          go_roundg (m - (k + 1))
          case measure => omega
          case rel => exact ⟨k + 1, fi, by omega, rfl, by go_num, hfj.out, HF1.out, HL1.out, hb⟩
    · obtain rfl : m = k := by omega
      have hF2 : Fulls wr m gs ns (fun i j => sgn i j) := fun i hi => by
        rw [hF i hi, tab_congr (fun j hj => hfr i j hi hj)]
      obtain ⟨W2, rfl⟩ : ∃ W2, W2 = wr := ⟨_, rfl⟩
      have HF2 := hid hF2
      have HL2 := hid hLi
      clear hfr hF hF2 hLi hlt hk HF HLi
      go_wp2_with fail
      go_loopg [5, 6] m (fun g s5 s6 wr => ∃ (k : Nat) (vs : List Value), k ≤ m ∧ g = m - k ∧ s6 = .int .i64 k ∧ wr.ownsRow W2.heap.size 31 1 s5 k vs ∧ (∀ i, i < k → ∃ v, vs[i]? = some v ∧ wr.ownsRow W2.heap.size 25 3 v (ns i + 70) (flat (tab (ns i + 70) fun j => sgn i j))) ∧ Below W2.heap.size W2 wr)
      case atStart => exact ⟨0, [], by omega, by omega, rfl, World.ownsRow_nil _ _ _ _, fun i hi => by omega, Below.refl _ _⟩
      case round =>
        obtain ⟨k, vs, hk, rfl, rfl, hown, hvs, hbr⟩ := hrel
        by_cases hlt : k < m
        · have cL := HL2.out.later hbr k hlt
          have hn := Hns.out k hlt
          have hrk := row_of_owns_at ((HF2.out.later hbr).row hlt (by have := hn; unfold maxLen; omega))
          obtain ⟨gk, hgk⟩ : ∃ gk, gk = gs k := ⟨_, rfl⟩
          obtain ⟨n, hnk⟩ : ∃ n, n = ns k := ⟨_, rfl⟩
          rw [← hgk, ← hnk] at cL hrk
          rw [← hnk] at hn
          obtain ⟨W3, rfl⟩ : ∃ W3, W3 = wr := ⟨_, rfl⟩
          have Hnk := hid hnk
          have HRK := hid hrk
          have HOWN := hid hown
          have HVS := hid hvs
          clear hgk hnk hown hvs hrk
          go_wp2_with fail
          go_loopg [7, 8] 70 (fun g s7 s8 wi => ∃ j : Nat, j ≤ 70 ∧ g = 70 - j ∧ s8 = .int .i64 j ∧ ((j = 0 ∧ s7 = .slice (some ⟨gk, 0, none⟩) n n) ∨ wi.ownsRow W3.heap.size 25 3 s7 (n + j) (flat (tab (n + j) fun j => sgn k j))) ∧ Below W3.heap.size W3 wi)
          case atStart => exact ⟨0, by omega, by omega, rfl, .inl ⟨rfl, rfl⟩, Below.refl _ _⟩
          case round =>
            obtain ⟨j, hj, rfl, rfl, hx, hbi⟩ := hrel
            by_cases hjn : j < 70
            · obtain ⟨s, hs⟩ : ∃ s, s = sgn k ((n : Int) + (j : Int)) := ⟨_, rfl⟩
              have Hs := hid hs
              have sgn1 : Hid (∀ W, Calls Try.prog 26 #[.int .i64 k, .int .i64 ((n : Int) + (j : Int))] W fun e w' => e = .returned (stv s.w s.l s.n) ∧ Below W.heap.size W w') := fun W => by rw [hs]; exact sign_any _ _ W
              have HX := hid (either_of hx HRK.out hbi)
              have cL := cell_later hbi cL
              have hsz : W3.heap.size ≤ wr.heap.size := hbi.size
              have Hbi := hid hbi
              clear hs hx hbi
              go_wp2_with (first
                | (go_at_call 26; refine (sgn1.out _).mono ?_; rintro e w1 ⟨rfl, hb1⟩)
                | (at_builtin; refine wpList_append_either rfl _ _ rfl W3.heap.size (n + j) _ (tab (n + j) fun j => sgn k j) s rfl (tab_length _ _) ?hx ⟨w1.heap.size, 0, none⟩ rfl ?hc ?hb ?b2 ?_)
                | go_in)
              case hx => exact either_later (Below.on hb1 (Below.al (Below.refl _ _) _)) HX.out
              case hc =>
                intro j u hj
                match j, hj with
                | 0, hj => simp [St.cs] at hj; subst hj; simp [go_sem]
                | 1, hj => simp [St.cs] at hj; subst hj; simp [go_sem]
                | 2, hj => simp [St.cs] at hj; subst hj; simp [go_sem]
              case hb => have := hb1.size; simp; omega
              case b2 => omega
              · intro v' w2 ho hb2
                have hbn : Below W3.heap.size W3 w2 := (Below.on (Below.on Hbi.out hb1) (Below.al (Below.refl _ _) _)).trans hb2
                have ho' : w2.ownsRow W3.heap.size 25 3 v' (n + (j + 1)) (flat (tab (n + (j + 1)) fun j => sgn k j)) := by
                  rw [← Nat.add_assoc, tab_succ]
                  rw [Hs.out] at ho; exact ho
                have HO := hid ho'
                clear ho ho' hb2 hb1 HX Hbi
                go_wp2_with fail
                go_roundg (70 - (j + 1))
                case measure => omega
                case rel => exact ⟨j + 1, by omega, rfl, by go_num, .inr HO.out, hbn⟩
            · obtain rfl : j = 70 := by omega
              rcases hx with ⟨h70, _⟩ | hown7
              · omega
              obtain ⟨_, ⟨_, h0⟩ | ⟨h7, cap7, cur7, rfl, _, _, _⟩⟩ := id hown7
              · omega
              have HO7 := hid (Joins.ownsRow_le hown7 hbr.size)
              have HL : Hid (wr.ownsRow W2.heap.size 31 1 _ k vs) := owns_later HOWN.out hbi
              have HV : Hid (∀ i, i < k → ∃ v, vs[i]? = some v ∧ wr.ownsRow W2.heap.size 25 3 v (ns i + 70) (flat (tab (ns i + 70) fun j => sgn i j))) := fun i hi => by
                obtain ⟨v, h1, h2⟩ := HVS.out i hi
                exact ⟨v, h1, owns_later h2 hbi⟩
              have hbw := Below.on hbr hbi
              have hsz : W2.heap.size ≤ wr.heap.size := hbw.size
              have Hbw := hid hbw
              obtain ⟨i1, hi1, hy0, hy1, hy2⟩ := info_parts Try.infoSts
              clear hown7 hbi hbw cL HOWN HVS HRK
              go_wp2_with (first
                | (at_builtin; refine wpList_append_own _ rfl _ _ 37 rfl W2.heap.size 31 i1 (.slice none 0 0) 1 24 Try.underlying37 hi1 hy0 hy1 hy2 rfl (by decide) _ _ vs rfl (HL.out.alloc _) ⟨wr.heap.size, 0, none⟩ 1 1 [.slice (some ⟨h7, 0, none⟩) (n + 70) cap7] rfl rfl ?c1 ?c2 ?c3 ?c4 ?c5 ?_)
                | go_in)
              case c1 =>
                intro j u hj
                match j, hj with
                | 0, hj => simp at hj; subst hj; simp [go_sem]
              case c2 => intro u hu; simp at hu; subst hu; rfl
              case c3 => unfold maxLen; omega
              case c4 => omega
              case c5 => simp; omega
              · intro v' w3 ho3 hgr3 _
                obtain ⟨wa, hwa⟩ : ∃ wa, wa = wr.alloc (.cells #[.slice (some ⟨h7, 0, none⟩) (n + 70) cap7] 31) := ⟨_, rfl⟩
                have hba : Below wr.heap.size wr wa := by rw [hwa]; exact Below.al (Below.refl _ _) _
                have hLa := owns_later HL.out hba
                have hgr := hgr3
                rw [← hwa] at hgr
                have hV3 : ∀ i, i < k → ∃ v, vs[i]? = some v ∧ w3.ownsRow W2.heap.size 25 3 v (ns i + 70) (flat (tab (ns i + 70) fun j => sgn i j)) := fun i hi => by
                  obtain ⟨v, h1, h2⟩ := HV.out i hi
                  exact ⟨v, h1, (owns_later h2 hba).kept hgr (own_apart (owns_later h2 hba) hLa (by decide))⟩
                have hO3 : w3.ownsRow W2.heap.size 25 3 (.slice (some ⟨h7, 0, none⟩) (n + 70) cap7) (n + 70) (flat (tab (n + 70) fun j => sgn k j)) := (owns_later HO7.out hba).kept hgr (own_apart (owns_later HO7.out hba) hLa (by decide))
                have hb3 : Below W2.heap.size W2 w3 := Below.grown (Below.on Hbw.out hba) hgr (Nat.le_trans hsz hba.size) (fun g hg => (hLa.lt g hg).1)
                have hvl : vs.length = k := by have := HL.out.1; omega
                have HV3 : Hid (∀ i, i < k + 1 → ∃ v, (vs ++ [.slice (some ⟨h7, 0, none⟩) (n + 70) cap7])[i]? = some v ∧ w3.ownsRow W2.heap.size 25 3 v (ns i + 70) (flat (tab (ns i + 70) fun j => sgn i j))) := fun i hi => by
                  by_cases e : i = k
                  · subst e
                    refine ⟨.slice (some ⟨h7, 0, none⟩) (n + 70) cap7, by rw [List.getElem?_append_right (by omega), hvl]; simp, ?_⟩
                    rw [← Hnk.out]; exact hO3
                  · obtain ⟨v, h1, h2⟩ := hV3 i (by omega)
                    exact ⟨v, by rw [List.getElem?_append_left (by omega)]; exact h1, h2⟩
                have HO3 := hid ho3
                clear ho3 hgr3 hwa hba hLa hgr hV3 hO3 HV HL HO7 Hbw hvl
                go_wp2_with fail
                go_roundg (m - (k + 1))
                case measure => omega
                case rel => exact ⟨k + 1, _, by omega, rfl, by go_num, HO3.out, HV3.out, hb3⟩
        · obtain rfl : m = k := by omega
          obtain ⟨W4, rfl⟩ : ∃ W4, W4 = wr := ⟨_, rfl⟩
          have HF4 := hid (HF2.out.later hbr)
          have HL4 := hid (HL2.out.later hbr)
          have HOWN := hid hown
          have HVS := hid hvs
          have HB4 := hid (hb.trans (hbr.mono (Nat.le_trans hB hb.size)))
          clear HF2 HL2 hbr hb hown hvs hlt hk HgL HBg Hinj
          go_wp2_with fail
          go_loopg [9] m (fun g s9 wr => ∃ k : Nat, k ≤ m ∧ g = m - k ∧ s9 = .int .i64 k ∧ Below W4.heap.size W4 wr)
          case atStart => exact ⟨0, by omega, by omega, rfl, Below.refl _ _⟩
          case round =>
            obtain ⟨k, hk, rfl, rfl, hb⟩ := hrel
            by_cases hlt : k < m
            · have hn := Hns.out k hlt
              obtain ⟨vk, hv1, hv2⟩ := HVS.out k hlt
              obtain ⟨_, ⟨_, h0⟩ | ⟨h7, cap7, cur7, rfl, _, _, _⟩⟩ := id hv2
              · omega
              have hown5 := owns_later HOWN.out hb
              obtain ⟨_, ⟨_, h0⟩ | ⟨h5, cap5, cur5, rfl, _, _, _⟩⟩ := id hown5
              · omega
              have cL := HL4.out.later hb k hlt
              have c5 : wr.cell? ⟨h5, k, none⟩ = some (.slice (some ⟨h7, 0, none⟩) (ns k + 70) cap7) := (hown5.cellAt k (by omega)).trans hv1
              have hr7 := row_of_owns_at (owns_later hv2 hb)
              have hrk := row_of_owns_at ((HF4.out.later hb).row hlt (by unfold maxLen; omega))
              obtain ⟨gk, hgk⟩ : ∃ gk, gk = gs k := ⟨_, rfl⟩
              obtain ⟨n, hnk⟩ : ∃ n, n = ns k := ⟨_, rfl⟩
              rw [← hgk, ← hnk] at cL hrk
              rw [← hnk] at hn hr7 c5 hv2
              obtain ⟨W5, rfl⟩ : ∃ W5, W5 = wr := ⟨_, rfl⟩
              have HR7 := hid hr7
              have HRK := hid hrk
              clear hgk hnk hr7 hrk hv1 hv2 hown5
              go_wp2_with fail
              go_loopg [10] (n + 70) (fun g s10 wi => ∃ j : Nat, j ≤ n + 70 ∧ g = n + 70 - j ∧ s10 = .int .i64 j ∧ Below W5.heap.size W5 wi)
              case atStart => exact ⟨0, by omega, by omega, rfl, Below.refl _ _⟩
              case round =>
                obtain ⟨j, hj, rfl, rfl, hbi⟩ := hrel
                have cL := cell_later hbi cL
                have c5 := cell_later hbi c5
                have Hbi := hid hbi
                by_cases hjm : j < n + 70
                · obtain ⟨q0, q1, q2⟩ := (HR7.out.later hbi).of_tab hjm
                  obtain ⟨s, hs⟩ : ∃ s, s = sgn k j := ⟨_, rfl⟩
                  have sgn1 : Hid (∀ W, Calls Try.prog 26 #[.int .i64 k, .int .i64 j] W fun e w' => e = .returned (stv s.w s.l s.n) ∧ Below W.heap.size W w') := fun W => by rw [hs]; exact sign_any _ _ W
                  have eqm : ∀ w, (binOp .neq 25 (stv s.w s.l s.n) (stv s.w s.l s.n)).run Try.prog w = .ok (.bool false) w := fun w => by rw [run_ne, sameB_self]; rfl
                  rw [← hs] at q0 q1 q2
                  have Hs := hid hs
                  have kL := cell_regrown cL; have k5 := cell_regrown c5
                  have k0 := cell_regrown q0; have k1 := cell_regrown q1; have k2 := cell_regrown q2
                  have hjmd : decide ((j : Int) < (n : Int) + 70) = true := by simp; omega
                  by_cases hjn : j < n
                  · obtain ⟨r0, r1, r2⟩ := (HRK.out.later hbi).of_tab hjn
                    rw [← hs] at r0 r1 r2
                    have l0 := cell_regrown r0; have l1 := cell_regrown r1; have l2 := cell_regrown r2
                    have hjd : decide ((j : Int) < (n : Int)) = true := by simp; omega
                    clear hs hbi
                    go_wp2_with fail
                    refine wp_region_quiet_below (by kernel_rfl) (by kernel_rfl) ?_
                    repeat (go_big_quiet_step ((go_at_call 26; exact Calls.regrown_of (sgn1.out _))))
                    refine wpQuiet_nil ?_
                    intro w1 hw
                    replace hw := below_of_regrown hw
                    clear kL k5 k0 k1 k2 l0 l1 l2 q0 q1 q2 r0 r1 r2 cL c5
                    go_wp2_with fail
                    go_roundg (n + 70 - (j + 1))
                    case measure => omega
                    case rel => exact ⟨j + 1, by omega, rfl, by go_num, Below.on Hbi.out hw⟩
                  · have hjd : decide ((j : Int) < (n : Int)) = false := by simp; omega
                    clear hs hbi
                    go_wp2_with fail
                    refine wp_region_quiet_below (by kernel_rfl) (by kernel_rfl) ?_
                    repeat (go_big_quiet_step ((go_at_call 26; exact Calls.regrown_of (sgn1.out _))))
                    refine wpQuiet_nil ?_
                    intro w1 hw
                    replace hw := below_of_regrown hw
                    clear kL k5 k0 k1 k2 q0 q1 q2 cL c5
                    go_wp2_with fail
                    go_roundg (n + 70 - (j + 1))
                    case measure => omega
                    case rel => exact ⟨j + 1, by omega, rfl, by go_num, Below.on Hbi.out hw⟩
                · obtain rfl : j = n + 70 := by omega
                  go_wp2_with fail
                  go_roundg (m - (k + 1))
                  case measure => omega
                  case rel => exact ⟨k + 1, by omega, rfl, by go_num, Below.on hb Hbi.out⟩
            · obtain rfl : m = k := by omega
              go_wp2_with fail
              go_ret
              exact ⟨rfl, HB4.out.trans (hb.mono (Nat.le_trans hB HB4.out.size))⟩

end Go.Proofs.Ytodolbekbeccbab
