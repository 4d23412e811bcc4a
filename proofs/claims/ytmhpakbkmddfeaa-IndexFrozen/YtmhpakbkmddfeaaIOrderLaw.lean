import Derived.Test.YtmhpakbkmddfeaaIMany
import Derived.Test.YtmhpakbkmddfeaaILast
import Derived.Test.YtmhpakbkmddfeaaIKeysT
namespace Go.Proofs.Ytmhpakbkmddfeaa
open Go.RowKit Go.Sort Go.Shelf
set_option linter.unusedVariables false

/-- a call that changes the index leaves what lay ahead of it -/
theorem Onl.on_below {p : Nat} {a w w' : World} (h : Below a.heap.size a w) (ho : Onl (fun b => b = p) w w') (hp : a.heap.size ≤ p) : Below a.heap.size a w' :=
  h.trans (ho.below (fun k hk => by omega) h.size)
theorem gotX_some {o : Option Int} {u : Int} (h : o = some u) : gotX o = .tuple #[.int .i64 u, .bool true] := by rw [h]; rfl
theorem gotX_none {o : Option Int} (h : o = none) : gotX o = .tuple #[.int .i64 0, .bool false] := by rw [h]; rfl

theorem ks_there {l : List Ao} {j : Nat} (hj : j < (ks (ixL (chs l))).length) : ∃ u, getL (chs l) (nthT (ks (ixL (chs l))) j) = some u := by
  have hm : nthT (ks (ixL (chs l))) j ∈ ks (ixL (chs l)) := by rw [nthT, List.getElem?_eq_getElem hj]; exact List.getElem_mem hj
  obtain ⟨⟨k, v⟩, hkv, hk⟩ := List.mem_map.1 hm
  exact ⟨v, by rw [← hk]; exact (ixL_mem _ _ _).1 hkv⟩
theorem ks_rising {m : List En} (hr : Rising m) {j : Nat} (hj : j + 1 < (ks m).length) : lt (nthT (ks m) j) (nthT (ks m) (j + 1)) = true := by
  have hl : (ks m).length = m.length := List.length_map _
  have h1 : j < m.length := by omega
  have h2 : j + 1 < m.length := by omega
  have := List.pairwise_iff_getElem.1 hr j (j + 1) h1 h2 (by omega)
  have e1 : nthT (ks m) j = (m[j]).1 := by rw [nthT, List.getElem?_map, List.getElem?_eq_getElem h1]; rfl
  have e2 : nthT (ks m) (j + 1) = (m[j + 1]).1 := by rw [nthT, List.getElem?_map, List.getElem?_eq_getElem h2]; rfl
  rw [e1, e2]; exact this

set_option maxRecDepth 16000 in
set_option maxHeartbeats 8000000 in
theorem order_law {W : World} {a : Option Addr} {c : Nat} {l : List Ao} (h : RowO W a l) (hl : (l.length + 2) * 64 ≤ 140737488355328) (hc : l.length ≤ c) :
    Calls Try.prog 3 #[.slice a l.length c] W fun e w' => e = .returned (.bool true) ∧ Below W.heap.size W w' := by
  have HR := hid h
  clear h
  have LA : Hid (∀ w (key : ByteArray), Below W.heap.size W w → Calls Try.prog 13 #[.slice a l.length c, .string key] w fun e w' => e = .returned (gotX (getL (chs l) key)) ∧ w' = w) := fun w key hb => last_is (HR.out.later hb) (by omega) key
  obtain ⟨p, hp⟩ : ∃ p, p = W.heap.size := ⟨_, rfl⟩
  have NE : Hid (Calls Try.prog 9 #[] W fun e w' => e = .returned (.pointer (some ⟨p, 0, none⟩)) ∧ Hid (Xi w' p []) ∧ Hid (Below W.heap.size W w')) := by rw [hp]; exact new_is W
  have HP := hid hp
  clear hp
  go_enter Try.func3, Try.ntmps3
  go_wp2_with (go_at_call 9; refine NE.out.mono ?_; rintro e w1 ⟨rfl, hx0, hb0⟩)
  go_loopg [24] l.length (fun g s24 wr => ∃ i : Nat, i ≤ l.length ∧ g = l.length - i ∧ s24 = .int .i64 i ∧ Hid (Xi wr p (ixL (chs (l.take i)))) ∧ Hid (Below W.heap.size W wr))
  case atStart => exact ⟨0, by omega, by omega, rfl, hx0, hb0⟩
  case round =>
    obtain ⟨i, hi, rfl, rfl, HX, HB⟩ := hrel
    clear hx0 hb0 NE
    have hlen : (ixL (chs (l.take i))).length + 1 ≤ l.length + 1 := by
      have h1 := ixL_len (chs (l.take i)); have h2 := chs_len (l.take i); have h3 := List.length_take_le i l
      omega
    by_cases hlt : i < l.length
    · obtain ⟨b, off, rfl, d0, d1, d2, d3, d4, d5⟩ := HR.out i hlt
      have HT : Hid (l.take (i + 1) = l.take i ++ [nthO l i]) := nthO_take hlt
      obtain ⟨x, hx⟩ : ∃ x, x = nthO l i := ⟨_, rfl⟩
      rw [← hx] at d0 d2 d4 HT
      clear hx d1 d3 d5
      have e0 := cell_later HB.out d0
      have e2 := cell_later HB.out d2
      have e4 := cell_later HB.out d4
      by_cases h2 : x.k = 2
      · have SE : Hid (∀ w, Below wr.heap.size wr w → Calls Try.prog 10 #[.pointer (some ⟨p, 0, none⟩), .string x.key, .int .i64 x.v] w fun e w' => ∃ u : Bool, e = .returned (.bool u) ∧ Hid (Xi w' p (ixL (chs (l.take (i + 1))))) ∧ Below W.heap.size W w') := fun w hb =>
          (set_is (HX.out.later hb) x.key x.v (by omega)).mono fun e w' ⟨he, hx', ho⟩ => ⟨_, he, by show Xi _ _ _; rw [HT.out, ixL_chs_snoc, if_pos h2]; exact hx', Onl.on_below (Below.on HB.out hb) ho (by have := HP.out; omega)⟩
        rw [h2] at d0 e0
        have hB0 := HB.out
        clear h2 hlen
        go_wp2_with fail
        go_region_held3 (fun w' => w'.cell? ⟨b, off + i * 6 + 2, none⟩ = some (.string x.key) ∧ w'.cell? ⟨b, off + i * 6 + 4, none⟩ = some (.int .i64 x.v) ∧ Below W.heap.size W w')
          ((refine (fun (hB : Below W.heap.size W _) => ⟨cell_later hB d2, cell_later hB d4, hB⟩) ?_; (repeat (first | exact Below.refl _ _ | assumption | refine Below.drew ?_ | refine Below.al ?_ _ | refine Below.setCell ?_ (by first | exact Nat.le_refl _ | (simp; omega) | (simp; done)) _ | refine Below.on ?_ (by assumption)))))
          (first | (go_at_call 10; refine (SE.out _ ?_).mono ?_; ((repeat (first | exact Below.refl _ _ | assumption | refine Below.drew ?_ | refine Below.al ?_ _ | refine Below.setCell ?_ (by first | exact Nat.le_refl _ | (simp; omega) | (simp; done)) _ | refine Below.on ?_ (by assumption)))); rintro e w2 ⟨u, rfl, hx2, hb2⟩; have e0' := cell_later hb2 d0))
        go_wp2_with fail
        go_roundg (l.length - (i + 1))
        case measure => omega
        case rel => exact ⟨i + 1, by omega, rfl, by go_num, hx2, hb2⟩
      · have p2 : (x.k == 2) = false := by simpa using h2
        by_cases h4 : x.k = 4
        · have DE : Hid (Calls Try.prog 11 #[.pointer (some ⟨p, 0, none⟩), .string x.key] wr fun e w' => ∃ u : Bool, e = .returned (.bool u) ∧ Hid (Xi w' p (ixL (chs (l.take (i + 1))))) ∧ Hid (Below W.heap.size W w')) :=
            (del_is HX.out x.key (by omega)).mono fun e w' ⟨he, hx', ho⟩ => ⟨_, he, by show Xi _ _ _; rw [HT.out, ixL_chs_snoc, if_neg h2, if_pos h4]; exact hx', Onl.on_below HB.out ho (by have := HP.out; omega)⟩
          rw [h4] at e0
          clear h2 h4 p2 hlen d0 d2 d4
          go_wp2_with (go_at_call 11; refine DE.out.mono ?_; rintro e w2 ⟨u, rfl, hx2, hb2⟩)
          go_roundg (l.length - (i + 1))
          case measure => omega
          case rel => exact ⟨i + 1, by omega, rfl, by go_num, hx2, hb2⟩
        · have p4 : (x.k == 4) = false := by simpa using h4
          have HX2 : Hid (Xi wr p (ixL (chs (l.take (i + 1))))) := by show Xi _ _ _; rw [HT.out, ixL_chs_snoc, if_neg h2, if_neg h4]; exact HX.out
          clear h2 h4 hlen d0 d2 d4
          go_wp2_with fail
          go_roundg (l.length - (i + 1))
          case measure => omega
          case rel => exact ⟨i + 1, by omega, rfl, by go_num, HX2, HB⟩
    · obtain rfl : i = l.length := by omega
      have HX' : Hid (Xi wr p (ixL (chs l))) := by have := HX.out; rw [List.take_of_length_le (Nat.le_refl _)] at this; exact this
      have hll : (ixL (chs l)).length ≤ l.length := Nat.le_trans (ixL_len _) (chs_len _)
      have HRi : Hid (Rising (ixL (chs l))) := ixL_rising _
      have TH : Hid (∀ j, j < (ks (ixL (chs l))).length → ∃ u, getL (chs l) (nthT (ks (ixL (chs l))) j) = some u) := fun j hj => ks_there hj
      have RI : Hid (∀ j, j + 1 < (ks (ixL (chs l))).length → lt (nthT (ks (ixL (chs l))) j) (nthT (ks (ixL (chs l))) (j + 1)) = true) := fun j hj => ks_rising HRi.out hj
      have KE : Hid (Calls Try.prog 12 #[.pointer (some ⟨p, 0, none⟩), .agg #[.string ⟨#[]⟩, .string ⟨#[]⟩]] wr fun e w' => ∃ ka kc, e = .returned (.slice ka (ks (ixL (chs l))).length kc) ∧ RowT w' ka (ks (ixL (chs l))) ∧ Below wr.heap.size wr w') := by
        have := keysT_is HX'.out ⟨#[]⟩ ⟨#[]⟩ (by omega)
        rw [range_all] at this
        exact this
      obtain ⟨KL, hKL⟩ : ∃ KL, KL = ks (ixL (chs l)) := ⟨_, rfl⟩
      have hkn : KL.length = (ixL (chs l)).length := by rw [hKL, List.length_map]
      rw [← hKL] at TH RI KE
      have hKLl : KL.length ≤ l.length := by omega
      have HKN := hid hkn
      clear hkn hKL hlt hi HX hlen
      go_wp2_with (go_at_call 12; refine KE.out.mono ?_; rintro e w3 ⟨ka, kc, rfl, hT, hb3⟩; have hT := hid hT; have hb3 := hid hb3)
      have HX3 : Hid (Xi w3 p (ixL (chs l))) := HX'.out.later hb3.out
      have HB3 : Hid (Below W.heap.size W w3) := Below.on HB.out hb3.out
      clear HX' HB KE hb3
      go_loopg [64] KL.length (fun g s64 wr => ∃ j : Nat, j ≤ KL.length ∧ g = KL.length - j ∧ s64 = .int .i64 j ∧ Hid (Below w3.heap.size w3 wr))
      case atStart => exact ⟨0, by omega, by omega, rfl, Below.refl _ _⟩
      case round =>
        obtain ⟨j, hj, rfl, rfl, HBj⟩ := hrel
        by_cases hlt : j < KL.length
        · obtain ⟨kb, koff, rfl, k0⟩ := hT.out j hlt
          have k0' := cell_later HBj.out k0
          obtain ⟨u, hu⟩ := TH.out j hlt
          have LJ : Hid (∀ w, Below W.heap.size W w → Calls Try.prog 13 #[.slice a l.length c, .string (nthT KL j)] w fun e w' => e = .returned (.tuple #[.int .i64 u, .bool true]) ∧ w' = w) := fun w hb => by
            have := LA.out w (nthT KL j) hb
            rw [gotX_some hu] at this
            exact this
          have HBW : Hid (Below W.heap.size W wr) := Below.on HB3.out HBj.out
          clear hu
          obtain ⟨t1, ht1⟩ : ∃ t, t = nthT KL j := ⟨_, rfl⟩
          rw [← ht1] at LJ k0 k0'
          by_cases hj0 : j = 0
          · have q0 : decide (0 < j) = false := decide_eq_false (by omega)
            clear ht1 hj0
            go_wp2_with (go_at_call 13; refine (LJ.out _ HBW.out).mono ?_; rintro e w4 ⟨rfl, rfl⟩)
            go_quiet (fail)
            go_wp2_with fail
            go_roundg (KL.length - (j + 1))
            case measure => omega
            case rel => exact ⟨j + 1, by omega, rfl, by go_num, Below.drewN HBj.out _⟩
          · obtain ⟨kb', koff', ee, k1⟩ := hT.out (j - 1) (by omega)
            injection ee with ee; injection ee with e1 e2 _
            subst e1 e2
            have k1' := cell_later HBj.out k1
            have hr := RI.out (j - 1) (by omega)
            rw [show j - 1 + 1 = j by omega, ← ht1] at hr
            obtain ⟨t0, ht0⟩ : ∃ t, t = nthT KL (j - 1) := ⟨_, rfl⟩
            rw [← ht0] at k1 k1' hr
            have q1 : Op.bytesLess t0.toList t1.toList = true := hr
            obtain ⟨m, hm⟩ : ∃ m, m = j - 1 := ⟨_, rfl⟩
            rw [← hm] at k1 k1'
            have q0 : decide (0 < j) = true := decide_eq_true (by omega)
            have hw1 : IntKind.i64.wrap ((j : Int) - 1) = (m : Int) := by rw [IntKind.wrap_i64]; omega
            have hm1 : (m : Int) < (KL.length : Int) := by omega
            have HM := hid hm
            clear hr ht1 ht0 hm hj0
            go_wp2_with (go_at_call 13; refine (LJ.out _ HBW.out).mono ?_; rintro e w4 ⟨rfl, rfl⟩)
            go_quiet (fail)
            go_wp2_with fail
            go_roundg (KL.length - (j + 1))
            case measure => omega
            case rel => exact ⟨j + 1, by omega, rfl, by go_num, Below.drewN HBj.out _⟩
        · obtain rfl : j = KL.length := by omega
          clear TH RI hT
          have HX4 : Hid (Xi wr p (ixL (chs l))) := HX3.out.later HBj.out
          have HB4 : Hid (Below W.heap.size W wr) := Below.on HB3.out HBj.out
          clear HX3 HB3 HBj hj hlt
          obtain ⟨w5, hw5⟩ : ∃ w5, w5 = wr := ⟨_, rfl⟩
          rw [← hw5] at HX4 HB4 ⊢
          clear hw5
          go_wp2_with fail
          go_loopg [10, 97] l.length (fun g s10 s97 wr => ∃ i : Nat, i ≤ l.length ∧ g = l.length - i ∧ s97 = .int .i64 i ∧ (∃ n : Nat, s10 = .int .i64 n ∧ Hid (n = many l i)) ∧ Hid (Below w5.heap.size w5 wr))
          case atStart => exact ⟨0, by omega, by omega, rfl, ⟨0, rfl, rfl⟩, Below.refl _ _⟩
          case round =>
            obtain ⟨i, hi, rfl, rfl, ⟨n, rfl, HN⟩, HBi⟩ := hrel
            have hnl : n ≤ l.length := by have := many_le l i; have := HN.out; omega
            have HX6 : Hid (Xi wr p (ixL (chs l))) := HX4.out.later HBi.out
            have HB6 : Hid (Below W.heap.size W wr) := Below.on HB4.out HBi.out
            by_cases hlt : i < l.length
            · obtain ⟨b, off, rfl, d0, d1, d2, d3, d4, d5⟩ := HR.out i hlt
              have HM : Hid (many l (i + 1) = many l i + (if manyB l i then 1 else 0)) := many_succ l i
              have HMB : Hid (manyB l i = ((getL (chs l) (nthO l i).key).isSome && decide ((nthO l i).k = 2) && !setO (l.drop (i + 1)) (nthO l i).key)) := rfl
              have SO : Hid (∀ w, Below W.heap.size W w → Calls Try.prog 15 #[.slice (if c = i + 1 then some ⟨b, off, none⟩ else some ⟨b, off + (i + 1) * 6, none⟩) (l.drop (i + 1)).length (c - (i + 1)), .string (nthO l i).key] w fun e w' => e = .returned (.bool (setO (l.drop (i + 1)) (nthO l i).key)) ∧ w' = w) := fun w hb => setO_is (by
                split
                · intro j hj; rw [List.length_drop] at hj; omega
                · exact (HR.out.later hb).drop (i + 1)) (by rw [List.length_drop]; omega) _
              obtain ⟨x, hx⟩ : ∃ x, x = nthO l i := ⟨_, rfl⟩
              obtain ⟨sb, hsb⟩ : ∃ sb, sb = setO (l.drop (i + 1)) (nthO l i).key := ⟨_, rfl⟩
              rw [← hsb] at HMB SO
              rw [← hx] at d0 d2 HMB SO
              have e0 := cell_later HB6.out d0
              have e2 := cell_later HB6.out d2
              clear hx hsb d1 d3 d4 d5
              have hBw := HB6.out
              have GE : Hid (∀ w, Below wr.heap.size wr w → Calls Try.prog 14 #[.pointer (some ⟨p, 0, none⟩), .string x.key] w fun e w' => e = .returned (gotX (getL (chs l) x.key)) ∧ w' = w) := fun w hb => by
                have := get_is (HX6.out.later hb) x.key
                rw [ixL_get] at this
                exact this
              have LJ : Hid (∀ w, Below W.heap.size W w → Calls Try.prog 13 #[.slice (some ⟨b, off, none⟩) l.length c, .string x.key] w fun e w' => e = .returned (gotX (getL (chs l) x.key)) ∧ w' = w) := fun w hb => LA.out w x.key hb
              cases hg : getL (chs l) x.key with
              | none =>
                rw [hg, gotX_none rfl] at GE LJ
                have HN2 : Hid (n = many l (i + 1)) := by show _ = _; rw [HM.out, HMB.out, hg, HN.out]; simp
                clear hg
                go_wp2_with (first
                  | (go_at_call 13; refine (LJ.out _ hBw).mono ?_; rintro e w4 ⟨rfl, rfl⟩)
                  | (go_at_call 14; refine (GE.out _ (Below.refl _ _)).mono ?_; rintro e w4 ⟨rfl, rfl⟩))
                go_quiet (fail)
                go_wp2_with fail
                go_roundg (l.length - (i + 1))
                case measure => omega
                case rel => exact ⟨i + 1, by omega, rfl, by go_num, ⟨n, rfl, HN2⟩, Below.drewN HBi.out _⟩
              | some u =>
                rw [hg, gotX_some rfl] at GE LJ
                by_cases h2 : x.k = 2
                · rw [h2] at e0
                  have hld : (l.drop (i + 1)).length = l.length - (i + 1) := List.length_drop
                  rw [hld] at SO
                  have hw1 : IntKind.i64.wrap ((i : Int) + 1) = (i : Int) + 1 := by rw [IntKind.wrap_i64]; omega
                  have h3 : ((i : Int) + 1) ≤ (l.length : Int) := by omega
                  have h4 : (l.length : Int) ≤ (c : Int) := by omega
                  have h5 : (0 : Int) ≤ (i : Int) + 1 := by omega
                  obtain ⟨ad, had⟩ : ∃ ad, (if c = i + 1 then some (⟨b, off, none⟩ : Addr) else some ⟨b, off + (i + 1) * 6, none⟩) = ad := ⟨_, rfl⟩
                  rw [had] at SO
                  cases sb with
                  | true =>
                    have HN2 : Hid (n = many l (i + 1)) := by show _ = _; rw [HM.out, HMB.out, hg, HN.out]; simp [h2]
                    clear hg h2
                    go_wp2_with (first
                      | (go_at_call 13; refine (LJ.out _ hBw).mono ?_; rintro e w4 ⟨rfl, rfl⟩)
                      | (go_at_call 14; refine (GE.out _ (Below.refl _ _)).mono ?_; rintro e w4 ⟨rfl, rfl⟩))
                    go_quiet ((go_at_call 15; refine Calls.quiet_of_same (SO.out _ ?_); exact Below.drewN hBw _))
                    go_wp2_with fail
                    go_roundg (l.length - (i + 1))
                    case measure => omega
                    case rel => exact ⟨i + 1, by omega, rfl, by go_num, ⟨n, rfl, HN2⟩, Below.drewN HBi.out _⟩
                  | false =>
                    have HN2 : Hid (n + 1 = many l (i + 1)) := by show _ = _; rw [HM.out, HMB.out, hg, HN.out]; simp [h2]
                    clear hg h2
                    go_wp2_with (first
                      | (go_at_call 13; refine (LJ.out _ hBw).mono ?_; rintro e w4 ⟨rfl, rfl⟩)
                      | (go_at_call 14; refine (GE.out _ (Below.refl _ _)).mono ?_; rintro e w4 ⟨rfl, rfl⟩))
                    go_quiet ((go_at_call 15; refine Calls.quiet_of_same (SO.out _ ?_); exact Below.drewN hBw _))
                    go_wp2_with fail
                    go_roundg (l.length - (i + 1))
                    case measure => omega
                    case rel => exact ⟨i + 1, by omega, rfl, by go_num, ⟨n + 1, by go_num, HN2⟩, Below.drewN HBi.out _⟩
                · have p2 : (x.k == 2) = false := by simpa using h2
                  have HN2 : Hid (n = many l (i + 1)) := by show _ = _; rw [HM.out, HMB.out, hg, HN.out]; simp [h2]
                  clear hg h2 SO
                  go_wp2_with (first
                    | (go_at_call 13; refine (LJ.out _ hBw).mono ?_; rintro e w4 ⟨rfl, rfl⟩)
                    | (go_at_call 14; refine (GE.out _ (Below.refl _ _)).mono ?_; rintro e w4 ⟨rfl, rfl⟩))
                  go_quiet (fail)
                  go_wp2_with fail
                  go_roundg (l.length - (i + 1))
                  case measure => omega
                  case rel => exact ⟨i + 1, by omega, rfl, by go_num, ⟨n, rfl, HN2⟩, Below.drewN HBi.out _⟩
            · obtain rfl : i = l.length := by omega
              have hnm : n = (ixL (chs l)).length := by rw [HN.out, many_is]
              have hkn : KL.length = n := by rw [HKN.out, hnm]
              have LE : Hid (Calls Try.prog 16 #[.pointer (some ⟨p, 0, none⟩)] wr fun e w' => e = .returned (.int .i64 (n : Int)) ∧ w' = wr) := by rw [hnm]; exact len_is HX6.out
              have LJ : Hid (Calls Try.prog 13 #[.slice a l.length c, .string ⟨#[110, 101, 118, 101, 114]⟩] wr fun e w' => e = .returned (gotX (getL (chs l) ⟨#[110, 101, 118, 101, 114]⟩)) ∧ w' = wr) := LA.out wr _ HB6.out
              have SE : Hid (Calls Try.prog 10 #[.pointer (some ⟨p, 0, none⟩), .string ⟨#[110, 101, 118, 101, 114]⟩, .int .i64 1] wr fun e w' => e = .returned (.bool (!(getL (chs l) ⟨#[110, 101, 118, 101, 114]⟩).isSome)) ∧ Below W.heap.size W w') :=
                (set_is HX6.out _ 1 (by omega)).mono fun e w' ⟨he, hx', ho⟩ => ⟨by rw [he, ixL_get]; cases getL (chs l) ⟨#[110, 101, 118, 101, 114]⟩ <;> rfl, Onl.on_below HB6.out ho (by have := HP.out; omega)⟩
              have hk2 : (KL.length == n) = true := by simp [hkn]
              obtain ⟨v0, b0, hv0, hb0⟩ : ∃ v0 b0, gotX (getL (chs l) ⟨#[110, 101, 118, 101, 114]⟩) = .tuple #[.int .i64 v0, .bool b0] ∧ (getL (chs l) ⟨#[110, 101, 118, 101, 114]⟩).isSome = b0 := ⟨_, _, rfl, rfl⟩
              rw [hv0] at LJ
              rw [hb0] at SE
              clear hnm hv0 hb0 hi hlt
              subst hkn
              go_wp2_with (first
                | (go_at_call 16; refine LE.out.mono ?_; rintro e w7 ⟨rfl, rfl⟩)
                | (go_at_call 13; refine LJ.out.mono ?_; rintro e w7 ⟨rfl, rfl⟩)
                | (go_at_call 10; refine SE.out.mono ?_; rintro e w8 ⟨rfl, hb8⟩))
              go_ret
              exact ⟨retB' (by cases b0 <;> rfl), hb8⟩

end Go.Proofs.Ytmhpakbkmddfeaa
