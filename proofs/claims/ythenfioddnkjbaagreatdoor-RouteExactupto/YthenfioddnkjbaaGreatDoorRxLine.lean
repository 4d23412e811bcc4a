import Derived.Test.YthenfioddnkjbaaGreatDoorRxSt
import Derived.Test.YthenfioddnkjbaaGreatDoorRdSplit
/- One line, taken by the document. -/
namespace Go.Proofs.YthenfioddnkjbaaGreatDoor.Rt
open Go.RowKit Go.Sort
set_option linter.unusedVariables false

def nmB (k : Nat) : ByteArray := ⟨(nm k).toArray⟩
theorem rname_is {k : Nat} (h : k < 5) (w : World) : Calls Tryz.prog 97 #[.int .i64 (k : Int)] w fun e w' => e = .returned (.string (nmB k)) ∧ w' = w := by
  match k, h with
  | 0, _ | 1, _ | 2, _ | 3, _ | 4, _ =>
    go_enter Tryz.func97, Tryz.ntmps97
    go_wp2_with fail
    go_ret
    exact ⟨rfl, rfl⟩
theorem at_times {p j : Nat} (h : j < 5) (w : World) : (Instr.indexAt 102 (.pointer (some ⟨p, 0, none⟩)) (.int .i64 (j : Int))).run Tryz.prog w = .ok (.pointer (some ⟨p, j, none⟩)) w := by
  rcases (by omega : j = 0 ∨ j = 1 ∨ j = 2 ∨ j = 3 ∨ j = 4) with rfl | rfl | rfl | rfl | rfl
  · kernel_rfl
  · kernel_rfl
  · kernel_rfl
  · kernel_rfl
  · kernel_rfl
theorem at_values {p j : Nat} (h : j < 5) (w : World) : (Instr.indexAt 103 (.pointer (some ⟨p, 5, none⟩)) (.int .i64 (j : Int))).run Tryz.prog w = .ok (.pointer (some ⟨p, 5 + j, none⟩)) w := by
  rcases (by omega : j = 0 ∨ j = 1 ∨ j = 2 ∨ j = 3 ∨ j = 4) with rfl | rfl | rfl | rfl | rfl
  · kernel_rfl
  · kernel_rfl
  · kernel_rfl
  · kernel_rfl
  · kernel_rfl
/-- how a line fares -/
def LinP (wg wl : World) (p : Nat) (o : Option Sd) (e : Ending) (w' : World) : Prop := (∃ s' v', o = some s' ∧ e = .returned (.bool true) ∧ StS wg wl w' p s' v') ∨ (o = none ∧ e = .returned (.bool false) ∧ Below wg.heap.size wg w' ∧ Onl (fun k => k = p) wl w')
theorem num_lt {l : List UInt8} {n : Nat} {b1 b2 : Bool} (h : numA l = (b1, n, b2)) : n < 18446744073709551616 := by
  unfold numA num at h
  split at h
  · injection h with h1 h2; injection h2 with h2 h3; omega
  · injection h with h1 h2; injection h2 with h2 h3; omega
  · rename_i m hm
    injection h with h1 h2; injection h2 with h2 h3
    subst h2
    split at hm
    · cases hm
    · split at hm
      · rename_i k hk
        injection hm with hm; injection hm with hm; subst hm
        exact Lib.parseUint10_lt l 0 _ (by decide) hk
      · injection hm with hm; cases hm
      · cases hm
theorem line_num {wg wl : World} {p j n : Nat} {s : Sd} {v : Value} {l : List UInt8} {b1 b2 : Bool} (hsk : ¬ (l = [] ∨ l.head? = some 35)) (hk : nameK l = j) (hj : j < 5) (h : numA (tailB l) = (b1, n, b2)) (wz : World) (hz : StS wg wl wz p (s.num j n b2) v) : LinP wg wl p (docL s l) (.returned (.bool b1)) wz := by
  unfold docL
  rw [if_neg hsk, hk, if_pos hj]
  unfold numA at h
  cases hn : num (tailB l) with
  | none =>
    rw [hn] at h
    injection h with h1 h2; subst h1
    exact .inr ⟨rfl, rfl, hz.bel, hz.onl⟩
  | some o =>
    rw [hn] at h
    cases o with
    | none =>
      injection h with h1 h2; injection h2 with h2 h3; subst h1 h2 h3
      exact .inl ⟨_, v, rfl, rfl, hz⟩
    | some m =>
      injection h with h1 h2; injection h2 with h2 h3; subst h1 h2 h3
      exact .inl ⟨_, v, rfl, rfl, hz⟩
set_option maxRecDepth 100000 in
set_option maxHeartbeats 4000000 in
theorem rline_is {wg wl w : World} {p : Nat} {s : Sd} {v : Value} {L : ByteArray} {l : List UInt8} (hL : l = L.data.toList) (hsk : ¬ (l = [] ∨ l.head? = some 35)) (h : StS wg wl w p s v) (hs : L.size ≤ 1000) (hn : s.sp.length ≤ 1001) (ht : ∀ k, s.t k ≤ 1001) :
    Calls Tryz.prog 60 #[.pointer (some ⟨p, 0, none⟩), .string L] w (LinP wg wl p (docL s l)) := by
  have hz : L.size = l.length := by rw [hL, Lib.size_eq]
  have HL := hid hL
  have HS := hid h
  have HK := hid hsk
  have HT := hid ht
  clear hL h hsk ht
  go_enter Tryz.func60, Tryz.ntmps60
  go_wp2_with fail
  go_loopg [5] l.length (fun g s4 wr => ∃ k : Nat, k ≤ l.length ∧ g = l.length - k ∧ s4 = .int .i64 k ∧ wr = w ∧ Hid (∀ b ∈ l.take k, b ≠ 32))
  case atStart => exact ⟨0, by omega, by omega, rfl, rfl, hid (fun b hb => by simp at hb)⟩
  case round =>
    obtain ⟨k, hk, rfl, rfl, rfl, HP⟩ := hrel
    by_cases hlt : k < l.length
    · obtain ⟨ch, hc⟩ : ∃ c, l[k]? = some c := ⟨_, List.getElem?_eq_getElem hlt⟩
      have hix := index_bytes (t := L) (k := k) (c := ch) (by rw [← HL.out]; exact hc)
      have HC := hid hc
      clear hc
      by_cases h32 : ch = 32
      · subst h32
        obtain ⟨h1, h2⟩ := head_cut HP.out HC.out
        have HH : Hid (headB l = l.take k ∧ tailB l = l.drop (k + 1)) := ⟨h1, h2⟩
        clear h1 h2
        replace hix : ∀ w, (Instr.index 9 (.string L) (.int .i64 (k : Int))).run Tryz.prog w = .ok (.int .u8 32) w := hix
        have HF : Hid ((L.extract 0 k).toList = headB l) := by
          show _ = _
          rw [HH.out.1, ByteArray.toList_eq, ext_list, ← HL.out]; rfl
        obtain ⟨rB, hrB⟩ : ∃ r, r = L.extract (k + 1) l.length := ⟨_, rfl⟩
        have HR : Hid (rB.data.toList = tailB l) := by
          show _ = _
          rw [HH.out.2, hrB, ext_list, ← HL.out, List.take_length]
        have hrs : rB.size ≤ 1000 := by
          have h1 : rB.size = (tailB l).length := by rw [Lib.size_eq, HR.out]
          rw [h1, HH.out.2, List.length_drop]; omega
        have hke : ((k : Int) == (l.length : Int)) = false := by rw [beq_eq_false_iff_ne]; omega
        subst hrB
        cases hq : ((L.extract 0 k).toList == [115, 112, 108, 105, 116]) with
        | true =>
          have HD : Hid (docL s l = (unword (nums (L.extract (k + 1) l.length))).map s.split) := by
            show _ = _
            rw [beq_iff_eq, HF.out] at hq
            have e5 : nameK l = 5 := by unfold nameK; rw [hq]; decide
            unfold docL nums
            rw [if_neg HK.out, e5, if_neg (by decide), if_pos rfl, HR.out]
          obtain ⟨x, c, hu⟩ : ∃ x c, unA (nums (L.extract (k + 1) l.length)) = (x, c) := ⟨_, _, rfl⟩
          have RU := runword_is (nums_b8 (L.extract (k + 1) l.length)) (by rw [nums_length]; omega) wr
          rw [ofNats_nums, hu] at RU
          have HU := hid RU
          clear RU
          obtain ⟨i0, hi0, hz0, hs0, hb0⟩ := info_some infoStr
          go_wp2_with fail
          refine HU.out.mono ?_
          rintro e w1 ⟨rfl, hb⟩
          have hs1 := HS.out.later hb
          obtain ⟨va, vc, hva⟩ := row_sl hs1.row
          subst hva
          obtain ⟨n, hnn⟩ : ∃ n, n = s.sp.length := ⟨_, rfl⟩
          have hOw := hs1.row
          rw [← hnn] at hOw
          have HAL : Hid (∀ o, Below w1.heap.size w1 (w1.alloc o)) := hid fun o => Below.al (Below.refl _ _) _
          have HOX : Hid (∀ o, (w1.alloc o).ownsRow wl.heap.size 9 1 (.slice va n vc) n _) := hid fun o => owns_keep hOw fun g hg => (HAL.out o).block g (World.ownsRow.lt hOw g hg).2
          have HB2 : Hid (wl.heap.size ≤ w1.heap.size) := hid hs1.onl.size
          have HNT : Hid (∀ j u, [Value.string (ofNats x)][j]? = some u → (w1.alloc (.cells #[.string (ofNats x)] 9)).cell? ((⟨w1.heap.size, 0, none⟩ : Addr).add j) = some u) := hid fun j u hj => by
            rw [Addr.add_lit, Nat.zero_add]
            rw [World.cell?_alloc_new]
            simpa using hj
          have HM1 : Hid (n + 1 ≤ maxLen) := by show _ ≤ _; unfold maxLen; omega
          have HM2 : Hid ((n + 1) * 16 ≤ 140737488355328) := by show _ ≤ _; omega
          have HS1 := hid hs1
          have k11 := hs1.box.sp
          rw [← hnn] at k11
          have HK11 := hid k11
          have HV1 : Hid (¬ ((Value.slice va n vc).ownBlock = some p)) := by show ¬ _; rw [hnn]; exact hs1.own
          have HNN := hid hnn
          have HU' := hid hu
          clear hs1 hb hOw hnn hu hn
          go_wp2_with (at_builtin; refine wpList_append_own _ rfl _ _ 23 rfl wl.heap.size 9 i0 (.string ⟨#[]⟩) 1 16 Tryz.underlying23 hi0 hz0 hs0 hb0 rfl (by decide) (.slice va n vc) n _ rfl (HOX.out _) ⟨w1.heap.size, 0, none⟩ 1 1 [.string (ofNats x)] rfl rfl HNT.out (by intro u hu; rw [List.mem_singleton.1 hu]; rfl) HM1.out HM2.out (Nat.le_trans HB2.out (HAL.out _).size) ?_; intro v' w3 hown hgrow hold; obtain ⟨va', vc', e9⟩ := row_sl hown; subst e9; have HOWN := hid hown; have ho3 : Onl (fun k => (Value.slice va n vc).ownBlock = some k) w1 w3 := (Onl.of_below (HAL.out _)).trans (grown_onl hgrow); have c11 := ho3.cell HV1.out HK11.out; have f11 : w3.frozen? ⟨p, 11, none⟩ = false := (ho3.loose HV1.out HS1.out.ltw HS1.out.loose) 11; have HO3 := hid ho3; clear hown hgrow hold ho3)
          go_ret
          have hA : StS wg wl (w3.setCell ⟨p, 11, none⟩ (.slice va' (n + 1) vc')) p (s.split x) (.slice va' (n + 1) vc') := by
            refine HS1.out.add (x := x) ?_ ?_ ?_
            · rw [← HNN.out]; exact HOWN.out
            · rw [← HNN.out]; exact c11
            · rw [← HNN.out]; exact HO3.out
          have hU := HU'.out
          unfold unA at hU
          rw [HD.out]
          cases hw : unword (nums (L.extract (k + 1) l.length)) with
          | some y =>
            rw [hw] at hU
            injection hU with h1 h2
            subst h1 h2
            exact .inl ⟨_, _, rfl, rfl, hA⟩
          | none =>
            rw [hw] at hU
            injection hU with h1 h2
            subst h1 h2
            exact .inr ⟨rfl, rfl, hA.bel, hA.onl⟩
        | false =>
          go_wp2_with fail
          go_loopg [10] 5 (fun g s10 wr' => ∃ j : Nat, j ≤ 5 ∧ g = 5 - j ∧ s10 = .int .i64 j ∧ wr' = wr ∧ Hid (∀ i, i < j → headB l ≠ nm i))
          case atStart => exact ⟨0, by omega, by omega, rfl, rfl, hid (fun i hi => by omega)⟩
          case round =>
            obtain ⟨j, hj, rfl, rfl, rfl, HJ⟩ := hrel
            by_cases hj5 : j < 5
            · have NM := hid (rname_is hj5)
              cases hqj : ((L.extract 0 k).toList == (nmB j).toList) with
              | true =>
                have HD : Hid (nameK l = j) := by
                  rw [beq_iff_eq, HF.out] at hqj
                  have e2 : headB l = nm j := by rw [hqj, ByteArray.toList_eq]; rfl
                  show _ = _
                  unfold nameK
                  rw [e2]
                  match j, hj5 with
                  | 0, _ | 1, _ | 2, _ | 3, _ | 4, _ => decide
                obtain ⟨b1, n, b2, hN⟩ : ∃ b1 n b2, numA (tailB l) = (b1, n, b2) := ⟨_, _, _, rfl⟩
                have RN := rnumber_is (t := L.extract (k + 1) l.length) rfl hrs
                rw [HR.out, hN] at RN
                have HRN := hid RN
                have HN := hid hN
                clear RN hN
                go_wp2_with (go_at_call 97; refine (NM.out _).mono ?_; rintro e w1 ⟨rfl, rfl⟩)
                refine (HRN.out _).mono ?_
                rintro e w1 ⟨rfl, hb⟩
                have HS1 := hid (HS.out.later hb)
                have k1 := HS1.out.box.t j hj5
                have k2 := HS1.out.box.vl j hj5
                have k3 := HS1.out.box.ov
                have f1 := HS1.out.loose
                have t1 := HT.out j
                clear hb
                have ix1 := at_times (p := p) hj5
                have ix2 := at_values (p := p) hj5
                have HX : Hid (∀ wz, StS wg wl wz p (s.num j n b2) v → LinP wg wl p (docL s l) (.returned (.bool b1)) wz) := line_num HK.out HD.out hj5 HN.out
                have HPU : Hid _ := hid (HS1.out.put (o := b2) hj5 (num_lt HN.out))
                cases hov : s.ov
                all_goals
                  rw [hov] at k3 HPU
                  go_wp2_with fail
                  go_region
                  all_goals go_wp2_with fail
                  go_ret
                  exact HX.out _ (HPU.out.later (Below.drew (Below.refl _ _)))
              | false =>
                have HJ2 : Hid (∀ i, i < j + 1 → headB l ≠ nm i) := fun i hi => by
                  by_cases e : i = j
                  · subst e
                    intro h
                    rw [beq_eq_false_iff_ne] at hqj
                    apply hqj
                    rw [HF.out, h, ByteArray.toList_eq]; rfl
                  · exact HJ.out i (by omega)
                go_wp2_with (go_at_call 97; refine (NM.out _).mono ?_; rintro e w1 ⟨rfl, rfl⟩)
                go_roundg (5 - (j + 1))
                case measure => omega
                case rel => exact ⟨j + 1, by omega, rfl, by go_num, rfl, HJ2⟩
            · obtain rfl : j = 5 := by omega
              have HE : Hid (docL s l = none) := by
                have h0 : headB l ≠ nm 5 := by
                  rw [beq_eq_false_iff_ne, HF.out] at hq
                  exact hq
                show _ = _
                unfold docL nameK
                rw [if_neg HK.out, if_neg (HJ.out 0 (by omega)), if_neg (HJ.out 1 (by omega)), if_neg (HJ.out 2 (by omega)), if_neg (HJ.out 3 (by omega)), if_neg (HJ.out 4 (by omega)), if_neg h0]
                rfl
              go_wp2_with fail
              go_ret
              exact .inr ⟨HE.out, rfl, HS.out.bel, HS.out.onl⟩
      · have HP2 : Hid (∀ b ∈ l.take (k + 1), b ≠ 32) := fun b hb => by
          rw [List.take_add_one, HC.out] at hb
          rcases List.mem_append.1 hb with hb | hb
          · exact HP.out b hb
          · simp at hb; subst hb; exact h32
        have hne : ((ch.toNat : Int) != 32) = true := by
          rw [bne_iff_ne]; intro h; apply h32; apply UInt8.toNat_inj.1
          have : (32 : UInt8).toNat = 32 := rfl
          omega
        have heq : ((ch.toNat : Int) == 32) = false := by
          rw [beq_eq_false_iff_ne]; intro h; apply h32; apply UInt8.toNat_inj.1
          have : (32 : UInt8).toNat = 32 := rfl
          omega
        clear h32
        go_wp2_with fail
        go_roundg (l.length - (k + 1))
        case measure => omega
        case rel => exact ⟨k + 1, by omega, rfl, by go_num, rfl, HP2⟩
    · obtain rfl : k = l.length := by omega
      have HE : Hid (docL s l = none) := doc_none HK.out (by have := HP.out; rw [List.take_length] at this; exact this)
      go_wp2_with fail
      go_ret
      exact .inr ⟨HE.out, rfl, HS.out.bel, HS.out.onl⟩
end Go.Proofs.YthenfioddnkjbaaGreatDoor.Rt
