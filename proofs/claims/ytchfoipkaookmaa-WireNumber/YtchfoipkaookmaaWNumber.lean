import Derived.Test.YtchfoipkaookmaaWGather
import Derived.Test.YtchfoipkaookmaaWVar
import Derived.Test.YtchfoipkaookmaaWTVar
import Derived.Test.YtchfoipkaookmaaWTake
import Derived.Test.YtchfoipkaookmaaWNumPlain
namespace Go.Proofs.Ytchfoipkaookmaa
open Go.RowKit Go.Sort
set_option linter.unusedVariables false

theorem ofNats_get {l : List Nat} (h : B8 l) (i : Nat) (hi : i < (ofNats l).size) : ((ofNats l)[i]'hi).toNat = l.getD i 0 := by
  have h1 : (nums (ofNats l)).getD i 0 = l.getD i 0 := by rw [nums_ofNats h]
  rw [← h1]
  have h2 : i < (ofNats l).data.toList.length := by simpa using hi
  simp only [nums, List.getD, List.getElem?_map, List.getElem?_eq_getElem h2]
  rfl
theorem dvar_is {w : World} {b o m : Nat} {d d' : Ds} {x : Nat} (h : DecAt w b o d) (hl : d.left.length ≤ 9223372036854775807) (hv : tVar m d = (x, d')) :
    Calls Try.prog 7 #[.pointer (some ⟨b, o, none⟩), .int .u64 (m : Int)] w fun e w' => e = .returned (.int .u64 (x : Int)) ∧ Cel b o 2 w w' ∧ DecAt w' b o d' := by
  have := dvar_any (m := m) h hl
  rw [hv] at this
  exact this

theorem encAt_new (w : World) (T : TypeId) : EncAt (w.alloc (.cells #[.pointer none, .int .i64 0] T)) (fun k => k = w.heap.size) w.heap.size 0 [] := by
  refine ⟨rfl, ⟨[], rfl, trivial, fun x hx => by simp at hx, ?_⟩, ?_, fun o => by simp [go_sem]⟩
  · simp [go_sem, ptrOf]
  · simp [go_sem]

set_option maxRecDepth 8000 in
set_option maxHeartbeats 2000000 in
theorem number_law {v : Nat} (hv : v < 18446744073709551616) (w : World) :
    Calls Try.prog 3 #[.int .u64 (v : Int)] w fun e w' => e = .returned (.bool true) ∧ Below w.heap.size w w' := by
  obtain ⟨n, hn, hb1, hb2, hb3, hb4⟩ := vb_shape v
  have hlen := vb_len v 0 (by decide) (by unfold lim; omega)
  have hn9 : n ≤ 9 := by omega
  have H8 : Hid (B8 (vb v)) := vb_byte v
  have E0 := hid (encAt_new w 25)
  obtain ⟨wa, hwa⟩ : ∃ wa, wa = w.alloc (.cells #[.pointer none, .int .i64 0] 25) := ⟨_, rfl⟩
  have hba : Hid (Below w.heap.size w wa) := by rw [hwa]; exact Below.al (Below.refl _ _) _
  have hla : Hid (w.heap.size < wa.heap.size) := by rw [hwa]; show w.heap.size < _; simp
  rw [← hwa] at E0
  have HWA := hid hwa
  clear hwa
  go_enter Try.func3, Try.ntmps3
  go_wp2_with fail
  rw [← HWA.out]
  refine (var_any E0.out hv (fun k hk => hk ▸ hla.out) (by simp)).mono ?_
  rintro e w1 ⟨rfl, hc1, he1⟩
  have HB1 : Hid (Below w.heap.size w w1) := hba.out.trans (hc1.below (Nat.le_refl _) (Nat.le_of_lt hla.out))
  have E1 := hid he1
  clear hc1 he1
  rw [List.nil_append] at E1
  go_wp2_with fail
  refine (bytes_of E1.out (by omega)).mono ?_
  rintro e w2 ⟨rfl, hb⟩
  have HB2 : Hid (Below w.heap.size w w2) := Below.on HB1.out hb
  clear hb HB1 E1 E0 hla hba HWA
  have hsz : (ofNats (vb v)).size = n + 1 := by rw [ofNats_size, hn]
  have hsz' : ((ofNats (vb v)).size : Int) = (n : Int) + 1 := by rw [hsz]; rfl
  have HG : Hid (∀ (i : Nat) (hi : i < (ofNats (vb v)).size), ((ofNats (vb v))[i]'hi).toNat = (vb v).getD i 0) := ofNats_get H8.out
  obtain ⟨S, hS⟩ : ∃ S, S = ofNats (vb v) := ⟨_, rfl⟩
  rw [← hS] at hsz hsz' HG ⊢
  have HS := hid hS
  have Hb1 := hid hb1
  have Hb2 := hid hb2
  have Hb3 := hid hb3
  have Hb4 := hid hb4
  have Hn := hid hn
  have e0 : decide ((n : Int) + 1 = 0) = false := by simp; omega
  have e0' : (((n : Int) + 1) == 0) = false := by simp; omega
  have e10 : decide ((10 : Int) < (n : Int) + 1) = false := by simp; omega
  clear hS hb1 hb2 hb3 hb4 hn hlen
  go_wp2_with fail
  go_loopg [5, 6] (n + 1) (fun g s5 s6 wr => ∃ k : Nat, k ≤ n + 1 ∧ k = g ∧ s5 = .int .u64 ((v / 128 ^ k : Nat) : Int) ∧ s6 = .int .i64 ((k : Int) - 1) ∧ Hid (Below w.heap.size w wr))
  case atStart =>
    refine ⟨n + 1, by omega, rfl, ?_, by simp, HB2.out⟩
    have h0 : v / 128 ^ (n + 1) = 0 := by
      rw [Nat.pow_succ, ← Nat.div_div_eq_div_mul]
      exact Nat.div_eq_of_lt Hb3.out
    rw [h0]; rfl
  case round =>
    obtain ⟨k, hk, rfl, rfl, rfl, HB⟩ := hrel
    clear HB2 w2 w1
    cases k with
    | succ j =>
      have hj : ((j + 1 : Nat) : Int) - 1 = (j : Int) := by omega
      rw [hj]
      clear hj
      obtain ⟨x, hx⟩ : ∃ x, x = v / 128 ^ (j + 1) := ⟨_, rfl⟩
      have hx1 : x ≤ 144115188075855871 := by
        rw [hx, Nat.pow_succ, Nat.mul_comm, ← Nat.div_div_eq_div_mul]
        exact Nat.le_trans (Nat.div_le_self _ _) (by omega)
      have hnext : x * 128 + v / 128 ^ j % 128 = v / 128 ^ j := by
        rw [hx, Nat.pow_succ, ← Nat.div_div_eq_div_mul]; omega
      obtain ⟨y, hy⟩ : ∃ y, y = (vb v).getD j 0 := ⟨_, rfl⟩
      have hjl : j < S.size := by omega
      have hget := HG.out j hjl
      have hy256 : y < 256 := by
        rw [hy]
        have := H8.out
        by_cases hjn : j < n
        · rw [Hb1.out j hjn]; omega
        · have : j = n := by omega
          subst this; rw [Hb2.out]; have := Hb3.out; omega
      have hmod : y % 128 = v / 128 ^ j % 128 := by
        rw [hy]
        by_cases hjn : j < n
        · rw [Hb1.out j hjn]; omega
        · have : j = n := by omega
          subst this; rw [Hb2.out]
      have hcmp : (decide ((128 : Int) ≤ (y : Int)) = true ∧ decide (j < n) = true) ∨ (decide ((128 : Int) ≤ (y : Int)) = false ∧ decide (j < n) = false) := by
        by_cases hjn : j < n
        · have : 128 ≤ y := by rw [hy, Hb1.out j hjn]; omega
          exact .inl ⟨by simp; omega, by simp; omega⟩
        · have hjn' : j = n := by omega
          have : ¬ 128 ≤ y := by rw [hy, hjn', Hb2.out]; have := Hb3.out; omega
          exact .inr ⟨by simp; omega, by simp; omega⟩
      rw [← hy] at hget
      have hand := and127 y hy256
      obtain ⟨z, hz⟩ : ∃ z : Nat, z = y % 128 := ⟨_, rfl⟩
      rw [← hz] at hand hmod
      have hz1 : z < 128 := by omega
      have hor := or_below x z hx1 hz1
      have hwz : IntKind.u64.wrap (z : Int) = (z : Int) := by rw [IntKind.wrap_u64]; omega
      have hwx : IntKind.u64.wrap ((x : Int) * 128) = (x : Int) * 128 := by rw [IntKind.wrap_u64]; omega
      have e1 : decide ((144115188075855871 : Int) < (x : Int)) = false := by simp; omega
      have ej : decide ((0 : Int) ≤ (j : Int)) = true := by simp
      have HN := hid hnext
      have HZ := hid hmod
      rw [← hx]
      clear hx hy hnext hmod hz
      rcases hcmp with ⟨q1, q2⟩ | ⟨q1, q2⟩
      all_goals
        go_wp2_with fail
        go_roundg j
        case measure => omega
        case rel =>
          refine ⟨j, by omega, rfl, ?_, rfl, HB⟩
          rw [← HN.out, ← HZ.out]
          simp
    | zero =>
      have HB3 := HB
      have hj : ((0 : Nat) : Int) - 1 = -1 := by omega
      have hv0 : v / 128 ^ 0 = v := by simp
      rw [hj, hv0]
      clear hj hv0 HB e0 e0' e10 hk
      have eq1 : decide ((v : Int) = (v : Int)) = true := by simp
      obtain ⟨y, hy⟩ : ∃ y, y = (vb v).getD n 0 := ⟨_, rfl⟩
      have hget := HG.out n (by omega)
      rw [← hy] at hget
      have en : n = 0 ∨ 0 < n := by omega
      have HY := hid hy
      clear hy
      go_upto_region 13 with fail
      go_cut [66] (fun s66 wx => s66 = .bool false ∧ Hid (Below w.heap.size w wx))
      case first =>
        by_cases hn0 : 0 < n
        · have e1 : decide ((1 : Int) < (n : Int) + 1) = true := by simp; omega
          have ey : decide ((y : Int) = 0) = false := by
            have h4 := Hb4.out (by omega)
            rw [HY.out, Hb2.out]; exact decide_eq_false (fun h => h4 (Int.ofNat_eq_zero.1 h))
          have ey' : ((y : Int) == 0) = false := by simpa using ey
          go_wp2_with fail
          go_meet
          exact ⟨rfl, HB3⟩
        · have e1 : decide ((1 : Int) < (n : Int) + 1) = false := by simp; omega
          have e2 : decide (0 < n) = false := by simp; omega
          clear hn0
          go_wp2_with fail
          go_meet
          exact ⟨rfl, HB3⟩
      case rest =>
        clear HB3 eq1
        obtain ⟨rfl, HB3⟩ := hcut
        go_upto_if 68 with fail
        go_cut [] (fun wx => Hid (Below w.heap.size w wx))
        case first =>
          by_cases hv0 : 0 < v
          · have e1 : decide ((0 : Int) < (v : Int)) = true := by simp; omega
            have HV0 := hid hv0
            obtain ⟨u, hu⟩ : ∃ u : Nat, v = u + 1 := ⟨v - 1, by omega⟩
            have hsub : (v : Int) - 1 = (u : Int) := by omega
            have hsub' : IntKind.u64.wrap ((v : Int) - 1) = (u : Int) := by rw [IntKind.wrap_u64]; omega
            have HT : Hid (tVar u (.at (vb v)) = (0, .stop 31)) := by
              have := vdec_great (v := v) (m := u) [] hv (by omega)
              rw [List.append_nil] at this
              show tVar u (.at (vb v)) = (0, .stop 31)
              simp only [tVar, this]
            have HU := hid hu
            clear hu
            go_wp2_with fail
            refine (open_at HS.out H8.out rfl).mono ?_
            rintro e w3 ⟨rfl, hb3, hl3, hd3⟩
            have HB4 : Hid (Below w.heap.size w w3) := Below.on HB3.out hb3
            have HL3 : Hid (w.heap.size ≤ wc.heap.size) := HB3.out.size
            have HD3 := hid hd3
            clear hb3 hd3
            go_wp2_with fail
            refine (dvar_is HD3.out (by show (vb v).length ≤ _; have := Hn.out; omega) HT.out).mono ?_
            rintro e w4 ⟨rfl, hc4, hd4⟩
            have HB5 : Hid (Below w.heap.size w w4) := HB4.out.trans (hc4.below HL3.out HB4.out.size)
            have HD4 := hid hd4
            clear hc4 hd4
            go_wp2_with fail
            refine (end_is HD4.out rfl).mono ?_
            rintro e w5 ⟨rfl, rfl⟩
            go_wp2_with fail
            go_meet
            exact HB5
          · have e1 : decide ((0 : Int) < (v : Int)) = false := by simp; omega
            have HV0 := hid hv0
            clear hv0
            go_wp2_with fail
            all_goals first
              | (exfalso; have := HV0.out; omega)
              | (go_meet; exact HB3)
        case rest =>
          clear HB3
          have HB3 := hcut
          clear hcut
          have hx : S.extract 0 n = ofNats ((vb v).take n) := by
            rw [HS.out, ofNats_extract H8.out, List.drop_zero]
          have HX := hid hx
          clear hx
          obtain ⟨p1, hp1⟩ : ∃ p1, wc.heap.size = p1 := ⟨_, rfl⟩
          have HP1 := hid hp1
          clear hp1
          go_wp2_with fail
          refine (open_at HX.out (H8.out.take n) HP1.out).mono ?_
          rintro e w3 ⟨rfl, hb3, hl3, hd3⟩
          have HB4 : Hid (Below w.heap.size w w3) := Below.on HB3.out hb3
          have HL3 : Hid (w.heap.size ≤ p1) := HP1.out ▸ HB3.out.size
          have HD3 := hid hd3
          clear hb3 hd3 HP1 HB3
          have hor := or128 y (by rw [HY.out, Hb2.out]; have := Hb3.out; omega)
          have hy128 : y < 128 := by rw [HY.out, Hb2.out]; exact Hb3.out
          rw [Nat.mod_eq_of_lt hy128] at hor
          obtain ⟨z, hz⟩ : ∃ z : Nat, z = y + 128 := ⟨_, rfl⟩
          rw [← hz] at hor
          have HZ := hid hz
          have HY8 := hid hy128
          obtain ⟨X, hX⟩ : ∃ X, X = S.extract 0 n := ⟨_, rfl⟩
          have HXX := hid hX
          clear hz hy128 hX
          have k0 : (0 : Int) ≤ (n : Int) := by omega
          have k1 : (n : Int) ≤ (n : Int) + 1 := by omega
          have k2 : (n : Int) < (n : Int) + 1 := by omega
          have k3 : n < S.size := by omega
          have k4 : n ≤ S.size := by omega
          have k5 : IntKind.i64.wrap ((n : Int) + 1 - 1) = (n : Int) := by rw [IntKind.wrap_i64]; omega
          have k6 : (n : Int) ≤ (S.size : Int) := by omega
          have k7 : (n : Int) < (S.size : Int) := by omega
          have hsl : ∀ wx : World, (Instr.slice 9 (.string S) none (some (.int .i64 (n : Int))) none).run Try.prog wx = .ok (.string X) wx := by
            intro wx
            rw [HXX.out]
            simp [Instr.slice, run_underlying Try.underlying9, Instr.sliceBounds, go_sem, hsz]
            intro h; omega
          have k9 : IntKind.i64.wrap (n : Int) = (n : Int) := by rw [IntKind.wrap_i64]; omega
          have k8 : ((n : Int) + 1 < (n : Int)) = False := by simp; omega
          have hcv := run_convert_bytes_arg (P := Try.prog) (w3.alloc (.cells #[.int .u8 (z : Int), .int .u8 0] 5)).drew 34 5 Try.underlying34 Try.underlying5 w3.heap.size 0 2 2 ([z, 0].map Int.ofNat) rfl (fun i hi => by
            match i, hi with
            | 0, _ => simp [go_sem]
            | 1, _ => simp [go_sem]) 9 Try.underlying9
          rw [strOfNums_nats] at hcv
          have hz8 : z < 256 := by have := HZ.out; have := HY8.out; omega
          have HO : Hid (X ++ ofNats [z, 0] = ofNats ((vb v).take n ++ [z, 0])) := by
            show X ++ ofNats [z, 0] = ofNats ((vb v).take n ++ [z, 0])
            rw [HXX.out, HX.out, ofNats_append]
          have HO8 : Hid (B8 ((vb v).take n ++ [z, 0])) := (H8.out.take n).append (fun x hx => by simp at hx; omega)
          have hXs : X.size = n := by rw [HXX.out, HX.out, ofNats_size, List.length_take]; have := Hn.out; omega
          have hZs : (ofNats [z, 0]).size = 2 := rfl
          have hXl : (n + 2 ≤ 9223372036854775807) = True := by simp; omega
          have hXm : X.size + (ofNats [z, 0]).size ≤ 9223372036854775807 := by rw [hXs, hZs]; omega
          go_wp2_with fail
          go_cut [9] (fun s9 wx => ∃ q, s9 = .pointer (some ⟨q, 0, none⟩) ∧ Hid (w3.heap.size ≤ q ∧ Below w3.heap.size w3 wx ∧ DecAt wx q 0 (.at ((vb v).take n ++ [z, 0]))))
          case first =>
            go_region_with (go_at_call 6; refine (open_at HO.out HO8.out rfl).mono ?_; rintro e w4 ⟨rfl, hb4, hl4, hd4⟩; have HB5 := hid hb4; have HD5 := hid hd4; clear hb4 hd4)
            all_goals (try go_wp2_with fail)
            all_goals go_meet
            have hs4 : (w3.alloc (.cells #[.int .u8 (z : Int), .int .u8 0] 5)).drew.heap.size = w3.heap.size + 1 := by simp
            refine ⟨_, rfl, ?_, ?_, hs4 ▸ HD5.out⟩
            · omega
            · exact Below.on (Below.al (Below.refl _ _) _).drew HB5.out
          case rest =>
            obtain ⟨q, rfl, HQ⟩ := hcut
            have HD6 : Hid (DecAt wc q 0 (.at ((vb v).take n ++ [z, 0]))) := HQ.out.2.2
            have HD4 : Hid (DecAt wc p1 0 (.at ((vb v).take n))) := HD3.out.later HQ.out.2.1
            have HB5 : Hid (Below w.heap.size w wc) := Below.on HB4.out HQ.out.2.1
            have HPQ : Hid (p1 < q ∧ w.heap.size ≤ q) := ⟨Nat.lt_of_lt_of_le hl3 HQ.out.1, Nat.le_trans HB4.out.size HQ.out.1⟩
            have HLn : Hid ((vb v).length ≤ 10) := (by have := Hn.out; show (vb v).length ≤ 10; omega)
            have HT1 : Hid (tVar v (.at ((vb v).take n)) = (0, .stop 30)) := by
              have := vgo_cut v 0 (by decide) (by unfold lim; omega)
              rw [Hn.out, Nat.add_sub_cancel] at this
              show tVar v (.at ((vb v).take n)) = (0, .stop 30)
              simp only [tVar, vdec, this]
            have HT2 : Hid (tVar v (.at ((vb v).take n ++ [z, 0])) = (0, .stop 31)) := by
              have := vgo_more_idle v 0 (by decide) (by unfold lim; omega)
              rw [Hn.out, Nat.add_sub_cancel, ← HY.out, ← HZ.out] at this
              show tVar v (.at ((vb v).take n ++ [z, 0])) = (0, .stop 31)
              simp only [tVar, vdec, this]
            have HT3 : Hid (tVar v (.at (vb v)) = (v, .at [])) := by
              have := tVar_vb (v := v) (m := v) [] hv (Nat.le_refl _)
              rw [List.append_nil] at this
              exact this
            clear hcv hsl hor hget HXX HX HO HO8 HD3 HQ HB4 hl3
            go_wp2_with fail
            refine (dvar_is HD4.out (by show ((vb v).take n).length ≤ _; have := HLn.out; simp; omega) HT1.out).mono ?_
            rintro e w5 ⟨rfl, hc5, hd5⟩
            have HB6 : Hid (Below w.heap.size w w5) := HB5.out.trans (hc5.below HL3.out HB5.out.size)
            have HD7 : Hid (DecAt w5 q 0 (.at ((vb v).take n ++ [z, 0]))) := HD6.out.keep hc5 (.inl (by have := HPQ.out; omega))
            have HD5 := hid hd5
            clear hc5 hd5 HD6 HD4
            go_wp2_with fail
            refine (end_is HD5.out rfl).mono ?_
            rintro e w6 ⟨rfl, rfl⟩
            go_wp2_with fail
            refine (dvar_is HD7.out (by show ((vb v).take n ++ [z, 0]).length ≤ _; have := HLn.out; simp; omega) HT2.out).mono ?_
            rintro e w7 ⟨rfl, hc7, hd7⟩
            have HB7 : Hid (Below w.heap.size w w7) := HB6.out.trans (hc7.below HPQ.out.2 HB6.out.size)
            have HD8 := hid hd7
            clear hc7 hd7 HD7 HD5
            go_wp2_with fail
            refine (end_is HD8.out rfl).mono ?_
            rintro e w8 ⟨rfl, rfl⟩
            go_wp2_with fail
            refine (open_at HS.out H8.out rfl).mono ?_
            rintro e w9 ⟨rfl, hb9, hl9, hd9⟩
            have HB9 : Hid (Below w.heap.size w w9) := Below.on HB7.out hb9
            have HD9 := hid hd9
            have HL9 : Hid (w.heap.size ≤ w8.heap.size) := HB7.out.size
            clear hb9 hd9
            go_wp2_with fail
            refine (dvar_is HD9.out (by show (vb v).length ≤ _; have := HLn.out; omega) HT3.out).mono ?_
            rintro e w10 ⟨rfl, hc10, hd10⟩
            have HB10 : Hid (Below w.heap.size w w10) := HB9.out.trans (hc10.below HL9.out HB9.out.size)
            have HD10 := hid hd10
            clear hc10 hd10
            go_wp2_with fail
            refine (end_is HD10.out rfl).mono ?_
            rintro e w11 ⟨rfl, rfl⟩
            go_wp2_with fail
            go_ret
            exact ⟨rfl, HB10.out⟩

end Go.Proofs.Ytchfoipkaookmaa
