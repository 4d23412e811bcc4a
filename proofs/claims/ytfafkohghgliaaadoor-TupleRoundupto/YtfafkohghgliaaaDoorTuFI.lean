import Derived.Test.YtfafkohghgliaaaDoorTuInt
import Derived.Test.YtfafkohghgliaaaDoorTuQ
import Derived.Test.YtfafkohghgliaaaDoorTuVal
import Derived.Test.YtfafkohghgliaaaDoorTuFe
import Derived.Test.YtfafkohghgliaaaDoorTuRefE
import Derived.BigQuiet
import Derived.Lib.QuietBelow
/- The program reads an integer. -/
namespace Go.Proofs.YtfafkohghgliaaaDoor.Tu
open Go.RowKit Go.Sort Go.Proofs.YtfafkohghgliaaaDoor
set_option linter.unusedVariables false
set_option linter.unusedSectionVars false
variable [DecidableEq Vl]
set_option maxRecDepth 100000

/-- a number of any size in 64 bits with a sign -/
theorem sig64 (n : Int) : ∃ q, IntKind.i64.wrap n = n + q * 18446744073709551616 ∧ In64 (IntKind.i64.wrap n) := by
  have h0 : IntKind.i64.wrap n = if 9223372036854775808 ≤ n % 18446744073709551616 then n % 18446744073709551616 - 18446744073709551616 else n % 18446744073709551616 := by simp [IntKind.wrap, IntKind.bits, IntKind.signed]
  have h1 := Int.emod_nonneg n (show (18446744073709551616 : Int) ≠ 0 by decide)
  have h2 := Int.emod_lt_of_pos n (show (0 : Int) < 18446744073709551616 by decide)
  have h3 := Int.emod_add_mul_ediv n 18446744073709551616
  rw [h0]
  split
  · exact ⟨-(n / 18446744073709551616) - 1, by omega, by omega, by omega⟩
  · exact ⟨-(n / 18446744073709551616), by omega, by omega, by omega⟩
theorem wrapR (n : Int) : RowKit.wrap64 n = IntKind.i64.wrap n := by
  have h0 : IntKind.i64.wrap n = if 9223372036854775808 ≤ n % 18446744073709551616 then n % 18446744073709551616 - 18446744073709551616 else n % 18446744073709551616 := by simp [IntKind.wrap, IntKind.bits, IntKind.signed]
  rw [h0]
  unfold RowKit.wrap64
  split <;> omega
theorem wrap_same {a b q : Int} (h : a = b + q * 18446744073709551616) : IntKind.i64.wrap a = IntKind.i64.wrap b := by
  have e : a % 18446744073709551616 = b % 18446744073709551616 := by omega
  simp [IntKind.wrap, IntKind.bits, IntKind.signed, e]
/-- a byte behind a shifted number -/
theorem or_byte (n : Int) {d : Nat} (hd : d < 256) : bits .or .i64 (IntKind.i64.wrap (n * 256)) (d : Int) = IntKind.i64.wrap (n * 256 + d) := by
  obtain ⟨q, hq, _⟩ := sig64 (n * 256)
  have h1 : (BitVec.ofInt 64 (IntKind.i64.wrap (n * 256))).toNat = 256 * ((n * 256) % 18446744073709551616 / 256).toNat := by
    rw [BitVec.toNat_ofInt, hq]
    have := Int.emod_nonneg (n * 256) (show (18446744073709551616 : Int) ≠ 0 by decide)
    omega
  have h2 : (BitVec.ofInt 64 (d : Int)).toNat = d := by
    rw [BitVec.ofInt_natCast, BitVec.toNat_ofNat]; exact Nat.mod_eq_of_lt (by omega)
  show IntKind.i64.wrap ((BitVec.ofInt 64 (IntKind.i64.wrap (n * 256)) ||| BitVec.ofInt 64 (d : Int)).toNat : Int) = _
  rw [BitVec.toNat_or, h1, h2]
  have h3 := Nat.two_pow_add_eq_or_of_lt (i := 8) (b := d) hd ((n * 256) % 18446744073709551616 / 256).toNat
  rw [show (2 : Nat) ^ 8 = 256 from rfl] at h3
  rw [← h3]
  have h4 := Int.emod_nonneg (n * 256) (show (18446744073709551616 : Int) ≠ 0 by decide)
  have h5 := Int.emod_add_mul_ediv (n * 256) 18446744073709551616
  refine wrap_same (q := -((n * 256) / 18446744073709551616)) ?_
  omega
theorem vb_take {l : List Nat} {i : Nat} (h : i < l.length) : vb (l.take (i + 1)) = vb (l.take i) * 256 + l[i] := by rw [List.take_succ_eq_append_getElem h, vb_snoc]
theorem xor_00 {d : Nat} (h : d < 256) : bits .xor .u8 (d : Int) 0 = (d : Int) := by
  have : ∀ e : Fin 256, bits .xor .u8 ((e.val : Nat) : Int) 0 = ((e.val : Nat) : Int) := by decide +kernel
  exact this ⟨d, h⟩
set_option maxHeartbeats 4000000 in
theorem fint_pos {c : Nat} {r : List Nat} (h8 : B8 (c :: r)) (h1 : 24 ≤ c) (h2 : c ≤ 32) (hl : r.length ≤ 67108864) (w : World) : Calls Tryd.prog 26 #[.string (ofNats (c :: r))] w (Fe (c :: r) w) := by
  have hsz : (ofNats (c :: r)).size = r.length + 1 := by rw [ofNats_size]; rfl
  obtain ⟨n, hn⟩ : ∃ n, n = r.length := ⟨_, rfl⟩
  obtain ⟨k, hk⟩ : ∃ k, k = dgs c := ⟨_, rfl⟩
  have hkc : 24 + k = c := by rw [hk]; unfold dgs; rw [if_pos h1]; omega
  have hcb : (c : Int) - 24 = (k : Int) := by omega
  have hix0 : ∀ w, (Instr.index 9 (.string (ofNats (c :: r))) (.int .i64 0)).run Tryd.prog w = .ok (.int .u8 (c : Int)) w := fun w => by simpa using index_at (t := c :: r) (k := 0) h8 rfl w
  have H8 := hid h8
  have HN := hid hn
  have HK := hid hk
  have HT : Hid (takeV (c :: r) = takeI c r) := takeV_int r (by omega) (by omega)
  rw [← hn] at hl hsz
  obtain ⟨b, hb⟩ : ∃ b, b = ofNats (c :: r) := ⟨_, rfl⟩
  have HBE := hid hb
  rw [← hb] at hix0 hsz ⊢
  clear h8 hn hk hb
  by_cases hlen : n < k
  · have HV : Hid (takeV (c :: r) = none) := by show _ = _; rw [HT.out]; exact takeI_short (by rw [← HK.out, ← HN.out]; exact hlen)
    go_enter Tryd.func26, Tryd.ntmps26
    go_wp2_with fail
    refine bodyPost_ret (v := .tuple #[vlv 0 false 0 ⟨#[]⟩, .int .i64 0]) (by simp [results, Tryd.results26, go_sem]) rfl (Fe.none HV.out rfl ?_)
    (repeat (first | exact Below.refl _ _ | assumption | refine Below.drew ?_ | refine Below.al ?_ _ | refine Below.setCell ?_ (by first | exact Nat.le_refl _ | (simp; omega) | (simp; done)) _ | refine Below.on ?_ (by assumption)))
  obtain ⟨d, hd⟩ : ∃ d, d = r.take k := ⟨_, rfl⟩
  have HD := hid hd
  have hdl : d.length = k := by rw [hd, List.length_take, ← HN.out]; omega
  have HDL : Hid (d.length = dgs c) := by show _ = _; rw [hdl, HK.out]
  clear hd
  obtain ⟨m, hm⟩ : ∃ m, m = dgL c d := ⟨_, rfl⟩
  have hml : m.length = k := by rw [hm, ← hdl]; unfold dgL; rw [if_neg (by omega)]
  have HM := hid hm
  have HMN := hid hml
  clear hm
  obtain ⟨x, hx⟩ : ∃ x, x = IntKind.i64.wrap (IntKind.i64.wrap (vb m : Int) * 1) := ⟨_, rfl⟩
  have hx64 : In64 x := by obtain ⟨_, _, h⟩ := sig64 (IntKind.i64.wrap (vb m : Int) * 1); rw [hx]; exact h
  have hxq : ∃ q, x = dgI c (vb (dgL c d)) + q * 18446744073709551616 := by
    obtain ⟨q1, e1, _⟩ := sig64 (vb m : Int)
    obtain ⟨q2, e2, _⟩ := sig64 (IntKind.i64.wrap (vb m : Int) * 1)
    refine ⟨q1 * 1 + q2, ?_⟩
    rw [hx, e2, e1, ← HM.out]
    unfold dgI
    rw [if_neg (by omega)]
    omega
  have HX := hid hx
  obtain ⟨u, hu⟩ : ∃ u, decide (intC x = c :: d) = u := ⟨_, rfl⟩
  have hsub : b.extract 0 (1 + k) = ofNats (c :: d) := by
    rw [HBE.out, ofNats_extract H8.out]
    have e1 : 1 + k = k + 1 := by omega
    rw [e1, List.drop_zero, List.take_succ_cons, ← HD.out]
  have hsub2 : b.extract 0 (k + 1) = ofNats (c :: d) := by rw [← hsub, Nat.add_comm]
  have hcd8 : B8 (c :: d) := by rw [HD.out]; intro y hy; rcases List.mem_cons.1 hy with rfl | hy
                                · exact H8.out _ (by simp)
                                · exact H8.out _ (by simp [List.mem_of_mem_take hy])
  have hq : ((ofNats (intC x)).toList == (ofNats (c :: d)).toList) = u := by rw [← hu]; exact beq_nats (intC_b8 hx64) hcd8
  have HR : Hid (takeV (c :: r) = if u then some (vInt x, r.drop k) else none) := by
    show _ = _
    have er : r = d ++ r.drop k := by rw [HD.out]; exact (List.take_append_drop k r).symm
    rw [HT.out]
    cases u with
    | true =>
      rw [er]
      rw [takeI_hit (by omega) (by omega) HDL.out hx64 (by simpa using hu)]
      rw [← er]; rfl
    | false =>
      obtain ⟨q, hq⟩ := hxq
      rw [er]
      rw [takeI_miss hcd8 (by omega) (by omega) HDL.out hx64 hq (by simpa using hu)]
      rfl
  have HAP := fun w => hid (appInt_is (B := w.heap.size) (OwnB.nil w _) (Nat.le_refl _) hx64 (by simp))
  have HIV := fun w => hid (int_is x w)
  have HH8 := hid hcd8
  clear hxq hu hx64 hcd8
  obtain ⟨s1, hs1⟩ : ∃ s1, s1 = ofNats (intC x) := ⟨_, rfl⟩
  obtain ⟨s2, hs2⟩ : ∃ s2, s2 = ofNats (c :: d) := ⟨_, rfl⟩
  have HS1 := hid hs1
  rw [← hs2] at hsub2 hsub
  rw [← hs1, ← hs2] at hq
  clear hs1 hs2 hx
  go_enter Tryd.func26, Tryd.ntmps26
  go_wp2_with fail
  go_loopg [7, 8, 24] k (fun g s7 s8 s24 wr => ∃ i : Nat, i ≤ k ∧ g = k - i ∧ s24 = .int .i64 i ∧ s7 = .int .i64 (RowKit.wrap64 (vb (m.take i) : Int)) ∧ wr = w.alloc (.cells #[.int .i64 0, .bool false, .int .i64 0, .string ⟨#[]⟩] 32))
  case atStart => exact ⟨0, by omega, by omega, rfl, by simp [vb, RowKit.wrap64], rfl⟩
  case round =>
    obtain ⟨i, hi, rfl, rfl, rfl, rfl⟩ := hrel
    by_cases hlt : i < k
    · have hid' : i < d.length := by rw [hdl]; exact hlt
      have him : i < m.length := by rw [hml]; exact hlt
      have hir : i < r.length := by rw [← HN.out]; omega
      obtain ⟨e, he⟩ : ∃ e, e = d[i] := ⟨_, rfl⟩
      have hei : (c :: r)[1 + i]? = some e := by
        rw [he, Nat.add_comm, List.getElem?_cons_succ]
        have : d[i] = r[i] := by simp [HD.out]
        rw [this]; exact List.getElem?_eq_getElem hir
      have he8 : e < 256 := by rw [he]; exact HH8.out _ (by simp)
      have hix : ∀ w, (Instr.index 9 (.string b) (.int .i64 (1 + (i : Int)))).run Tryd.prog w = .ok (.int .u8 (e : Int)) w := fun w => by rw [HBE.out]; simpa using index_at H8.out hei w
      have hme : m[i] = e := by
        have : m[i] = (dgL c d)[i]'(by rw [← HM.out]; exact him) := by simp only [HM.out]
        rw [this, he]; simp [dgL, show ¬ c < 24 by omega]
      obtain ⟨e', he'⟩ : ∃ e' : Nat, e' = e := ⟨_, rfl⟩
      have he8' : e' < 256 := by rw [he']; exact he8
      have hxr : bits .xor .u8 (e : Int) 0 = (e' : Int) := by rw [he']; exact xor_00 he8
      replace hme : m[i] = e' := by rw [hme, he']
      have hor := or_byte (vb (m.take i) : Int) (d := e') he8'
      have HVT : Hid (((vb (m.take (i + 1)) : Nat) : Int) = (vb (m.take i) : Int) * 256 + (e' : Nat)) := by show (((vb (m.take (i + 1)) : Nat)) : Int) = _; rw [vb_take him, hme, Int.natCast_add, Int.natCast_mul]; rfl
      have HWW : Hid (IntKind.i64.wrap (RowKit.wrap64 (vb (m.take i) : Int) * 256) = IntKind.i64.wrap ((vb (m.take i) : Int) * 256)) := by
        show _ = _
        rw [wrapR]
        obtain ⟨q, hq, _⟩ := sig64 (vb (m.take i) : Int)
        exact wrap_same (q := q * 256) (by rw [hq]; omega)
      have hww := HWW.out
      clear hid' him hir he hei hme he' he8
      obtain ⟨z, hz⟩ : ∃ z, z = RowKit.wrap64 (vb (m.take i) : Int) := ⟨_, rfl⟩
      rw [← hz] at hww ⊢
      obtain ⟨zz, hzz⟩ : ∃ zz, zz = IntKind.i64.wrap ((vb (m.take i) : Int) * 256) := ⟨_, rfl⟩
      rw [← hzz] at hww hor
      clear hz hzz HWW
      go_wp2_with fail
      go_roundg (k - (i + 1))
      case measure => omega
      case rel => exact ⟨i + 1, by omega, rfl, by go_num, by rw [HVT.out], rfl⟩
    · obtain rfl : i = k := by omega
      have HX' : Hid (RowKit.wrap64 (RowKit.wrap64 (vb (m.take i) : Int)) = x) := by show _ = _; rw [HX.out, wrapR, wrapR, ← HMN.out, List.take_length]; rw [Int.mul_one]
      have hx' := HX'.out
      obtain ⟨z, hz⟩ : ∃ z, z = RowKit.wrap64 (vb (m.take i) : Int) := ⟨_, rfl⟩
      rw [← hz] at hx' ⊢
      clear hz HX'
      obtain ⟨w1, hw1⟩ : ∃ w1, w1 = w.alloc (.cells #[.int .i64 0, .bool false, .int .i64 0, .string ⟨#[]⟩] 32) := ⟨_, rfl⟩
      have hb1 : Below w.heap.size w w1 := by rw [hw1]; exact Below.al (Below.refl _ _) _
      have q0 : w1.cell? ⟨w.heap.size, 0, none⟩ = some (.int .i64 0) := by rw [hw1]; simp [go_sem]
      have q1 : w1.cell? ⟨w.heap.size, 1, none⟩ = some (.bool false) := by rw [hw1]; simp [go_sem]
      have q2 : w1.cell? ⟨w.heap.size, 2, none⟩ = some (.int .i64 0) := by rw [hw1]; simp [go_sem]
      have q3 : w1.cell? ⟨w.heap.size, 3, none⟩ = some (.string ⟨#[]⟩) := by rw [hw1]; simp [go_sem]
      have hw1s : w.heap.size < w1.heap.size := by rw [hw1]; simp
      have HL1 : Hid (Loose w1 w.heap.size) := by intro o; rw [hw1]; simp [go_sem]
      rw [← hw1]
      have HB1 := hid hb1
      clear hw1 hb1
      have hwi : IntKind.i64.wrap (1 + (i : Int)) = 1 + (i : Int) := by rw [← wrapR]; unfold RowKit.wrap64; omega
      have hbi0 : (0 : Int) ≤ 1 + (i : Int) := by omega
      have hbi1 : (1 : Int) + (i : Int) ≤ (n : Int) + 1 := by omega
      have htn : (1 + (i : Int)).toNat = 1 + i := by omega
      go_upto_region 14 with fail
      go_region_with (go_at_call 22; (refine (HAP _).out.mono ?_; rintro e2 w2 ⟨v2, rfl, ho2, hb2⟩; have hcv := ho2.convert; rw [List.nil_append, ← HS1.out] at hcv; have HB2 : Hid (Below w1.heap.size w1 w2) := (by refine Below.on ?_ hb2; (repeat (first | with_reducible exact Below.refl _ _ | with_reducible assumption | with_reducible refine Below.drew ?_ | with_reducible refine Below.al ?_ _ | with_reducible refine Below.setCell ?_ (by first | exact Nat.le_refl _ | (simp; omega) | (simp; done)) _ | with_reducible refine Below.on ?_ (by assumption)))); have c0 := cell_later HB2.out q0; have c1 := cell_later HB2.out q1; have c2 := cell_later HB2.out q2; have c3 := cell_later HB2.out q3; have HL2 := hid (HL1.out.later HB2.out hw1s); have f0 := HL2.out 0; have f1 := HL2.out 1; have f2 := HL2.out 2; have f3 := HL2.out 3; clear hb2 ho2))
      all_goals (cases u with
        | true =>
          go_wp2_with (go_at_call 27; refine (HIV _).out.mono ?_; rintro e3 w3 ⟨rfl, hb3⟩; have HB3 := hid hb3; have d0 := cell_later HB3.out c0; have d1 := cell_later HB3.out c1; have d2 := cell_later HB3.out c2; have d3 := cell_later HB3.out c3; have HL3 := hid (HL2.out.later HB3.out (by have := HB2.out.size; omega)); clear f0 f1 f2 f3; have f0 := HL3.out 0; have f1 := HL3.out 1; have f2 := HL3.out 2; have f3 := HL3.out 3; clear hb3)
          refine bodyPost_ret (v := .tuple #[vlv 2 false x ⟨#[]⟩, .int .i64 (1 + (i : Int))]) (by simp [results, Tryd.results26, go_sem, d0, d1, d2, d3]) rfl (Fe.some (r := r.drop i) (v := vInt x) (by rw [HR.out]; rfl) ?_ ?_)
          · rw [show (((c :: r).length - (r.drop i).length : Nat) : Int) = 1 + (i : Int) by rw [List.length_drop, List.length_cons, ← HN.out]; omega]
            rfl
          · have hbb := Below.on (Below.on HB1.out HB2.out) HB3.out
            (repeat (first | exact Below.refl _ _ | assumption | refine Below.drew ?_ | refine Below.al ?_ _ | refine Below.setCell ?_ (by first | exact Nat.le_refl _ | (simp; omega) | (simp; done)) _ | refine Below.on ?_ (by assumption)))
        | false =>
          go_wp2_with fail
          refine bodyPost_ret (v := .tuple #[vlv 0 false 0 ⟨#[]⟩, .int .i64 0]) (by simp [results, Tryd.results26, go_sem, c0, c1, c2, c3]) rfl (Fe.none (by rw [HR.out]; rfl) rfl ?_)
          have hbb := Below.on HB1.out HB2.out
          (repeat (first | exact Below.refl _ _ | assumption | refine Below.drew ?_ | refine Below.al ?_ _ | refine Below.setCell ?_ (by first | exact Nat.le_refl _ | (simp; omega) | (simp; done)) _ | refine Below.on ?_ (by assumption))))
set_option maxHeartbeats 4000000 in
theorem fint_neg {c : Nat} {r : List Nat} (h8 : B8 (c :: r)) (h1 : 16 ≤ c) (h2 : c < 24) (hl : r.length ≤ 67108864) (w : World) : Calls Tryd.prog 26 #[.string (ofNats (c :: r))] w (Fe (c :: r) w) := by
  have hsz : (ofNats (c :: r)).size = r.length + 1 := by rw [ofNats_size]; rfl
  obtain ⟨n, hn⟩ : ∃ n, n = r.length := ⟨_, rfl⟩
  obtain ⟨k, hk⟩ : ∃ k, k = dgs c := ⟨_, rfl⟩
  have hkc : k + c = 24 := by rw [hk]; unfold dgs; rw [if_neg (by omega)]; omega
  have hcb : (c : Int) - 24 = -(k : Int) := by omega
  have hk0 : 0 < k := by omega
  have hix0 : ∀ w, (Instr.index 9 (.string (ofNats (c :: r))) (.int .i64 0)).run Tryd.prog w = .ok (.int .u8 (c : Int)) w := fun w => by simpa using index_at (t := c :: r) (k := 0) h8 rfl w
  have H8 := hid h8
  have HN := hid hn
  have HK := hid hk
  have HT : Hid (takeV (c :: r) = takeI c r) := takeV_int r (by omega) (by omega)
  rw [← hn] at hl hsz
  obtain ⟨b, hb⟩ : ∃ b, b = ofNats (c :: r) := ⟨_, rfl⟩
  have HBE := hid hb
  rw [← hb] at hix0 hsz ⊢
  clear h8 hn hk hb
  by_cases hlen : n < k
  · have HV : Hid (takeV (c :: r) = none) := by show _ = _; rw [HT.out]; exact takeI_short (by rw [← HK.out, ← HN.out]; exact hlen)
    go_enter Tryd.func26, Tryd.ntmps26
    go_wp2_with fail
    refine bodyPost_ret (v := .tuple #[vlv 0 false 0 ⟨#[]⟩, .int .i64 0]) (by simp [results, Tryd.results26, go_sem]) rfl (Fe.none HV.out rfl ?_)
    (repeat (first | exact Below.refl _ _ | assumption | refine Below.drew ?_ | refine Below.al ?_ _ | refine Below.setCell ?_ (by first | exact Nat.le_refl _ | (simp; omega) | (simp; done)) _ | refine Below.on ?_ (by assumption)))
  obtain ⟨d, hd⟩ : ∃ d, d = r.take k := ⟨_, rfl⟩
  have HD := hid hd
  have hdl : d.length = k := by rw [hd, List.length_take, ← HN.out]; omega
  have HDL : Hid (d.length = dgs c) := by show _ = _; rw [hdl, HK.out]
  clear hd
  obtain ⟨m, hm⟩ : ∃ m, m = dgL c d := ⟨_, rfl⟩
  have hml : m.length = k := by rw [hm, ← hdl]; unfold dgL; rw [if_pos h2]; exact cps_len d
  have HM := hid hm
  have HMN := hid hml
  clear hm
  obtain ⟨x, hx⟩ : ∃ x, x = IntKind.i64.wrap (IntKind.i64.wrap (vb m : Int) * -1) := ⟨_, rfl⟩
  have hx64 : In64 x := by obtain ⟨_, _, h⟩ := sig64 (IntKind.i64.wrap (vb m : Int) * -1); rw [hx]; exact h
  have hxq : ∃ q, x = dgI c (vb (dgL c d)) + q * 18446744073709551616 := by
    obtain ⟨q1, e1, _⟩ := sig64 (vb m : Int)
    obtain ⟨q2, e2, _⟩ := sig64 (IntKind.i64.wrap (vb m : Int) * -1)
    refine ⟨q1 * -1 + q2, ?_⟩
    rw [hx, e2, e1, ← HM.out]
    unfold dgI
    rw [if_pos h2]
    omega
  have HX := hid hx
  obtain ⟨u, hu⟩ : ∃ u, decide (intC x = c :: d) = u := ⟨_, rfl⟩
  have hsub : b.extract 0 (1 + k) = ofNats (c :: d) := by
    rw [HBE.out, ofNats_extract H8.out]
    have e1 : 1 + k = k + 1 := by omega
    rw [e1, List.drop_zero, List.take_succ_cons, ← HD.out]
  have hsub2 : b.extract 0 (k + 1) = ofNats (c :: d) := by rw [← hsub, Nat.add_comm]
  have hcd8 : B8 (c :: d) := by rw [HD.out]; intro y hy; rcases List.mem_cons.1 hy with rfl | hy
                                · exact H8.out _ (by simp)
                                · exact H8.out _ (by simp [List.mem_of_mem_take hy])
  have hq : ((ofNats (intC x)).toList == (ofNats (c :: d)).toList) = u := by rw [← hu]; exact beq_nats (intC_b8 hx64) hcd8
  have HR : Hid (takeV (c :: r) = if u then some (vInt x, r.drop k) else none) := by
    show _ = _
    have er : r = d ++ r.drop k := by rw [HD.out]; exact (List.take_append_drop k r).symm
    rw [HT.out]
    cases u with
    | true =>
      rw [er]
      rw [takeI_hit (by omega) (by omega) HDL.out hx64 (by simpa using hu)]
      rw [← er]; rfl
    | false =>
      obtain ⟨q, hq⟩ := hxq
      rw [er]
      rw [takeI_miss hcd8 (by omega) (by omega) HDL.out hx64 hq (by simpa using hu)]
      rfl
  have HAP := fun w => hid (appInt_is (B := w.heap.size) (OwnB.nil w _) (Nat.le_refl _) hx64 (by simp))
  have HIV := fun w => hid (int_is x w)
  have HH8 := hid hcd8
  clear hxq hu hx64 hcd8
  obtain ⟨s1, hs1⟩ : ∃ s1, s1 = ofNats (intC x) := ⟨_, rfl⟩
  obtain ⟨s2, hs2⟩ : ∃ s2, s2 = ofNats (c :: d) := ⟨_, rfl⟩
  have HS1 := hid hs1
  rw [← hs2] at hsub2 hsub
  rw [← hs1, ← hs2] at hq
  clear hs1 hs2 hx
  go_enter Tryd.func26, Tryd.ntmps26
  go_wp2_with fail
  go_loopg [7, 8, 24] k (fun g s7 s8 s24 wr => ∃ i : Nat, i ≤ k ∧ g = k - i ∧ s24 = .int .i64 i ∧ s7 = .int .i64 (RowKit.wrap64 (vb (m.take i) : Int)) ∧ wr = w.alloc (.cells #[.int .i64 0, .bool false, .int .i64 0, .string ⟨#[]⟩] 32))
  case atStart => exact ⟨0, by omega, by omega, rfl, by simp [vb, RowKit.wrap64], rfl⟩
  case round =>
    obtain ⟨i, hi, rfl, rfl, rfl, rfl⟩ := hrel
    by_cases hlt : i < k
    · have hid' : i < d.length := by rw [hdl]; exact hlt
      have him : i < m.length := by rw [hml]; exact hlt
      have hir : i < r.length := by rw [← HN.out]; omega
      obtain ⟨e, he⟩ : ∃ e, e = d[i] := ⟨_, rfl⟩
      have hei : (c :: r)[1 + i]? = some e := by
        rw [he, Nat.add_comm, List.getElem?_cons_succ]
        have : d[i] = r[i] := by simp [HD.out]
        rw [this]; exact List.getElem?_eq_getElem hir
      have he8 : e < 256 := by rw [he]; exact HH8.out _ (by simp)
      have hix : ∀ w, (Instr.index 9 (.string b) (.int .i64 (1 + (i : Int)))).run Tryd.prog w = .ok (.int .u8 (e : Int)) w := fun w => by rw [HBE.out]; simpa using index_at H8.out hei w
      have hme : m[i] = cpl e := by
        have : m[i] = (dgL c d)[i]'(by rw [← HM.out]; exact him) := by simp only [HM.out]
        rw [this, he]; simp [dgL, h2, cps]
      obtain ⟨e', he'⟩ : ∃ e' : Nat, e' = cpl e := ⟨_, rfl⟩
      have he8' : e' < 256 := by rw [he']; unfold cpl; omega
      have hxr : bits .xor .u8 (e : Int) 255 = (e' : Int) := by rw [he']; exact xor_ff he8
      replace hme : m[i] = e' := by rw [hme, he']
      have hor := or_byte (vb (m.take i) : Int) (d := e') he8'
      have HVT : Hid (((vb (m.take (i + 1)) : Nat) : Int) = (vb (m.take i) : Int) * 256 + (e' : Nat)) := by show (((vb (m.take (i + 1)) : Nat)) : Int) = _; rw [vb_take him, hme, Int.natCast_add, Int.natCast_mul]; rfl
      have HWW : Hid (IntKind.i64.wrap (RowKit.wrap64 (vb (m.take i) : Int) * 256) = IntKind.i64.wrap ((vb (m.take i) : Int) * 256)) := by
        show _ = _
        rw [wrapR]
        obtain ⟨q, hq, _⟩ := sig64 (vb (m.take i) : Int)
        exact wrap_same (q := q * 256) (by rw [hq]; omega)
      have hww := HWW.out
      clear hid' him hir he hei hme he' he8
      obtain ⟨z, hz⟩ : ∃ z, z = RowKit.wrap64 (vb (m.take i) : Int) := ⟨_, rfl⟩
      rw [← hz] at hww ⊢
      obtain ⟨zz, hzz⟩ : ∃ zz, zz = IntKind.i64.wrap ((vb (m.take i) : Int) * 256) := ⟨_, rfl⟩
      rw [← hzz] at hww hor
      clear hz hzz HWW
      go_wp2_with fail
      go_roundg (k - (i + 1))
      case measure => omega
      case rel => exact ⟨i + 1, by omega, rfl, by go_num, by rw [HVT.out], rfl⟩
    · obtain rfl : i = k := by omega
      have HX' : Hid (RowKit.wrap64 (-RowKit.wrap64 (vb (m.take i) : Int)) = x) := by show _ = _; rw [HX.out, wrapR, wrapR, ← HMN.out, List.take_length]; rw [Int.mul_neg, Int.mul_one]
      have hx' := HX'.out
      obtain ⟨z, hz⟩ : ∃ z, z = RowKit.wrap64 (vb (m.take i) : Int) := ⟨_, rfl⟩
      rw [← hz] at hx' ⊢
      clear hz HX'
      obtain ⟨w1, hw1⟩ : ∃ w1, w1 = w.alloc (.cells #[.int .i64 0, .bool false, .int .i64 0, .string ⟨#[]⟩] 32) := ⟨_, rfl⟩
      have hb1 : Below w.heap.size w w1 := by rw [hw1]; exact Below.al (Below.refl _ _) _
      have q0 : w1.cell? ⟨w.heap.size, 0, none⟩ = some (.int .i64 0) := by rw [hw1]; simp [go_sem]
      have q1 : w1.cell? ⟨w.heap.size, 1, none⟩ = some (.bool false) := by rw [hw1]; simp [go_sem]
      have q2 : w1.cell? ⟨w.heap.size, 2, none⟩ = some (.int .i64 0) := by rw [hw1]; simp [go_sem]
      have q3 : w1.cell? ⟨w.heap.size, 3, none⟩ = some (.string ⟨#[]⟩) := by rw [hw1]; simp [go_sem]
      have hw1s : w.heap.size < w1.heap.size := by rw [hw1]; simp
      have HL1 : Hid (Loose w1 w.heap.size) := by intro o; rw [hw1]; simp [go_sem]
      rw [← hw1]
      have HB1 := hid hb1
      clear hw1 hb1
      have hwi : IntKind.i64.wrap (1 + (i : Int)) = 1 + (i : Int) := by rw [← wrapR]; unfold RowKit.wrap64; omega
      have hbi0 : (0 : Int) ≤ 1 + (i : Int) := by omega
      have hbi1 : (1 : Int) + (i : Int) ≤ (n : Int) + 1 := by omega
      have htn : (1 + (i : Int)).toNat = 1 + i := by omega
      go_upto_region 14 with fail
      go_region_with (go_at_call 22; (refine (HAP _).out.mono ?_; rintro e2 w2 ⟨v2, rfl, ho2, hb2⟩; have hcv := ho2.convert; rw [List.nil_append, ← HS1.out] at hcv; have HB2 : Hid (Below w1.heap.size w1 w2) := (by refine Below.on ?_ hb2; (repeat (first | with_reducible exact Below.refl _ _ | with_reducible assumption | with_reducible refine Below.drew ?_ | with_reducible refine Below.al ?_ _ | with_reducible refine Below.setCell ?_ (by first | exact Nat.le_refl _ | (simp; omega) | (simp; done)) _ | with_reducible refine Below.on ?_ (by assumption)))); have c0 := cell_later HB2.out q0; have c1 := cell_later HB2.out q1; have c2 := cell_later HB2.out q2; have c3 := cell_later HB2.out q3; have HL2 := hid (HL1.out.later HB2.out hw1s); have f0 := HL2.out 0; have f1 := HL2.out 1; have f2 := HL2.out 2; have f3 := HL2.out 3; clear hb2 ho2))
      all_goals (cases u with
        | true =>
          go_wp2_with (go_at_call 27; refine (HIV _).out.mono ?_; rintro e3 w3 ⟨rfl, hb3⟩; have HB3 := hid hb3; have d0 := cell_later HB3.out c0; have d1 := cell_later HB3.out c1; have d2 := cell_later HB3.out c2; have d3 := cell_later HB3.out c3; have HL3 := hid (HL2.out.later HB3.out (by have := HB2.out.size; omega)); clear f0 f1 f2 f3; have f0 := HL3.out 0; have f1 := HL3.out 1; have f2 := HL3.out 2; have f3 := HL3.out 3; clear hb3)
          refine bodyPost_ret (v := .tuple #[vlv 2 false x ⟨#[]⟩, .int .i64 (1 + (i : Int))]) (by simp [results, Tryd.results26, go_sem, d0, d1, d2, d3]) rfl (Fe.some (r := r.drop i) (v := vInt x) (by rw [HR.out]; rfl) ?_ ?_)
          · rw [show (((c :: r).length - (r.drop i).length : Nat) : Int) = 1 + (i : Int) by rw [List.length_drop, List.length_cons, ← HN.out]; omega]
            rfl
          · have hbb := Below.on (Below.on HB1.out HB2.out) HB3.out
            (repeat (first | exact Below.refl _ _ | assumption | refine Below.drew ?_ | refine Below.al ?_ _ | refine Below.setCell ?_ (by first | exact Nat.le_refl _ | (simp; omega) | (simp; done)) _ | refine Below.on ?_ (by assumption)))
        | false =>
          go_wp2_with fail
          refine bodyPost_ret (v := .tuple #[vlv 0 false 0 ⟨#[]⟩, .int .i64 0]) (by simp [results, Tryd.results26, go_sem, c0, c1, c2, c3]) rfl (Fe.none (by rw [HR.out]; rfl) rfl ?_)
          have hbb := Below.on HB1.out HB2.out
          (repeat (first | exact Below.refl _ _ | assumption | refine Below.drew ?_ | refine Below.al ?_ _ | refine Below.setCell ?_ (by first | exact Nat.le_refl _ | (simp; omega) | (simp; done)) _ | refine Below.on ?_ (by assumption))))
end Go.Proofs.YtfafkohghgliaaaDoor.Tu
