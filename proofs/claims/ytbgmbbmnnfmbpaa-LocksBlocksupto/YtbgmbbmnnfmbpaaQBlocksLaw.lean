import Derived.Test.YtbgmbbmnnfmbpaaQSet
import Derived.Test.YtbgmbbmnnfmbpaaQBlocks
/- LocksBlocks. -/
namespace Go.Proofs.Ytbgmbbmnnfmbpaa.Lk
open Go.RowKit Go.Sort Go.Lib
set_option linter.unusedVariables false

theorem setM_sum : ∀ (n : Nat) (L : List Hv), L.length = n → sumW (setM L) ≤ (L.map fun x => x.h.ws.length).sum
  | 0, L, h => by rw [List.eq_nil_of_length_eq_zero h]; simp [setM, sumW]
  | n + 1, L, h => by
    have e : L.take n ++ [nthH L n] = L := by rw [← nthH_take (by omega), ← h, List.take_length]
    have h1 := setM_sum n (L.take n) (by simp; omega)
    have h2 := holdM_sum (setM (L.take n)) (nthH L n).h
    rw [← setM_snoc, e] at h2
    have h3 : (L.map fun x => x.h.ws.length).sum = ((L.take n).map fun x => x.h.ws.length).sum + (nthH L n).h.ws.length := by
      conv => lhs; rw [← e]
      simp
    omega
/-- the ids of those that a predicate picks -/
theorem told_pick {L : List Hd} {D : List Ix} {q : Hd → Bool} (hr : L.Pairwise (fun x y => ltI x.id y.id = true)) (hD : D.Pairwise (fun x y => ltI x y = true)) (hm : ∀ i, i ∈ D ↔ ∃ h ∈ L, h.id = i ∧ q h = true) : D = (L.filter q).map Hd.id := by
  refine rise_uniq hD ?_ (fun i => ?_)
  · rw [List.pairwise_map]; exact hr.filter _
  · rw [hm i]
    constructor
    · rintro ⟨h, hh, rfl, hq⟩; exact List.mem_map.2 ⟨h, List.mem_filter.2 ⟨hh, hq⟩, rfl⟩
    · intro h
      obtain ⟨x, hx, rfl⟩ := List.mem_map.1 h
      obtain ⟨h1, h2⟩ := List.mem_filter.1 hx
      exact ⟨x, h1, rfl, h2⟩
/-- how many of the first i are picked -/
def cnt (q : Hd → Bool) (U : List Hv) (i : Nat) : Nat := ((U.take i).filter (fun x => q x.h)).length
theorem cnt_succ {q : Hd → Bool} {U : List Hv} {i : Nat} (hi : i < U.length) : cnt q U (i + 1) = cnt q U i + (if q (nthH U i).h then 1 else 0) := by
  rw [cnt, nthH_take hi, List.filter_append, List.length_append, cnt]
  cases h : q (nthH U i).h <;> simp [h]
theorem cnt_le {q : Hd → Bool} {U : List Hv} {i : Nat} : cnt q U i ≤ i := by
  unfold cnt
  have := List.length_filter_le (fun x : Hv => q x.h) (U.take i)
  have h2 := List.length_take_le i U
  omega
theorem pick_eq {q : Hd → Bool} {U : List Hv} : ((U.map Hv.h).filter q).map Hd.id = (U.filter (fun x => q x.h)).map (fun x => x.h.id) := by
  rw [List.filter_map, List.map_map]; rfl
theorem pick_len {q : Hd → Bool} {U : List Hv} : (((U.map Hv.h).filter q).map Hd.id).length = cnt q U U.length := by
  rw [pick_eq, List.length_map, cnt, List.take_length]
theorem pick_at {q : Hd → Bool} {U : List Hv} {i : Nat} (hi : i < U.length) (hq : q (nthH U i).h = true) : (((U.map Hv.h).filter q).map Hd.id)[cnt q U i]? = some (nthH U i).h.id := by
  have e : U = U.take i ++ (nthH U i :: U.drop (i + 1)) := by
    have : nthH U i = U[i] := by simp [nthH, hi]
    rw [this, List.getElem_cons_drop, List.take_append_drop]
  rw [pick_eq]
  conv => lhs; rw [e]
  rw [List.filter_append, List.map_append, List.getElem?_append_right (by simp [cnt, e.symm])]
  simp [cnt, hq, ← e]
theorem blk_any {s : T2} {aw al an : Int} {h : Hd} : anyN (fun j => insB (nthW h.ws j).key s && !lessB aw al an h.w h.l h.n) h.ws.length = blkB s aw al an h := by
  rw [Bool.eq_iff_iff, anyN_iff, blkB, Bool.and_eq_true, List.any_eq_true]
  constructor
  · rintro ⟨k, hk, h1⟩
    rw [Bool.and_eq_true] at h1
    exact ⟨⟨_, nthW_mem hk, h1.1⟩, h1.2⟩
  · rintro ⟨⟨x, hx, h1⟩, h2⟩
    obtain ⟨i, hi, rfl⟩ := nthW_of hx
    exact ⟨i, hi, by rw [Bool.and_eq_true]; exact ⟨h1, h2⟩⟩

set_option maxRecDepth 16000 in
set_option maxHeartbeats 4000000 in
theorem blocks_law {W : World} {a : Option Addr} {c : Nat} {L : List Hv} {v : Hv} {s : T2} {tw tl tn : Int} (h : RowL W a L) (hok : ∀ x ∈ L, x.ok W) (hl : L.length ≤ 1759218604391) (hsum : (L.map fun x => x.h.ws.length).sum ≤ 1048576) :
    Calls Try.prog 6 #[.agg #[.slice a L.length c, .int .u32 v.h.id.1, .int .u32 v.h.id.2, .int .u32 v.h.home, .int .u64 v.h.w, .int .u32 v.h.l, .int .u32 v.h.n, .slice v.ra v.h.rs.length v.rc, .slice v.wa v.h.ws.length v.wc, .string s.1, .string s.2, .int .u64 tw, .int .u32 tl, .int .u32 tn]] W fun e w' => e = .returned (.bool true) ∧ Below W.heap.size W w' := by
  obtain ⟨wx, hwx⟩ : ∃ wx, wx = W.alloc (.cells #[.slice a L.length c, .int .u32 v.h.id.1, .int .u32 v.h.id.2, .int .u32 v.h.home, .int .u64 v.h.w, .int .u32 v.h.l, .int .u32 v.h.n, .slice v.ra v.h.rs.length v.rc, .slice v.wa v.h.ws.length v.wc, .string s.1, .string s.2, .int .u64 tw, .int .u32 tl, .int .u32 tn] 44) := ⟨_, rfl⟩
  have HBX : Hid (Below W.heap.size W wx) := by rw [hwx]; exact Below.al (Below.refl _ _) _
  have hsx : wx.heap.size = W.heap.size + 1 := by rw [hwx]; simp
  have hx : ∀ o u, (scs a c L v s tw tl tn)[o]? = some u → wx.cell? ⟨W.heap.size, o, none⟩ = some u := fun o u ho => cell_of_obj (by rw [hwx]; exact (MapKept.heap_alloc _ _).1) (by simpa using ho)
  have HX := hid hx
  have hrow : RowL wx a L := fun i hi => by
    obtain ⟨b, off, e, hc⟩ := h i hi
    exact ⟨b, off, e, fun o u ho => cell_later HBX.out (hc o u ho)⟩
  have SE := hid (set_is (c := c) (v := v) (s := s) (tw := tw) (tl := tl) (tn := tn) hrow (fun x hx => (hok x hx).later HBX.out) (by omega))
  have HSX := hid hsx
  have HML : Hid ((setM L).length ≤ L.length) := setM_le _ L rfl
  have HMP : Hid (0 < L.length → 0 < (setM L).length) := fun h => setM_pos (L.length - 1) L (by omega)
  have HSU : Hid (sumW (setM L) ≤ 1048576) := Nat.le_trans (setM_sum _ L rfl) hsum
  have y0 := hx 0 _ rfl
  have y1 := hx 1 _ rfl
  have y2 := hx 2 _ rfl
  have y3 := hx 3 _ rfl
  have y4 := hx 4 _ rfl
  have y5 := hx 5 _ rfl
  have y6 := hx 6 _ rfl
  have y7 := hx 7 _ rfl
  have y8 := hx 8 _ rfl
  have y9 := hx 9 _ rfl
  have y10 := hx 10 _ rfl
  have y11 := hx 11 _ rfl
  have y12 := hx 12 _ rfl
  have y13 := hx 13 _ rfl
  clear h hok hrow hx hsx hsum
  go_enter Try.func6, Try.ntmps6
  go_upto_region 1 with fail
  rw [← hwx]
  clear hwx
  go_wp2_with fail
  refine SE.out.mono ?_
  rintro e w1 ⟨p, m1, m2, V, I, rfl, HS⟩
  have HX1 : Hid (∀ o u, (scs a c L v s tw tl tn)[o]? = some u → w1.cell? ⟨W.heap.size, o, none⟩ = some u) := fun o u h => cell_later HS.out.2.2.2 (HX.out o u h)
  have HT1 := hid HS.out.1
  have HM := hid HS.out.2.1
  have HB1 := hid HS.out.2.2.2
  have hvl : V.length = (setM L).length := by rw [← HM.out, List.length_map]
  have HVL := hid hvl
  have hil : I.length ≤ 1048576 := by
    have := ints_le HT1.out.ok
    rw [HM.out] at this
    exact Nat.le_trans this HSU.out
  have HIL := hid hil
  clear HS SE hvl hil y0 y1 y2 y3 y4 y5 y6 y7 y8 y9 y10 y11 y12 y13
  go_upto_region 2 with fail
  go_cut [25] (fun s25 wz => s25 = .bool false ∧ Hid (Below w1.heap.size w1 wz))
  case first =>
    have y0 := HX1.out 0 _ rfl
    by_cases h0 : 0 < L.length
    · have d0 : decide (0 < L.length) = true := decide_eq_true h0
      have LE := hid (len_is HT1.out)
      have hne : ((V.length : Int) == 0) = false := by
        have := HMP.out h0
        have := HVL.out
        rw [beq_eq_false_iff_ne]; omega
      clear h0
      go_wp2_with fail
      refine LE.out.mono ?_
      rintro e w2 ⟨rfl, hw2⟩
      have HW2 := hid hw2
      clear hw2
      go_wp2_with fail
      go_meet
      exact ⟨rfl, HW2⟩
    · have d0 : decide (0 < L.length) = false := decide_eq_false h0
      clear h0
      go_wp2_with fail
      go_meet
      exact ⟨rfl, hid (Below.refl _ _)⟩
  case rest =>
    obtain ⟨rfl, HBA⟩ := hcut
    rename World => wA
    have AL := hid (allT_is (HT1.out.later HBA.out) (by have := HVL.out; have := HML.out; omega))
    go_wp2_with fail
    refine AL.out.mono ?_
    rintro e w3 ⟨a1, n1, c1, U, rfl, HR1, HTo, HB3⟩
    have HB13 : Hid (Below w1.heap.size w1 w3) := Below.on HBA.out HB3.out
    have HX3 : Hid (∀ o u, (scs a c L v s tw tl tn)[o]? = some u → w3.cell? ⟨W.heap.size, o, none⟩ = some u) := fun o u h => cell_later HB13.out (HX1.out o u h)
    have y9 := HX3.out 9 _ rfl
    have y10 := HX3.out 10 _ rfl
    have y11 := HX3.out 11 _ rfl
    have y12 := HX3.out 12 _ rfl
    have y13 := HX3.out 13 _ rfl
    have BL := hid (blocks_is (s := s) (aw := tw) (al := tl) (an := tn) (HT1.out.later HB13.out) HIL.out)
    clear AL
    go_wp2_with fail
    refine BL.out.mono ?_
    rintro e w4 ⟨a2, m, c2, D, rfl, HDL, HDR, HDP, HDM, HB4⟩
    have HD : Hid (D = ((U.map Hv.h).filter (blkB s tw tl tn)).map Hd.id) := told_pick (HTo.out.lt HT1.out.ok.ids) HDP.out (fun i => by
      rw [HDM.out i]
      constructor
      · rintro ⟨h, hh, e⟩; exact ⟨h, HTo.out.perm.mem_iff.2 hh, e⟩
      · rintro ⟨h, hh, e⟩; exact ⟨h, HTo.out.perm.mem_iff.1 hh, e⟩)
    have HU4 := hid (HR1.out.later HB4.out)
    have hln := HR1.out.len
    have hnl : n1 ≤ 1759218604391 := by
      have h1 := HTo.out.len
      have h2 := HVL.out
      have h3 := HML.out
      simp at h1
      omega
    have HLN := hid hln
    have HX4 : Hid (∀ o u, (scs a c L v s tw tl tn)[o]? = some u → w4.cell? ⟨W.heap.size, o, none⟩ = some u) := fun o u h => cell_later HB4.out (HX3.out o u h)
    have HBW : Hid (Below W.heap.size W w4) := Below.on (Below.on (Below.on HBX.out HB1.out) HB13.out) HB4.out
    have HML2 : Hid (m = cnt (blkB s tw tl tn) U n1) := by show _ = _; rw [← HDL.out, HD.out, pick_len, HLN.out]
    clear BL hln y9 y10 y11 y12 y13
    go_wp2_with fail
    go_loopg [6, 7] n1 (fun g s6 s7 wr => ∃ i n : Nat, i ≤ n1 ∧ g = n1 - i ∧ s7 = .int .i64 i ∧ s6 = .int .i64 n ∧ Hid (n = cnt (blkB s tw tl tn) U i) ∧ Hid (Below w4.heap.size w4 wr))
    case atStart => exact ⟨0, 0, by omega, by omega, rfl, rfl, by show _ = _; simp [cnt], Below.refl _ _⟩
    case round =>
      obtain ⟨i, n, hi, rfl, rfl, rfl, HNC, HB⟩ := hrel
      by_cases hlt : i < n1
      · have hi1 : (i : Int) < (n1 : Int) := by omega
        obtain ⟨x, hxe⟩ : ∃ x, x = nthH U i := ⟨_, rfl⟩
        have HXE := hid hxe
        have HXC : Hid (∃ g, a1 = some ⟨g, 0, none⟩ ∧ ∀ o u, (hcs x)[o]? = some u → w4.cell? ⟨g, i * 8 + o, none⟩ = some u) := by
          obtain ⟨g, e, hc⟩ := ownH_at HU4.out.own HLN.out hlt
          rw [← hxe] at hc
          exact ⟨g, e, hc⟩
        have HXO : Hid (x.ok w4) := by rw [hxe]; exact HU4.out.ok _ (nthH_mem (by rw [HLN.out]; exact hlt))
        have HWL : Hid (x.h.ws.length ≤ 9223372036854775806) := by have := HXO.out.wl; show _ ≤ _; omega
        obtain ⟨g, ea, hgc⟩ := HXC.out
        subst ea
        have HGC := hid hgc
        clear hxe HXC hgc
        have HBO := HB
        clear HB
        go_wp2_with fail
        go_loopg [8, 9] x.h.ws.length (fun gg s8 s9 wr => ∃ (j : Nat) (b : Bool), j ≤ x.h.ws.length ∧ gg = x.h.ws.length - j ∧ s9 = .int .i64 j ∧ s8 = .bool b ∧ Hid (b = anyN (fun j => insB (nthW x.h.ws j).key s && !lessB tw tl tn x.h.w x.h.l x.h.n) j) ∧ Hid (Below w4.heap.size w4 wr))
        case atStart => exact ⟨0, false, by omega, by omega, rfl, rfl, rfl, HBO⟩
        case round =>
          obtain ⟨j, b, hj, rfl, rfl, rfl, HBL, HB⟩ := hrel
          have g7 := cell_later HB.out (HGC.out 7 _ rfl)
          by_cases hjl : j < x.h.ws.length
          · obtain ⟨bb, off, ew, d0, -, -⟩ := (HXO.out.w.later HB.out) j hjl
            rw [ew] at g7
            clear ew
            obtain ⟨k1, hk1⟩ : ∃ k, k = (nthW x.h.ws j).key := ⟨_, rfl⟩
            rw [← hk1] at d0
            obtain ⟨u, hu⟩ : ∃ u, insB k1 s = u := ⟨_, rfl⟩
            have HU : Hid (insB (nthW x.h.ws j).key s = u) := by rw [← hk1]; exact hu
            have IN : Hid (∀ W, Calls Try.prog 9 #[.string k1, .agg #[.string s.1, .string s.2]] W fun e w' => e = .returned (.bool u) ∧ Below W.heap.size W w') := fun W => inside_is hu W
            have hj1 : (j : Int) < (x.h.ws.length : Int) := by omega
            have hjb : j + 1 ≤ 9223372036854775807 := by have := HWL.out; omega
            have G7 := hid g7
            have D0 := hid d0
            clear hk1 hu d0
            go_upto_region 14 with fail
            clear g7
            go_cut [10] (fun s10 wz => s10 = .bool u ∧ Hid (Below w4.heap.size w4 wz))
            case first =>
              have k0 := cell_regrown D0.out
              have k7 := cell_regrown G7.out
              have y9 := cell_regrown (cell_later HB.out (HX4.out 9 _ rfl))
              have y10 := cell_regrown (cell_later HB.out (HX4.out 10 _ rfl))
              refine wp_region_quiet_below (by kernel_rfl) (by kernel_rfl) ?_
              repeat (go_big_quiet_step (((go_at_call 9; exact Calls.regrown_of (IN.out _)))))
              refine wpQuiet_nil ?_
              intro wn hwn
              replace hwn := below_of_regrown hwn
              go_wp2_with fail
              go_meet
              exact ⟨rfl, hid (Below.on HB.out hwn)⟩
            case rest =>
              obtain ⟨rfl, HC⟩ := hcut
              rename World => wC
              clear HB G7 D0 IN
              obtain ⟨late, hla⟩ : ∃ late, lessB tw tl tn x.h.w x.h.l x.h.n = late := ⟨_, rfl⟩
              have LS : Hid (∀ W, Calls Try.prog 17 #[.agg #[.int .u64 tw, .int .u32 tl, .int .u32 tn], .agg #[.int .u64 x.h.w, .int .u32 x.h.l, .int .u32 x.h.n]] W fun e w' => e = .returned (.bool late) ∧ Below W.heap.size W w') := fun W => less_is hla W
              have HLA := hid hla
              clear hla
              have y11 := cell_regrown (cell_later HC.out (HX4.out 11 _ rfl))
              have y12 := cell_regrown (cell_later HC.out (HX4.out 12 _ rfl))
              have y13 := cell_regrown (cell_later HC.out (HX4.out 13 _ rfl))
              have g3 := cell_regrown (cell_later HC.out (HGC.out 3 _ rfl))
              have g4 := cell_regrown (cell_later HC.out (HGC.out 4 _ rfl))
              have g5 := cell_regrown (cell_later HC.out (HGC.out 5 _ rfl))
              cases b with
              | true =>
                go_wp2_with fail
                refine wp_region_quiet_below (by kernel_rfl) (by kernel_rfl) ?_
                repeat (go_big_quiet_step (fail))
                refine wpQuiet_nil ?_
                intro wn hwn
                replace hwn := below_of_regrown hwn
                go_wp2_with fail
                go_roundg (x.h.ws.length - (j + 1))
                case measure => omega
                case rel => exact ⟨j + 1, true, by omega, rfl, by go_num, rfl, by show _ = _; rw [anyN, ← HBL.out]; rfl, Below.on HC.out hwn⟩
              | false =>
                cases u with
                | false =>
                  go_wp2_with fail
                  refine wp_region_quiet_below (by kernel_rfl) (by kernel_rfl) ?_
                  repeat (go_big_quiet_step (fail))
                  refine wpQuiet_nil ?_
                  intro wn hwn
                  replace hwn := below_of_regrown hwn
                  go_wp2_with fail
                  go_roundg (x.h.ws.length - (j + 1))
                  case measure => omega
                  case rel => exact ⟨j + 1, false, by omega, rfl, by go_num, rfl, by show _ = _; rw [anyN, ← HBL.out, HU.out]; rfl, Below.on HC.out hwn⟩
                | true =>
                  go_wp2_with fail
                  refine wp_region_quiet_below (by kernel_rfl) (by kernel_rfl) ?_
                  repeat (go_big_quiet_step (((go_at_call 17; exact Calls.regrown_of (LS.out _)))))
                  refine wpQuiet_nil ?_
                  intro wn hwn
                  replace hwn := below_of_regrown hwn
                  go_wp2_with fail
                  go_roundg (x.h.ws.length - (j + 1))
                  case measure => omega
                  case rel => exact ⟨j + 1, !late, by omega, rfl, by go_num, by first | rfl | simp, by show _ = _; rw [anyN, ← HBL.out, HU.out, HLA.out]; simp, Below.on HC.out hwn⟩
          · obtain rfl : j = x.h.ws.length := by omega
            have hbq : b = blkB s tw tl tn x.h := HBL.out.trans blk_any
            have hcs := cnt_succ (q := blkB s tw tl tn) (U := U) (i := i) (by rw [HLN.out]; exact hlt)
            rw [← HXE.out, ← hbq] at hcs
            have HCS := hid hcs
            have hnle : n ≤ i := by rw [HNC.out]; exact cnt_le
            have HPA : Hid (b = true → D[n]? = some x.h.id) := fun e => by
              rw [HD.out, HNC.out, HXE.out]
              exact pick_at (by rw [HLN.out]; exact hlt) (by rw [← HXE.out, ← hbq]; exact e)
            clear hbq hcs hjl hj
            cases b with
            | false =>
              have HN2 : Hid (n = cnt (blkB s tw tl tn) U (i + 1)) := by show _ = _; rw [HCS.out, ← HNC.out]; simp
              go_wp2_with fail
              go_roundg (n1 - (i + 1))
              case measure => omega
              case rel => exact ⟨i + 1, n, by omega, rfl, by go_num, rfl, HN2, HB⟩
            | true =>
              have HN2 : Hid (n + 1 = cnt (blkB s tw tl tn) U (i + 1)) := by show _ = _; rw [HCS.out, ← HNC.out]; simp
              have hD := HPA.out rfl
              have hnm : n < m := by rw [← HDL.out]; exact (List.getElem?_eq_some_iff.1 hD).1
              obtain ⟨db, doff, ed, hdc⟩ := HDR.out n (by rw [HDL.out]; exact hnm)
              rw [hD] at hdc
              simp only [Option.getD_some] at hdc
              have hn1 : (n : Int) < (m : Int) := by omega
              have k0 := cell_regrown (cell_later HB.out (show w4.cell? ⟨db, doff + n * 2, none⟩ = _ from hdc 0 _ rfl))
              have k1 := cell_regrown (cell_later HB.out (hdc 1 _ rfl))
              have g0 := cell_regrown (cell_later HB.out (show w4.cell? ⟨g, i * 8, none⟩ = _ from HGC.out 0 _ rfl))
              have g1 := cell_regrown (cell_later HB.out (HGC.out 1 _ rfl))
              have qq : ∀ W, (binOp .neq 35 (.agg #[.int .u32 x.h.id.1, .int .u32 x.h.id.2]) (.agg #[.int .u32 x.h.id.1, .int .u32 x.h.id.2])).run Try.prog W = .ok (.bool false) W := fun W => by
                have := run_neI x.h.id x.h.id W
                rwa [show sameI x.h.id x.h.id = true by simp [sameI]] at this
              have hge : decide ((m : Int) ≤ (n : Int)) = false := decide_eq_false (by omega)
              have hge2 : decide (m ≤ n) = false := decide_eq_false (by omega)
              clear hD hdc
              subst ed
              go_wp2_with fail
              refine wp_region_quiet_below (by kernel_rfl) (by kernel_rfl) ?_
              repeat (go_big_quiet_step (fail))
              refine wpQuiet_nil ?_
              intro wn hwn
              replace hwn := below_of_regrown hwn
              have HW2 : Hid (Below w4.heap.size w4 wn) := Below.on HB.out hwn
              clear hwn
              go_wp2_with fail
              go_roundg (n1 - (i + 1))
              case measure => omega
              case rel => exact ⟨i + 1, n + 1, by omega, rfl, by go_num, by go_num, HN2, HW2⟩
      · obtain rfl : i = n1 := by omega
        have hnm : n = m := by rw [HNC.out, HML2.out]
        subst hnm
        have HF : Hid (Below W.heap.size W wr) := Below.on HBW.out HB.out
        go_wp2_with fail
        go_ret
        exact ⟨by simp, HF.out⟩
end Go.Proofs.Ytbgmbbmnnfmbpaa.Lk
