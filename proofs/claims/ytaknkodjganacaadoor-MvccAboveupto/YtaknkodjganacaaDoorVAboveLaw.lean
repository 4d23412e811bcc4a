import Derived.Test.YtaknkodjganacaaDoorVFill
import Derived.Test.YtaknkodjganacaaDoorVAbove
import Derived.Test.YtaknkodjganacaaDoorVIn
import Derived.Test.YtaknkodjganacaaDoorVSame
namespace Go.Proofs.YtaknkodjganacaaDoor.Vs
open Go.RowKit Go.Sort
set_option linter.unusedVariables false

/-! ### plain -/
abbrev kZ : ByteArray := ⟨#[255, 122]⟩
abbrev vZ : ByteArray := ⟨#[57]⟩
abbrev kz : Wr := ⟨kZ, false, vZ⟩
abbrev big : Sp := ⟨18446744073709551614, 4294967295, 4294967295⟩
abbrev big0 : Sp := ⟨18446744073709551614, 0, 0⟩
abbrev tmax : Sp := ⟨18446744073709551615, 0, 0⟩
theorem kz_ok : writesOk [kz] = true := by
  have h1 : emS kZ = false := by simp [emS, ByteArray.toList_eq]
  have h2 : writeAt [kz] 0 = true := by
    rw [write_first]
    show wOk kz = true
    unfold wOk
    rw [h1]; rfl
  unfold writesOk
  show (true && (true && writeAt [kz] 0)) = true
  rw [h2]; rfl
theorem kz_E (M : Mst) : instE M [kz] big = 0 ∨ (instE M [kz] big = 91 ∧ freeB M big kz = false) := by
  unfold instE
  rw [if_pos (by decide), if_pos kz_ok]
  cases h : freeB M big kz with
  | true => exact .inl (by rw [if_pos (by simp [h])])
  | false => exact .inr ⟨by rw [if_neg (by simp [h])], rfl⟩
theorem kz_len {M : Mst} (h : Rising M) : 1 ≤ countM (instR M [kz] big) := by
  rcases kz_E M with e | ⟨e, hf⟩
  · unfold instR; rw [if_pos e, (instM_count h [kz] big).1]; simp
  · unfold instR; rw [if_neg (by rw [e]; decide)]
    unfold freeB at hf
    cases hg : getX M kz.key with
    | none => rw [hg] at hf; cases hf
    | some cs =>
      rw [hg] at hf
      have h1 := count_mem ((getX_some h).1 hg)
      have h2 : cs ≠ [] := fun e => by rw [e] at hf; cases hf
      have h3 := List.length_pos_iff.2 h2
      simp only at h1
      omega
theorem kz_above {M : Mst} (h : Good M) (he : instE M [kz] big = 0) (hg : Good (instR M [kz] big)) : abB (instR M [kz] big) kZ ⟨#[]⟩ big0 = true := by
  rw [ab_dump hg, List.any_eq_true]
  refine ⟨(kZ, ⟨big, false, vZ⟩), ?_, ?_⟩
  · unfold instR
    rw [if_pos he]
    show _ ∈ dumpM (addM M kZ ⟨big, false, vZ⟩)
    rw [add_dump_mem h.rising]
    exact .inl rfl
  · have h1 : inS kZ ⟨#[]⟩ kZ = true := by
      unfold inS
      rw [lt_irrefl]
      simp [ByteArray.toList_eq]
    rw [h1]
    rfl
def anyD (l : List Kv) (lo hi : ByteArray) (t : Sp) : Bool := l.any fun e => inS lo hi e.1 && t.lt e.2.s
theorem anyD_snoc (l : List Kv) (e : Kv) (lo hi : ByteArray) (t : Sp) : anyD (l ++ [e]) lo hi t = (anyD l lo hi t || (inS lo hi e.1 && t.lt e.2.s)) := by simp [anyD]
theorem read_top {M : Mst} (hok : OkM M) {lo hi : ByteArray} {t : Sp} (ha : anyD (dumpM M) lo hi t = false) : readM M lo hi t = readM M lo hi tmax := by
  unfold readM readAll
  have hx : ∀ e ∈ rangeX M lo hi, valAt e.2 t = valAt e.2 tmax := fun e he => by
    obtain ⟨h1, h2⟩ := List.mem_filter.1 he
    have hl1 : low e.2 t = e.2 := low_all fun v hv => by
      have := List.any_eq_false.1 ha (e.1, v) (dump_mem.2 ⟨e.2, h1, hv⟩)
      simp only [h2, Bool.true_and] at this
      simpa using this
    have hl2 : low e.2 tmax = e.2 := low_all fun v hv => by
      have := hok (e.1, v) (dump_mem.2 ⟨e.2, h1, hv⟩)
      unfold okV at this
      rw [Bool.and_eq_true] at this
      have h3 : v.s.a < 18446744073709551615 := by simpa using this.1
      unfold Sp.lt
      rw [lessB_iff_false]
      simp only
      omega
    unfold valAt; rw [hl1, hl2]
  generalize rangeX M lo hi = R at hx ⊢
  induction R with
  | nil => rfl
  | cons x R ih => rw [List.filterMap_cons, List.filterMap_cons, hx x (by simp), ih fun e he => hx e (by simp [he])]
theorem rd_top {M : Mst} (hok : OkM M) {lo hi : ByteArray} {t : Sp} (hn : t.nn) (ha : anyD (dumpM M) lo hi t = false) : rdE M ⟨0, 0, 0⟩ lo hi t = rdE M ⟨0, 0, 0⟩ lo hi tmax ∧ rdL M ⟨0, 0, 0⟩ lo hi t = rdL M ⟨0, 0, 0⟩ lo hi tmax := by
  have h1 := Sp.nn_lt hn
  have h2 : tmax.lt ⟨0, 0, 0⟩ = false := rfl
  have hr := read_top hok ha
  have e : rdE M ⟨0, 0, 0⟩ lo hi t = rdE M ⟨0, 0, 0⟩ lo hi tmax := by unfold rdE; rw [h1, h2, hr]
  exact ⟨e, by unfold rdL; rw [e, hr]⟩
theorem kz_row (w : World) : RowW (w.alloc (.cells #[.string kZ, .bool false, .string vZ] 38)) (some ⟨w.heap.size, 0, none⟩) [kz] := fun i hi => by
  have h := World.alloc_heap_new w (.cells #[.string kZ, .bool false, .string vZ] 38)
  obtain rfl : i = 0 := by simp at hi; exact hi
  exact ⟨w.heap.size, 0, rfl, cell_of_obj h rfl, cell_of_obj h rfl, cell_of_obj h rfl⟩
set_option maxHeartbeats 4000000 in
set_option maxRecDepth 16000 in
theorem law_above {w : World} {a ta : Option Addr} {c tc : Nat} {ps : List Pt} {ts : List Sp} {lo hi : ByteArray} {mk : Sp} (h : RowT w a ps) (hl : ps.length ≤ 1048576) (hsum : sumT ps ≤ 1048576) (hts : RowA w ta ts) (htl : ts.length ≤ 1048576) (ht : PowTab w) :
    Calls Tryd.prog 3 #[.agg #[.slice a ps.length c, .int .u64 mk.a, .int .u32 mk.b, .int .u32 mk.c, .string lo, .string hi, .slice ta ts.length tc]] w fun e w' => e = .returned (.bool true) ∧ Below w.heap.size w w' := by
  obtain ⟨n, hn⟩ : ∃ n, n = ps.length := ⟨_, rfl⟩
  obtain ⟨m, hm⟩ : ∃ n, n = ts.length := ⟨_, rfl⟩
  obtain ⟨wx, hwx⟩ : ∃ wx, wx = w.alloc (.cells #[.slice a n c, .int .u64 mk.a, .int .u32 mk.b, .int .u32 mk.c, .string lo, .string hi, .slice ta m tc] 31) := ⟨_, rfl⟩
  have hbx : Below w.heap.size w wx := by rw [hwx]; exact Below.al (Below.refl _ _) _
  have kx : wx.heap[w.heap.size]? = some (.cells #[.slice a n c, .int .u64 mk.a, .int .u32 mk.b, .int .u32 mk.c, .string lo, .string hi, .slice ta m tc] 31 (0, 0)) := by rw [hwx]; exact World.alloc_heap_new _ _
  have x0 : wx.cell? ⟨w.heap.size, 0, none⟩ = some (.slice a n c) := cell_of_obj kx rfl
  have HX : Hid (wx.cell? ⟨w.heap.size, 4, none⟩ = some (.string lo) ∧ wx.cell? ⟨w.heap.size, 5, none⟩ = some (.string hi) ∧ wx.cell? ⟨w.heap.size, 6, none⟩ = some (.slice ta m tc)) := ⟨cell_of_obj kx rfl, cell_of_obj kx rfl, cell_of_obj kx rfl⟩
  have HA := hid (show RowA wx ta ts ∧ Below w.heap.size w wx ∧ m = ts.length from ⟨hts.later hbx, hbx, hm⟩)
  have FI := hid (fill_is (c := c) (h.later hbx) hl hsum (ht.later hbx))
  rw [← hn] at hl FI ⊢
  rw [← hm] at htl ⊢
  clear h ht hbx kx hn hts hm hsum
  go_enter Tryd.func3, Tryd.ntmps3
  go_wp2_with fail
  rw [← hwx]
  clear hwx
  go_upto_region 4 with (go_at_call 8; refine FI.out.mono ?_; rintro e w1 ⟨p, q, F, G, rfl, HF1, hb1⟩; have HB1 := hid hb1; clear hb1 x0)
  obtain ⟨M, hM⟩ : ∃ M, M = fillM ps := ⟨_, rfl⟩
  rw [← hM] at HF1
  have hgd : Good M := HF1.out.1.a.good
  have HGD := hid hgd
  obtain ⟨MA, hMA⟩ : ∃ MA, MA = instR M [kz] big := ⟨_, rfl⟩
  have hla := (instR_len hgd.rising [kz] big)
  have hla1 := kz_len hgd.rising
  rw [← hMA] at hla hla1
  have HMA : Hid (1 ≤ countM MA ∧ countM MA ≤ 1048577 ∧ countM M ≤ countM MA ∧ countM M ≤ 1048576) := ⟨hla1, by have := HF1.out.2.2; have := hla.1; simp at this; omega, hla.2, HF1.out.2.2⟩
  clear FI hM hla hla1 hgd
  go_cut [38] from 26 to 37 (fun s38 wy => s38 = .bool false ∧ ∃ F' : Nat → Prop, Hid (FiM wx wy F' G p q MA M))
  case first =>
    have IN := hid (fill_a (t := big) (c := 1) (n := 1) HF1.out.1 (Below.al (Below.refl _ _) _) (kz_row w1) (Nat.le_refl _) rfl (by decide) HF1.out.2.2)
    rw [← hMA] at IN
    rcases kz_E M with e | ⟨e, hf⟩
    · have hab := fun hg => kz_above HGD.out e hg
      rw [e] at IN
      rw [← hMA] at hab
      have AB : Hid (∀ W F', FiM wx W F' G p q MA M → Calls Tryd.prog 10 #[pt p, .agg #[.string ⟨#[255, 122]⟩, .string ⟨#[]⟩], .agg #[.int .u64 18446744073709551614, .int .u32 0, .int .u32 0]] W fun e w' => e = .returned (.bool true) ∧ Below W.heap.size W w') := fun W F' h => by
        have := above_is h.a kZ ⟨#[]⟩ big0 (by have := HMA.out.2.1; omega)
        rw [hab h.a.good] at this
        exact this
      clear hab e
      go_wp2_with (first
        | (go_at_call 9; refine IN.out.mono ?_; rintro e w2 ⟨rfl, ⟨F', hM2⟩, hbl2⟩; have HM2 := hid hM2; clear hM2)
        | (go_at_call 10; refine (AB.out w2 F' HM2.out).mono ?_; rintro e w3 ⟨rfl, hb3⟩))
      go_meet
      exact ⟨rfl, F', HM2.out.later hb3⟩
    · rw [e] at IN
      clear e hf
      go_wp2_with (first
        | (go_at_call 9; refine IN.out.mono ?_; rintro e w2 ⟨rfl, ⟨F', hM2⟩, hbl2⟩; have HM2 := hid hM2; clear hM2))
      go_meet
      exact ⟨rfl, F', HM2.out⟩
  case rest =>
    obtain ⟨rfl, F', HC⟩ := hcut
    obtain ⟨la, hla⟩ : ∃ k, k = countM MA := ⟨_, rfl⟩
    obtain ⟨lb, hlb⟩ : ∃ k, k = countM M := ⟨_, rfl⟩
    obtain ⟨nL, hnL⟩ : ∃ k, k = (dumpM M).length := ⟨_, rfl⟩
    have LA : Hid (∀ W, Below wc.heap.size wc W → Calls Tryd.prog 11 #[pt p] W fun e w' => e = .returned (.int .i64 la) ∧ Below W.heap.size W w') := fun W hb => by rw [hla]; exact stolen_is (HC.out.a.later hb) (by have := HMA.out.2.1; omega)
    have LB : Hid (∀ W, Below wc.heap.size wc W → Calls Tryd.prog 11 #[pt q] W fun e w' => e = .returned (.int .i64 lb) ∧ Below W.heap.size W w') := fun W hb => by rw [hlb]; exact stolen_is (HC.out.b.later hb) (by have := HMA.out.2.2.2; omega)
    have DB : Hid (∀ W, Below wc.heap.size wc W → _) := fun W hb => dump_at HC.out.b HMA.out.2.2.2 hnL hb
    have q1 : ((la : Int) == 0) = false := by rw [beq_eq_false_iff_ne]; have := HMA.out.1; omega
    have q1' : (la == 0) = false := by rw [beq_eq_false_iff_ne]; have := HMA.out.1; omega
    have q2 : decide ((la : Int) < (lb : Int)) = false := decide_eq_false (by have := HMA.out.2.2.1; omega)
    have q2' : decide (la < lb) = false := decide_eq_false (by have := HMA.out.2.2.1; omega)
    have hnn : nL ≤ 1048576 := by rw [hnL, dump_len]; exact HMA.out.2.2.2
    have HNL := hid hnL
    clear hla hlb hnL
    go_upto_region 8 with (first
      | (go_at_call_of 11 q; refine (LB.out _ (by (repeat (first | exact Below.refl _ _ | assumption | refine Below.drew ?_ | refine Below.al ?_ _ | refine Below.setCell ?_ (by first | exact Nat.le_refl _ | (simp; omega) | (simp; done)) _ | refine Below.on ?_ (by assumption))))).mono ?_; rintro e w5 ⟨rfl, hb5⟩)
      | (go_at_call 11; refine (LA.out _ (by (repeat (first | exact Below.refl _ _ | assumption | refine Below.drew ?_ | refine Below.al ?_ _ | refine Below.setCell ?_ (by first | exact Nat.le_refl _ | (simp; omega) | (simp; done)) _ | refine Below.on ?_ (by assumption))))).mono ?_; rintro e w4 ⟨rfl, hb4⟩))
    go_wp2_with (go_at_call 12; refine (DB.out _ (by (repeat (first | exact Below.refl _ _ | assumption | refine Below.drew ?_ | refine Below.al ?_ _ | refine Below.setCell ?_ (by first | exact Nat.le_refl _ | (simp; omega) | (simp; done)) _ | refine Below.on ?_ (by assumption))))).mono ?_; rintro e w6 ⟨da, dc, rfl, HL6, hb6⟩)
    have hb06 : Below wc.heap.size wc w6 := by (repeat (first | exact Below.refl _ _ | assumption | refine Below.drew ?_ | refine Below.al ?_ _ | refine Below.setCell ?_ (by first | exact Nat.le_refl _ | (simp; omega) | (simp; done)) _ | refine Below.on ?_ (by assumption)))
    have HC6 := hid (HC.out.later hb06)
    have HX6 : Hid (w6.cell? ⟨w.heap.size, 4, none⟩ = some (.string lo) ∧ w6.cell? ⟨w.heap.size, 5, none⟩ = some (.string hi) ∧ w6.cell? ⟨w.heap.size, 6, none⟩ = some (.slice ta m tc)) := ⟨cell_later HC6.out.bl HX.out.1, cell_later HC6.out.bl HX.out.2.1, cell_later HC6.out.bl HX.out.2.2⟩
    have HRA := hid (HA.out.1.later HC6.out.bl)
    have HBW : Hid (Below w.heap.size w w6) := Below.on HA.out.2.1 HC6.out.bl
    have HML : Hid (m = ts.length) := HA.out.2.2
    have HL6' := hid (show RowV w6 da (dumpM M) from by have := HL6.out; rw [HNL.out] at this; exact this.row)
    clear LA LB DB hb4 hb5 hb6 hb06 HC HX HA q1 q1' q2 q2' HL6
    go_loopg [6] m (fun g s6 wr => ∃ i : Nat, i ≤ m ∧ g = m - i ∧ s6 = .int .i64 i ∧ Hid (Below w6.heap.size w6 wr))
    case atStart => exact ⟨0, by omega, by omega, rfl, Below.refl _ _⟩
    case round =>
      obtain ⟨i, him, rfl, rfl, HBI⟩ := hrel
      have x6 := cell_later HBI.out HX6.out.2.2
      by_cases hlt : i < m
      · obtain ⟨b, off, hab, c0, c1, c2, htn⟩ := (HRA.out.later HBI.out) i (by rw [← HML.out]; exact hlt)
        obtain ⟨t, hqt⟩ : ∃ t, t = nthS1 ts i := ⟨_, rfl⟩
        rw [← hqt] at c0 c1 c2 htn
        clear hqt
        subst hab
        obtain ⟨wt, hwt⟩ : ∃ wt, wt = wr.alloc (.cells #[.int .u64 t.a, .int .u32 t.b, .int .u32 t.c] 26) := ⟨_, rfl⟩
        obtain ⟨bt, hbt⟩ : ∃ bt, bt = wr.heap.size := ⟨_, rfl⟩
        have hbr : Below wr.heap.size wr wt := by rw [hwt]; exact Below.al (Below.refl _ _) _
        have HBT : Hid (Below w6.heap.size w6 wt) := Below.on HBI.out hbr
        have HST : Hid (StB wt bt t) := by rw [hwt, hbt]; exact World.alloc_heap_new _ _
        have HTN := hid htn
        go_upto_region 13 with fail
        rw [← hwt, ← hbt]
        clear hwt hbt hbr x6 htn c0 c1 c2 HBI
        go_wp2_with fail
        go_loopg [8, 9] nL (fun g s8 s9 wr => ∃ j : Nat, j ≤ nL ∧ g = nL - j ∧ s9 = .int .i64 j ∧ s8 = .bool (anyD ((dumpM M).take j) lo hi t) ∧ Hid (Below wt.heap.size wt wr))
        case atStart => exact ⟨0, by omega, by omega, rfl, rfl, Below.refl _ _⟩
        case round =>
          obtain ⟨j, hjn, rfl, rfl, rfl, HBJ⟩ := hrel
          by_cases hjlt : j < nL
          · obtain ⟨bv, ov, hda, vd⟩ := (HL6'.out.later (Below.on HBT.out HBJ.out)) j (by rw [← HNL.out]; exact hjlt)
            obtain ⟨y, hy⟩ : ∃ y, y = nthK (dumpM M) j := ⟨_, rfl⟩
            have HTK : Hid ((dumpM M).take (j + 1) = (dumpM M).take j ++ [y]) := by show _ = _; rw [hy]; exact nthK_take (by rw [← HNL.out]; exact hjlt)
            rw [← hy] at vd
            clear hy
            obtain ⟨Lj, hLj⟩ : ∃ Lj, Lj = (dumpM M).take j := ⟨_, rfl⟩
            rw [← hLj] at HTK ⊢
            clear hLj
            subst hda
            obtain ⟨yk, ys, yd, yv⟩ := y
            have d0 := cell_regrown (show wr.cell? ⟨bv, ov + j * 6, none⟩ = some (.string yk) from vd.c0)
            have d1 := cell_regrown (show wr.cell? ⟨bv, ov + j * 6 + 1, none⟩ = some (.int .u64 ys.a) from vd.c1)
            have d2 := cell_regrown (show wr.cell? ⟨bv, ov + j * 6 + 2, none⟩ = some (.int .u32 ys.b) from vd.c2)
            have d3 := cell_regrown (show wr.cell? ⟨bv, ov + j * 6 + 3, none⟩ = some (.int .u32 ys.c) from vd.c3)
            have x4 := cell_regrown (cell_later (Below.on HBT.out HBJ.out) HX6.out.1)
            have x5 := cell_regrown (cell_later (Below.on HBT.out HBJ.out) HX6.out.2.1)
            have hst := HST.out.later HBJ.out
            have t0 := cell_regrown (show wr.cell? ⟨bt, 0, none⟩ = some (.int .u64 t.a) from cell_of_obj hst rfl)
            have t1 := cell_regrown (show wr.cell? ⟨bt, 1, none⟩ = some (.int .u32 t.b) from cell_of_obj hst rfl)
            have t2 := cell_regrown (show wr.cell? ⟨bt, 2, none⟩ = some (.int .u32 t.c) from cell_of_obj hst rfl)
            clear vd hst
            cases hany : anyD Lj lo hi t with
            | true =>
              have HNX : Hid (anyD (Lj ++ [(yk, ⟨ys, yd, yv⟩)]) lo hi t = true) := by show _ = _; rw [anyD_snoc, hany]; rfl
              clear hany
              go_wp2_with fail
              refine wp_region_quiet_below (by kernel_rfl) (by kernel_rfl) ?_
              repeat (go_big_quiet_step (fail))
              refine wpQuiet_nil ?_
              intro wn hwn
              replace hwn := below_of_regrown hwn
              go_wp2_with fail
              go_roundg (nL - (j + 1))
              case measure => omega
              case rel => exact ⟨j + 1, by omega, rfl, by go_num, by rw [HTK.out, HNX.out], Below.on HBJ.out hwn⟩
            | false =>
              cases hin : inS lo hi yk with
              | false =>
                have HNX : Hid (anyD (Lj ++ [(yk, ⟨ys, yd, yv⟩)]) lo hi t = false) := by show _ = _; rw [anyD_snoc, hany]; show (false || (inS lo hi yk && _)) = _; rw [hin]; rfl
                have IN := hid (fun W => in_is hin W)
                clear hany hin
                go_wp2_with fail
                refine wp_region_quiet_below (by kernel_rfl) (by kernel_rfl) ?_
                repeat (go_big_quiet_step (((go_at_call 13; exact Calls.regrown_of (IN.out _)))))
                refine wpQuiet_nil ?_
                intro wn hwn
                replace hwn := below_of_regrown hwn
                go_wp2_with fail
                go_roundg (nL - (j + 1))
                case measure => omega
                case rel => exact ⟨j + 1, by omega, rfl, by go_num, by rw [HTK.out, HNX.out], Below.on HBJ.out hwn⟩
              | true =>
                obtain ⟨u, hu⟩ : ∃ u, t.lt ys = u := ⟨_, rfl⟩
                have HNX : Hid (anyD (Lj ++ [(yk, ⟨ys, yd, yv⟩)]) lo hi t = u) := by show _ = _; rw [anyD_snoc, hany]; show (false || (inS lo hi yk && t.lt ys)) = _; rw [hin, hu]; rfl
                have IN := hid (fun W => in_is hin W)
                have BE := hid (fun W => below_is hu W)
                clear hany hin hu
                go_wp2_with fail
                refine wp_region_quiet_below (by kernel_rfl) (by kernel_rfl) ?_
                repeat (go_big_quiet_step ((first | (go_at_call 13; exact Calls.regrown_of (IN.out _)) | (go_at_call 14; exact Calls.regrown_of (BE.out _)))))
                refine wpQuiet_nil ?_
                intro wn hwn
                replace hwn := below_of_regrown hwn
                go_wp2_with fail
                go_roundg (nL - (j + 1))
                case measure => omega
                case rel => exact ⟨j + 1, by omega, rfl, by go_num, by rw [HTK.out, HNX.out], Below.on HBJ.out hwn⟩
          · obtain rfl : j = nL := by omega
            have hfull : (dumpM M).take j = dumpM M := by rw [HNL.out, List.take_of_length_le (Nat.le_refl _)]
            rw [hfull]
            clear hfull
            have HBR : Hid (Below w6.heap.size w6 wr) := Below.on HBT.out HBJ.out
            have HSR := hid (HST.out.later HBJ.out)
            obtain ⟨u, hu⟩ : ∃ u, anyD (dumpM M) lo hi t = u := ⟨_, rfl⟩
            have AB : Hid (Calls Tryd.prog 10 #[pt q, .agg #[.string lo, .string hi], sv t] wr fun e w' => e = .returned (.bool u) ∧ Below wr.heap.size wr w') := by
              have := above_is (HC6.out.b.later HBR.out) lo hi t (by have := HMA.out.2.2.2; omega)
              rw [ab_dump HGD.out, show ((dumpM M).any fun e => inS lo hi e.1 && t.lt e.2.s) = u from hu] at this
              exact this
            have x4 := cell_later HBR.out HX6.out.1
            have x5 := cell_later HBR.out HX6.out.2.1
            have t0 : wr.cell? ⟨bt, 0, none⟩ = some (.int .u64 t.a) := cell_of_obj HSR.out rfl
            have t1 : wr.cell? ⟨bt, 1, none⟩ = some (.int .u32 t.b) := cell_of_obj HSR.out rfl
            have t2 : wr.cell? ⟨bt, 2, none⟩ = some (.int .u32 t.c) := cell_of_obj HSR.out rfl
            rw [hu]
            cases u with
            | true =>
              clear hu
              go_wp2_with (go_at_call 10; refine AB.out.mono ?_; rintro e w7 ⟨rfl, hb7⟩)
              go_roundg (m - (i + 1))
              case measure => omega
              case rel => exact ⟨i + 1, by omega, rfl, by go_num, Below.on HBR.out hb7⟩
            | false =>
              obtain ⟨he2, hr2⟩ := rd_top HF1.out.2.1 HTN.out hu
              obtain ⟨e1, he1⟩ : ∃ e, rdE M ⟨0, 0, 0⟩ lo hi tmax = e := ⟨_, rfl⟩
              obtain ⟨r1, hr1⟩ : ∃ r, rdL M ⟨0, 0, 0⟩ lo hi tmax = r := ⟨_, rfl⟩
              obtain ⟨n1, hn1⟩ : ∃ n, n = r1.length := ⟨_, rfl⟩
              rw [he1] at he2
              rw [hr1] at hr2
              have RD1 : Hid (∀ W, Below wr.heap.size wr W → Calls Tryd.prog 15 #[pt q, .agg #[.string lo, .string hi], sv t] W fun r w' => ∃ va vc, r = .returned (.tuple #[.slice va n1 vc, .int .i64 e1]) ∧ Hid (Row2 w' va r1) ∧ Below W.heap.size W w') := fun W hb => by rw [hn1]; exact read_at (HC6.out.b.later HBR.out) HMA.out.2.2.2 he2 hr2 hb
              have RD2 : Hid (∀ W, Below wr.heap.size wr W → Calls Tryd.prog 15 #[pt q, .agg #[.string lo, .string hi], .agg #[.int .u64 18446744073709551615, .int .u32 0, .int .u32 0]] W fun r w' => ∃ va vc, r = .returned (.tuple #[.slice va n1 vc, .int .i64 e1]) ∧ Hid (Row2 w' va r1) ∧ Below W.heap.size W w') := fun W hb => by rw [hn1]; exact read_at (t := tmax) (HC6.out.b.later HBR.out) HMA.out.2.2.2 he1 hr1 hb
              have hn1c : n1 ≤ 1048576 := by have h1 := rd_len M ⟨0, 0, 0⟩ tmax lo hi HGD.out; have h2 := HMA.out.2.2.2; rw [hr1] at h1; omega
              have SP : Hid (∀ W va vc vb vd, Row2 W va r1 → Row2 W vb r1 → Calls Tryd.prog 16 #[.slice va n1 vc, .slice vb n1 vd] W fun e w' => e = .returned (.bool true) ∧ Below W.heap.size W w') := fun W va vc vb vd h1 h2 => by rw [hn1]; exact samePairs_is (by simp) h1 h2 (by omega) (by omega)
              have qe : (e1 != e1) = false := by simp
              clear hu he1 hr1 hn1 he2 hr2
              go_wp2_with (first
                | (go_at_call 10; refine AB.out.mono ?_; rintro e w7 ⟨rfl, hb7⟩; have x4 := cell_later (Below.on HBR.out hb7) HX6.out.1; have x5 := cell_later (Below.on HBR.out hb7) HX6.out.2.1; have hs7 := HSR.out.later hb7; have t0 : w7.cell? ⟨bt, 0, none⟩ = some (.int .u64 t.a) := cell_of_obj hs7 rfl; have t1 : w7.cell? ⟨bt, 1, none⟩ = some (.int .u32 t.b) := cell_of_obj hs7 rfl; have t2 : w7.cell? ⟨bt, 2, none⟩ = some (.int .u32 t.c) := cell_of_obj hs7 rfl; clear hs7)
                | (go_at_call_of 15 t; refine (RD1.out w7 hb7).mono ?_; rintro e w8 ⟨va, vc, rfl, HV8, hb8⟩; have hb78 := Below.on hb7 hb8; have x4 := cell_later (Below.on HBR.out hb78) HX6.out.1; have x5 := cell_later (Below.on HBR.out hb78) HX6.out.2.1)
                | (go_at_call 15; refine (RD2.out w8 hb78).mono ?_; rintro e w9 ⟨vb, vd, rfl, HV9, hb9⟩; have HVA := hid (HV8.out.later hb9))
                | (go_at_call 16; refine (SP.out w9 va vc vb vd HVA.out HV9.out).mono ?_; rintro e w10 ⟨rfl, hb10⟩))
              go_roundg (m - (i + 1))
              case measure => omega
              case rel => exact ⟨i + 1, by omega, rfl, by go_num, Below.on (Below.on (Below.on HBR.out hb78) hb9) hb10⟩
      · obtain rfl : i = m := by omega
        go_wp2_with fail
        go_ret
        exact ⟨rfl, Below.on HBW.out HBI.out⟩
end Go.Proofs.YtaknkodjganacaaDoor.Vs
