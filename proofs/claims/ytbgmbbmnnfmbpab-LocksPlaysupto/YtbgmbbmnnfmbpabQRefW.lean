import Derived.Test.YtbgmbbmnnfmbpabQRefS
/- The document's sorted, All. -/
namespace Go.Proofs.Ytbgmbbmnnfmbpab.Lk
open Go.RowKit Go.Sort
set_option linter.unusedVariables false

theorem foreign_one {w : World} {g : Nat} {cur : Array Value} {t : TypeId} (h : w.heap[g]? = some (.cells cur t (0, 0))) (h1 : t ≠ 38) (h2 : t ≠ 70) : Foreign w (fun b => b = g) := by
  rintro b rfl
  exact ⟨fun cur' h' => h1 (cells_ne h h'), fun cur' h' => h2 (cells_ne h h')⟩
theorem foreign_own {w : World} {B n : Nat} {s : Value} {U : List Hv} (h : OwnH B w s n U) : Foreign w (fun b => s.ownBlock = some b) := by
  intro b hb
  obtain ⟨cur, hc⟩ := own_type h hb
  exact ⟨fun cur' h' => by have := cells_ne hc h'; revert this; decide, fun cur' h' => by have := cells_ne hc h'; revert this; decide⟩

set_option maxRecDepth 8000 in
set_option maxHeartbeats 4000000 in
theorem sorted_is {B q n c : Nat} {w : World} {a : Option Addr} {V : List Hv} {L : List Hd} (T : RT B w q a n c V) (hn : n + 1 ≤ 1759218604441) (hnd : ((V.map Hv.h).map Hd.id).Nodup) (hL : Told L (V.map Hv.h)) :
    Calls Try.prog 30 #[.pointer (some ⟨q, 0, none⟩)] w fun e w' => ∃ (a' : Option Addr) (c' : Nat) (U : List Hv), e = .returned (.slice a' n c') ∧ Hid (RowH w.heap.size w' a' n c' U) ∧ Hid (U.map Hv.h = L) ∧ Hid (∀ u ∈ U, u.typ w') ∧ Hid (Below w.heap.size w w') := by
  have c0 := T.c0
  have hmk := make_bo w n (by omega)
  obtain ⟨wx, hwx⟩ : ∃ wx, wx = w.alloc (.cells (madeCells (Value.bool false).cells n) 4) := ⟨_, rfl⟩
  have hcb := madeB w n
  have hbx : Below w.heap.size w wx := by rw [hwx]; exact Below.al (Below.refl _ _) _
  have hgo : ∃ cur, wx.heap[w.heap.size]? = some (.cells cur 4 (0, 0)) := by rw [hwx]; exact ⟨_, (MapKept.heap_alloc _ _).1⟩
  have hsz : w.heap.size < wx.heap.size := by rw [hwx]; simp
  rw [← hwx] at hmk hcb
  obtain ⟨gd, hgd⟩ : ∃ gd, gd = w.heap.size := ⟨_, rfl⟩
  rw [← hgd] at hmk hcb hgo hsz
  have HLN := hid T.row.len
  have HT := hid T
  have HND := hid hnd
  have HL := hid hL
  have HLL : Hid (L.length = n) := by have := hL.len; rw [List.length_map, T.row.len] at this; exact this
  have HCB := hid hcb
  have HBX := hid hbx
  have HGO := hid hgo
  have HGD := hid hgd
  have HSZ := hid hsz
  obtain ⟨i0, hi, hz0, hz1, hz2⟩ := info_of infoHd
  clear T hwx hcb hbx hgo hgd hsz hnd hL
  go_enter Try.func30, Try.ntmps30
  go_wp2_with fail
  clear hmk c0
  go_loopg [3, 5] n (fun g s3 s5 wr => ∃ (r : Nat) (a' : Option Addr) (c' : Nat) (O : List Hv) (f : Nat → Bool), r ≤ n ∧ g = n - r ∧ s5 = .int .i64 r ∧ s3 = .slice a' r c' ∧ Hid (O.length = r ∧ O.map Hv.h = L.take r) ∧ Hid (OwnH wx.heap.size wr (.slice a' r c') r O) ∧ Hid (∀ u ∈ O, u.ok wr ∧ u.typ wr) ∧
    Hid (CellB wr gd f n ∧ (∃ cur, wr.heap[gd]? = some (.cells cur 4 (0, 0))) ∧ doneP f V L r) ∧ Hid (Below w.heap.size w wr ∧ wx.heap.size ≤ wr.heap.size))
  case atStart => exact ⟨0, none, 0, [], fun _ => false, by omega, by omega, rfl, rfl, ⟨rfl, by simp⟩, ⟨rfl, .inl ⟨rfl, rfl⟩⟩, fun u hu => by simp at hu, ⟨HCB.out, HGO.out, fun j hj => by simp⟩, ⟨HBX.out, Nat.le_refl _⟩⟩
  case round =>
    obtain ⟨r, a', c', O, f, hr, rfl, rfl, rfl, HOL, HOW, HOK, HD, HBW⟩ := hrel
    have TR := HT.out.later HBW.out.1
    have c0 := TR.c0
    by_cases hlt : r < n
    · obtain ⟨wO, hwO⟩ : ∃ wO, wO = wr := ⟨_, rfl⟩
      rw [← hwO] at HOW HOK HD HBW TR c0 ⊢
      clear hwO
      have HTR := hid TR
      clear TR
      go_wp2_with fail
      clear c0
      go_loopg [6, 7] n (fun g s6 s7 wr => ∃ (i : Nat) (kz : Int), i ≤ n ∧ g = n - i ∧ s7 = .int .i64 i ∧ s6 = .int .i64 kz ∧ Hid (minP f V i kz) ∧ Hid (Below wO.heap.size wO wr))
      case atStart => exact ⟨0, -1, by omega, by omega, rfl, rfl, .inl ⟨rfl, fun j hj => absurd hj (by omega)⟩, Below.refl _ _⟩
      case round =>
        obtain ⟨i, kz, hi1, rfl, rfl, rfl, HMI, HB⟩ := hrel
        have TI := HTR.out.later HB.out
        have c0 := TI.c0
        by_cases hil : i < n
        · have d0 := cell_later HB.out (HD.out.1 i hil)
          obtain ⟨g, eg, hc⟩ := ownH_at TI.row.own HLN.out hil
          have hi2 : (i : Int) < (n : Int) := by omega
          have k0 := cell_regrown c0
          have k1 := cell_regrown d0
          obtain ⟨fb, hfb⟩ : ∃ fb, fb = f i := ⟨_, rfl⟩
          rw [← hfb] at d0 k1
          have HFB := hid hfb
          clear hfb d0
          cases fb with
          | true =>
            have HM2 : Hid (minP f V (i + 1) kz) := min_step HMI.out HFB.out.symm
            clear hc TI
            go_wp2_with fail
            refine wp_region_quiet_below (by kernel_rfl) (by kernel_rfl) ?_
            repeat (go_big_quiet_step (fail))
            refine wpQuiet_nil ?_
            intro wn hwn
            replace hwn := below_of_regrown hwn
            go_wp2_with fail
            go_roundg (n - (i + 1))
            case measure => omega
            case rel => exact ⟨i + 1, kz, by omega, rfl, by go_num, rfl, HM2, Below.on HB.out hwn⟩
          | false =>
            rcases HMI.out with ⟨rfl, hall⟩ | ⟨m, rfl, hm, fm, hmin⟩
            · have HM2 : Hid (minP f V (i + 1) (i : Int)) := min_first (.inl ⟨rfl, hall⟩) HFB.out.symm
              clear hc TI hall
              go_wp2_with fail
              refine wp_region_quiet_below (by kernel_rfl) (by kernel_rfl) ?_
              repeat (go_big_quiet_step (fail))
              refine wpQuiet_nil ?_
              intro wn hwn
              replace hwn := below_of_regrown hwn
              go_wp2_with fail
              go_roundg (n - (i + 1))
              case measure => omega
              case rel => exact ⟨i + 1, (i : Int), by omega, rfl, by go_num, rfl, HM2, Below.on HB.out hwn⟩
            · obtain ⟨g', eg', hc'⟩ := ownH_at TI.row.own HLN.out (show m < n by omega)
              rw [eg] at eg'
              injection eg' with eg'
              injection eg' with eg'
              subst eg'
              obtain ⟨x, hxe⟩ : ∃ x, x = nthH V i := ⟨_, rfl⟩
              obtain ⟨y, hye⟩ : ∃ y, y = nthH V m := ⟨_, rfl⟩
              rw [← hxe] at hc
              rw [← hye] at hc'
              obtain ⟨lt, hlt'⟩ : ∃ lt, ltI x.h.id y.h.id = lt := ⟨_, rfl⟩
              have s0 := cell_regrown (show wr.cell? ⟨g, i * 8, none⟩ = _ from hc 0 _ rfl)
              have s1 := cell_regrown (hc 1 _ rfl)
              have t0 := cell_regrown (show wr.cell? ⟨g, m * 8, none⟩ = _ from hc' 0 _ rfl)
              have t1 := cell_regrown (hc' 1 _ rfl)
              have BF : Hid (∀ W, Calls Try.prog 50 #[.agg #[.int .u32 x.h.id.1, .int .u32 x.h.id.2], .agg #[.int .u32 y.h.id.1, .int .u32 y.h.id.2]] W fun e w' => e = .returned (.bool lt) ∧ Below W.heap.size W w') := fun W => before_is hlt' W
              have HLT' : Hid (ltI (nthH V i).h.id (nthH V m).h.id = lt) := by rw [← hxe, ← hye]; exact hlt'
              have hm1 : (m : Int) < (n : Int) := by omega
              have hm0 : decide ((m : Int) < 0) = false := decide_eq_false (by omega)
              rw [eg] at k0 c0
              clear hc hc' hxe hye hlt' TI eg
              cases lt with
              | true =>
                have HM2 : Hid (minP f V (i + 1) (i : Int)) := min_take HMI.out HFB.out.symm HLT'.out
                clear hmin fm
                go_wp2_with fail
                refine wp_region_quiet_below (by kernel_rfl) (by kernel_rfl) ?_
                repeat (go_big_quiet_step (((go_at_call 50; exact Calls.regrown_of (BF.out _)))))
                refine wpQuiet_nil ?_
                intro wn hwn
                replace hwn := below_of_regrown hwn
                go_wp2_with fail
                go_roundg (n - (i + 1))
                case measure => omega
                case rel => exact ⟨i + 1, (i : Int), by omega, rfl, by go_num, rfl, HM2, Below.on HB.out hwn⟩
              | false =>
                have HM2 : Hid (minP f V (i + 1) (m : Int)) := min_keep HMI.out HLT'.out
                clear hmin fm
                go_wp2_with fail
                refine wp_region_quiet_below (by kernel_rfl) (by kernel_rfl) ?_
                repeat (go_big_quiet_step (((go_at_call 50; exact Calls.regrown_of (BF.out _)))))
                refine wpQuiet_nil ?_
                intro wn hwn
                replace hwn := below_of_regrown hwn
                go_wp2_with fail
                go_roundg (n - (i + 1))
                case measure => omega
                case rel => exact ⟨i + 1, (m : Int), by omega, rfl, by go_num, rfl, HM2, Below.on HB.out hwn⟩
        · obtain rfl : i = n := by omega
          obtain ⟨m, rfl, hm, fm, hLm⟩ := told_next HND.out HL.out HD.out.2.2 (by rw [HLN.out]; exact hlt) (k := kz) (by rw [HLN.out]; exact HMI.out)
          have hmi : m < i := by have := HLN.out; omega
          have hm1 : (m : Int) < (i : Int) := by omega
          have d0 : wr.cell? ⟨gd, m, none⟩ = some (.bool false) := by have := cell_later HB.out (HD.out.1 m hmi); rwa [fm] at this
          have HDN : Hid (doneP (put f m true) V L (r + 1)) := done_step HND.out HD.out.2.2 hm (by rw [HLL.out]; exact hlt) hLm
          have HLM := hid hLm
          obtain ⟨x, hxe⟩ : ∃ x, x = nthH V m := ⟨_, rfl⟩
          have hxV : x ∈ V := by rw [hxe]; exact nthH_mem hm
          rw [← hxe] at HLM
          obtain ⟨wz, hwz⟩ : ∃ wz, wz = wr.setCell ⟨gd, m, none⟩ (.bool true) := ⟨_, rfl⟩
          obtain ⟨cur, hgc⟩ : ∃ cur, wr.heap[gd]? = some (.cells cur 4 (0, 0)) := by
            obtain ⟨cur, hc⟩ := HD.out.2.1
            exact ⟨cur, (HB.out.block gd (Array.getElem?_eq_some_iff.1 hc).1).trans hc⟩
          have fz : ∀ o, wr.frozen? ⟨gd, o, none⟩ = false := fun o => by simp [World.frozen?, hgc]
          have hfor : Foreign wr (fun b => b = gd) := foreign_one hgc (by decide) (by decide)
          have hoz : Onl (fun b => b = gd) wr wz := by rw [hwz]; exact Onl.set (F := fun b => b = gd) (Onl.refl _ _) rfl _ _
          have HCZ : Hid (CellB wz gd (put f m true) i) := by rw [hwz]; exact (HD.out.1.later HB.out).put true
          have HGZ : Hid (∃ cur, wz.heap[gd]? = some (.cells cur 4 (0, 0))) := by rw [hwz]; exact ⟨_, heap_setCell_same _ _ _ _ _ _ hgc⟩
          have HBZ : Hid (Below w.heap.size w wz) := by
            rw [hwz]
            exact Below.setCell (Below.on HBW.out.1 HB.out) (by show _ ≤ gd; rw [HGD.out]; exact Nat.le_refl _) _
          have hsz : wx.heap.size ≤ wz.heap.size := Nat.le_trans HBW.out.2 (Nat.le_trans HB.out.size hoz.size)
          have TZ := HT.out.later HBZ.out
          have z0 := TZ.c0
          have HOZ : Hid (OwnH wx.heap.size wz (.slice a' r c') r O) := owns_keep (owns_keep HOW.out fun g hg => HB.out.block g (HOW.out.lt g hg).2) fun g hg => by
            rw [hwz]
            refine Below.heap_setCell _ _ _ _ ?_
            have h1 := (HOW.out.lt g hg).1
            have h2 := HSZ.out
            show g ≠ gd
            omega
          have HKZ : Hid (∀ u ∈ O, u.ok wz ∧ u.typ wz) := fun u hu => ⟨((HOK.out u hu).1.later HB.out).typ_onl ((HOK.out u hu).2.later HB.out) hoz hfor, ((HOK.out u hu).2.later HB.out).onl hoz hfor⟩
          have CO := hid (rcopied_is (TZ.row.ok x hxV))
          obtain ⟨g, eg, hc⟩ := ownH_at TZ.row.own HLN.out hmi
          rw [← hxe] at hc
          subst eg
          have s0 : wz.cell? ⟨g, m * 8, none⟩ = some (.int .u32 x.h.id.1) := hc 0 _ rfl
          have s1 := hc 1 _ rfl
          have s2 := hc 2 _ rfl
          have s3 := hc 3 _ rfl
          have s4 := hc 4 _ rfl
          have s5 := hc 5 _ rfl
          have s6 := hc 6 _ rfl
          have s7 := hc 7 _ rfl
          clear hc hxe hxV hfor hoz hgc TI TZ hLm fm hm
          go_upto_region 13 with fail
          rw [← hwz]
          clear hwz c0 d0 fz
          go_wp2_with fail
          refine CO.out.mono ?_
          rintro e w3 ⟨u, rfl, HUH, HUF, HUO, HB3⟩
          clear CO s0 s1 s2 s3 s4 s5 s6 s7 z0
          obtain ⟨w5, hw5⟩ : ∃ w5, w5 = w3.alloc (.cells #[.int .u32 u.h.id.1, .int .u32 u.h.id.2, .int .u32 u.h.home, .int .u64 u.h.w, .int .u32 u.h.l, .int .u32 u.h.n, .slice u.ra u.h.rs.length u.rc, .slice u.wa u.h.ws.length u.wc] 36) := ⟨_, rfl⟩
          have hb5 : Below w3.heap.size w3 w5 := by rw [hw5]; exact Below.al (Below.refl _ _) _
          have hbz : Below wz.heap.size wz w5 := Below.on HB3.out hb5
          have HZ5 := hid hbz
          have H35 := hid hb5
          have HO5 : Hid (OwnH wx.heap.size w5 (.slice a' r c') r O) := owns_keep HOZ.out fun g hg => hbz.block g (HOZ.out.lt g hg).2
          have HCL : Hid (∀ j' y, (hcs u)[j']? = some y → w5.cell? ((⟨w3.heap.size, 0, none⟩ : Addr).add j') = some y) := by rw [hw5]; exact lit8 w3 u
          have HX5 : Hid (Below w.heap.size w w5) := Below.on HBZ.out hbz
          have hs5 : wx.heap.size ≤ w5.heap.size := Nat.le_trans hsz hbz.size
          have hmb : r + 1 ≤ 1759218604441 := by omega
          clear hb5 hbz
          go_wp2_with (at_builtin; refine wpList_append_own _ rfl _ _ 43 rfl wx.heap.size 36 i0 (Hv.val Hv.zero) 8 80 Try.underlying43 hi hz0 hz1 hz2 rfl (by decide) (.slice a' r c') r (O.flatMap hcs) rfl (by rw [← hw5]; exact HO5.out) ⟨w3.heap.size, 0, none⟩ 1 1 (hcs u) rfl rfl (by rw [← hw5]; exact HCL.out) (hcs_one u) (by unfold maxLen; omega) (by omega) (by rw [← hw5]; exact hs5) ?_)
          intro v2 w6 hown hgrow hnil
          rw [← hw5] at hgrow
          obtain ⟨a2, c2, rfl⟩ := owns_slice hown
          have HB6 : Hid (Below w.heap.size w w6 ∧ wx.heap.size ≤ w6.heap.size) := ⟨Below.grown HX5.out hgrow HX5.out.size (fun k hk => Nat.le_trans HBX.out.size (HO5.out.lt k hk).1), Nat.le_trans hs5 (grown_onl hgrow).size⟩
          have HO6 : Hid (OwnH wx.heap.size w6 (.slice a2 (r + 1) c2) (r + 1) (O ++ [u])) := by
            show w6.ownsRow _ _ _ _ _ _
            rw [List.flatMap_append]
            simpa using hown
          have HNX : Hid ((O ++ [u]).length = r + 1 ∧ (O ++ [u]).map Hv.h = L.take (r + 1)) := by
            refine ⟨by rw [List.length_append, HOL.out.1]; rfl, ?_⟩
            rw [List.take_add_one, HLM.out, List.map_append, HOL.out.2]
            simp [HUH.out]
          have hf5 := foreign_own HO5.out
          have hK5 : ∀ u' ∈ O ++ [u], u'.ok w5 ∧ u'.typ w5 := fun u' hu' => by
            rcases List.mem_append.1 hu' with h | h
            · exact ⟨(HKZ.out u' h).1.later HZ5.out, (HKZ.out u' h).2.later HZ5.out⟩
            · obtain rfl := List.mem_singleton.1 h
              exact ⟨HUO.out.later H35.out, HUF.out.typ.later H35.out⟩
          have HK6 : Hid (∀ u' ∈ O ++ [u], u'.ok w6 ∧ u'.typ w6) := fun u' hu' => ⟨(hK5 u' hu').1.typ_onl (hK5 u' hu').2 (grown_onl hgrow) hf5, (hK5 u' hu').2.onl (grown_onl hgrow) hf5⟩
          have hG5 : ¬ (Value.slice a' r c').ownBlock = some gd := fun e => by
            have h1 := (HO5.out.lt gd e).1
            have h2 := HSZ.out
            omega
          have HD6 : Hid (CellB w6 gd (put f m true) i ∧ (∃ cur, w6.heap[gd]? = some (.cells cur 4 (0, 0))) ∧ doneP (put f m true) V L (r + 1)) := by
            refine ⟨fun j hj => (grown_onl hgrow).cell hG5 (cell_later HZ5.out (HCZ.out j hj)), ?_, HDN.out⟩
            obtain ⟨cur, hc⟩ := HGZ.out
            have h5 := (HZ5.out.block gd (Array.getElem?_eq_some_iff.1 hc).1).trans hc
            exact ⟨cur, ((grown_onl hgrow).block gd (Array.getElem?_eq_some_iff.1 h5).1 hG5).trans h5⟩
          clear hown hgrow hnil hf5 hK5 hG5
          go_wp2_with fail
          go_roundg (i - (r + 1))
          case measure => omega
          case rel => exact ⟨r + 1, a2, c2, O ++ [u], put f m true, by omega, rfl, by go_num, rfl, HNX, HO6, HK6, HD6, HB6⟩
    · obtain rfl : r = n := by omega
      have HF : Hid (RowH w.heap.size wr a' r c' O) := ⟨owns_base HOW.out HBX.out.size, HOL.out.1, fun u hu => (HOK.out u hu).1⟩
      have HF2 : Hid (O.map Hv.h = L) := by show _ = _; rw [HOL.out.2, List.take_of_length_le (by rw [HLL.out]; exact Nat.le_refl _)]
      have HF3 : Hid (∀ u ∈ O, u.typ wr) := fun u hu => (HOK.out u hu).2
      have HF4 := hid HBW.out.1
      clear TR
      go_wp2_with fail
      go_ret
      exact ⟨a', c', O, rfl, HF, HF2, HF3, HF4⟩
end Go.Proofs.Ytbgmbbmnnfmbpab.Lk
