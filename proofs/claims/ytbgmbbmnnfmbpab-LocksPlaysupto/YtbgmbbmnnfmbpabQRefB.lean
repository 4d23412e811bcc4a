import Derived.Test.YtbgmbbmnnfmbpabQRefW
import Derived.Test.YtbgmbbmnnfmbpabQBlocks
import Derived.Test.YtbgmbbmnnfmbpabQRefL
/- The document's All and Blocks. -/
namespace Go.Proofs.Ytbgmbbmnnfmbpab.Lk
open Go.RowKit Go.Sort
set_option linter.unusedVariables false

theorem rall_is {B q n c : Nat} {w : World} {a : Option Addr} {V : List Hv} {L : List Hd} (T : RT B w q a n c V) (hn : n + 1 ≤ 1759218604441) (hnd : ((V.map Hv.h).map Hd.id).Nodup) (hL : Told L (V.map Hv.h)) :
    Calls Try.prog 9 #[.pointer (some ⟨q, 0, none⟩)] w fun e w' => ∃ (a' : Option Addr) (c' : Nat) (U : List Hv), e = .returned (.slice a' n c') ∧ Hid (RowH w.heap.size w' a' n c' U) ∧ Hid (U.map Hv.h = L) ∧ Hid (∀ u ∈ U, u.typ w') ∧ Hid (Below w.heap.size w w') := by
  have S := hid (sorted_is T hn hnd hL)
  clear T hnd hL
  go_enter Try.func9, Try.ntmps9
  go_wp2_with fail
  refine S.out.mono ?_
  rintro e w' ⟨a', c', U, rfl, h1, h2, h3, h4⟩
  clear S
  go_wp2_with fail
  go_ret
  exact ⟨a', c', U, rfl, h1, h2, h3, h4⟩

theorem any_one (ws : List Wr) (s : T2) : anyB ws [s] = ws.any (fun x => insB x.key s) := by
  simp [anyB, withinB]
theorem row2_one {W : World} {b : Nat} {s : T2} (h0 : W.cell? ⟨b, 0, none⟩ = some (.string s.1)) (h1 : W.cell? ⟨b, 1, none⟩ = some (.string s.2)) : Row2 W (some ⟨b, 0, none⟩) [s] := fun i hi => by
  obtain rfl : i = 0 := by simpa using hi
  exact ⟨b, 0, rfl, h0, h1⟩
/-- the ids of those that block -/
def selB (s : T2) (aw al an : Int) (U : List Hv) : List Ix := (U.filter (fun v => blkB s aw al an v.h)).map (fun v => v.h.id)
theorem sel_step {s : T2} {aw al an : Int} {U : List Hv} {i : Nat} (hi : i < U.length) : selB s aw al an (U.take (i + 1)) = selB s aw al an (U.take i) ++ (if blkB s aw al an (nthH U i).h = true then [(nthH U i).h.id] else []) := by
  have e : U.take (i + 1) = U.take i ++ [nthH U i] := by
    rw [List.take_succ_eq_append_getElem hi]; simp [nthH, hi]
  rw [e]
  unfold selB
  rw [List.filter_append, List.map_append]
  congr 1
  by_cases h : blkB s aw al an (nthH U i).h = true
  · simp [h]
  · simp [h]
theorem sel_len {s : T2} {aw al an : Int} {U : List Hv} {i : Nat} : (selB s aw al an (U.take i)).length ≤ i := by
  unfold selB
  rw [List.length_map]
  refine Nat.le_trans (List.length_filter_le _ _) ?_
  rw [List.length_take]
  exact Nat.min_le_left _ _
theorem sel_all {s : T2} {aw al an : Int} {U : List Hv} {L : List Hd} (h : U.map Hv.h = L) : selB s aw al an U = (L.filter (blkB s aw al an)).map Hd.id := by
  rw [← h]
  unfold selB
  rw [List.filter_map, List.map_map]
  rfl
theorem rowI_own {B m : Nat} {w : World} {a : Option Addr} {c : Nat} {xs : List Ix} (h : OwnI B w (.slice a m c) m xs) (hm : xs.length = m) : RowI w a xs := by
  by_cases h0 : 0 < m
  · obtain ⟨g, rfl, _, _, _, _, _, hc⟩ := ownI_cells h hm h0
    exact rowI_of hc (by omega) (fun j hj => by simp [hj])
  · intro i hi
    omega

set_option maxRecDepth 8000 in
set_option maxHeartbeats 4000000 in
theorem rblocks_is {B q n c : Nat} {w : World} {a : Option Addr} {V : List Hv} {L : List Hd} {s : T2} {aw al an : Int} (T : RT B w q a n c V) (hn : n + 1 ≤ 1759218604441) (hnd : ((V.map Hv.h).map Hd.id).Nodup) (hL : Told L (V.map Hv.h)) :
    Calls Try.prog 23 #[.pointer (some ⟨q, 0, none⟩), .agg #[.string s.1, .string s.2], .agg #[.int .u64 aw, .int .u32 al, .int .u32 an]] w fun e w' => ∃ (a' : Option Addr) (m c' : Nat) (D : List Ix), e = .returned (.slice a' m c') ∧ Hid (D.length = m) ∧ Hid (RowI w' a' D) ∧ Hid (D = (L.filter (blkB s aw al an)).map Hd.id) ∧ Hid (Below w.heap.size w w') := by
  obtain ⟨wx, hwx⟩ : ∃ wx, wx = (w.alloc (.cells #[.string s.1, .string s.2] 38)).alloc (.cells #[.int .u64 aw, .int .u32 al, .int .u32 an] 32) := ⟨_, rfl⟩
  have HBX : Hid (Below w.heap.size w wx) := by rw [hwx]; exact Below.al (Below.al (Below.refl _ _) _) _
  have x0 : wx.cell? ⟨w.heap.size, 0, none⟩ = some (.string s.1) := by rw [hwx]; simp [go_sem]
  have x1 : wx.cell? ⟨w.heap.size, 1, none⟩ = some (.string s.2) := by rw [hwx]; simp [go_sem]
  have y0 : wx.cell? ⟨w.heap.size + 1, 0, none⟩ = some (.int .u64 aw) := by rw [hwx]; simp [go_sem]
  have y1 : wx.cell? ⟨w.heap.size + 1, 1, none⟩ = some (.int .u32 al) := by rw [hwx]; simp [go_sem]
  have y2 : wx.cell? ⟨w.heap.size + 1, 2, none⟩ = some (.int .u32 an) := by rw [hwx]; simp [go_sem]
  have S := hid (sorted_is (T.later HBX.out) hn hnd hL)
  obtain ⟨i0, hi, hz0, hz1, hz2⟩ := info_of infoTx
  clear T hnd hL
  go_enter Try.func23, Try.ntmps23
  go_upto_region 1 with fail
  rw [← hwx]
  clear hwx
  go_wp2_with fail
  refine S.out.mono ?_
  rintro e w1 ⟨a1, c1, U, rfl, HR, HU, HTY, HB1⟩
  have X0 := hid (cell_later HB1.out x0)
  have X1 := hid (cell_later HB1.out x1)
  have Y0 := hid (cell_later HB1.out y0)
  have Y1 := hid (cell_later HB1.out y1)
  have Y2 := hid (cell_later HB1.out y2)
  have HLN := hid HR.out.len
  have HW1 : Hid (Below w.heap.size w w1) := Below.on HBX.out HB1.out
  clear S x0 x1 y0 y1 y2
  go_wp2_with fail
  go_loopg [8, 9] n (fun g s8 s9 wr => ∃ (i m : Nat) (a' : Option Addr) (c' : Nat), i ≤ n ∧ g = n - i ∧ s9 = .int .i64 i ∧ s8 = .slice a' m c' ∧ Hid ((selB s aw al an (U.take i)).length = m ∧ m ≤ i) ∧ Hid (OwnI w1.heap.size wr (.slice a' m c') m (selB s aw al an (U.take i))) ∧ Hid (Below w1.heap.size w1 wr))
  case atStart => exact ⟨0, 0, none, 0, by omega, by omega, rfl, rfl, ⟨by simp [selB], by omega⟩, ⟨by simp [selB], .inl ⟨rfl, rfl⟩⟩, Below.refl _ _⟩
  case round =>
    obtain ⟨i, m, a', c', hi1, rfl, rfl, rfl, HML, HO, HB⟩ := hrel
    by_cases hlt : i < n
    · have RR := HR.out.later HB.out
      have hst := sel_step (s := s) (aw := aw) (al := al) (an := an) (U := U) (i := i) (by rw [HLN.out]; exact hlt)
      obtain ⟨g, eg, hc⟩ := ownH_at RR.own HLN.out hlt
      obtain ⟨x, hxe⟩ : ∃ x, x = nthH U i := ⟨_, rfl⟩
      have HXU : Hid (x ∈ U) := by rw [hxe]; exact nthH_mem (by rw [HLN.out]; exact hlt)
      rw [← hxe] at hc hst
      subst eg
      have hi2 : (i : Int) < (n : Int) := by omega
      have s0 : wr.cell? ⟨g, i * 8, none⟩ = some (.int .u32 x.h.id.1) := hc 0 _ rfl
      have s1 := hc 1 _ rfl
      have t3 := cell_regrown (hc 3 _ rfl)
      have t4 := cell_regrown (hc 4 _ rfl)
      have t5 := cell_regrown (hc 5 _ rfl)
      have s7 := hc 7 _ rfl
      have k0 := cell_regrown (cell_later HB.out Y0.out)
      have k1 := cell_regrown (cell_later HB.out Y1.out)
      have k2 := cell_regrown (cell_later HB.out Y2.out)
      obtain ⟨late, hlate⟩ : ∃ late, lessB aw al an x.h.w x.h.l x.h.n = late := ⟨_, rfl⟩
      have LE : Hid (∀ W, Calls Try.prog 42 #[.agg #[.int .u64 aw, .int .u32 al, .int .u32 an], .agg #[.int .u64 x.h.w, .int .u32 x.h.l, .int .u32 x.h.n]] W fun e w' => e = .returned (.bool late) ∧ Below W.heap.size W w') := fun W => refless_is hlate W
      have HRW : Hid (x.ok wr) := RR.ok x HXU.out
      have HST := hid hst
      have HLT := hid hlate
      clear hc hxe RR hst hlate
      cases late with
      | true =>
        have HSX : Hid (selB s aw al an (U.take (i + 1)) = selB s aw al an (U.take i)) := by
          have hb : blkB s aw al an x.h = false := by unfold blkB; rw [HLT.out]; simp
          have h := HST.out
          rw [hb] at h
          show _ = _
          simpa using h
        clear s0 s1
        go_wp2_with fail
        refine wp_region_quiet_below (by kernel_rfl) (by kernel_rfl) ?_
        repeat (go_big_quiet_step (((go_at_call 42; exact Calls.regrown_of (LE.out _)))))
        refine wpQuiet_nil ?_
        intro wn hwn
        replace hwn := below_of_regrown hwn
        clear t3 t4 t5 k0 k1 k2 s7
        go_wp2_with fail
        refine wp_region_quiet_below (by kernel_rfl) (by kernel_rfl) ?_
        repeat (go_big_quiet_step (fail))
        refine wpQuiet_nil ?_
        intro wk hwk
        replace hwk := below_of_regrown hwk
        have HNX : Hid ((selB s aw al an (U.take (i + 1))).length = m ∧ m ≤ i + 1) := ⟨by rw [HSX.out]; exact HML.out.1, by have := HML.out.2; omega⟩
        have hbk : Below wr.heap.size wr wk := Below.on hwn hwk
        have HOX : Hid (OwnI w1.heap.size wk (.slice a' m c') m (selB s aw al an (U.take (i + 1)))) := by rw [HSX.out]; exact owns_keep HO.out fun g hg => hbk.block g (HO.out.lt g hg).2
        go_wp2_with fail
        go_roundg (n - (i + 1))
        case measure => omega
        case rel => exact ⟨i + 1, m, a', c', by omega, rfl, by go_num, rfl, HNX, HOX, Below.on HB.out hbk⟩
      | false =>
        obtain ⟨u, hu⟩ : ∃ u, anyB x.h.ws [s] = u := ⟨_, rfl⟩
        have HBK : Hid (blkB s aw al an x.h = u) := by show _ = _; unfold blkB; rw [HLT.out, ← any_one, hu]; simp
        have HUA := hid hu
        clear hu
        have S0 := hid s0
        have S1 := hid s1
        have S7 := hid s7
        clear s0 s1 s7
        go_wp2_with fail
        refine wp_region_quiet_below (by kernel_rfl) (by kernel_rfl) ?_
        repeat (go_big_quiet_step (((go_at_call 42; exact Calls.regrown_of (LE.out _)))))
        refine wpQuiet_nil ?_
        intro wn hwn
        replace hwn := below_of_regrown hwn
        have HBN : Hid (Below w1.heap.size w1 wn) := Below.on HB.out hwn
        have HON : Hid (OwnI w1.heap.size wn (.slice a' m c') m (selB s aw al an (U.take i))) := owns_keep HO.out fun g hg => hwn.block g (HO.out.lt g hg).2
        have HNW : Hid (x.ok wn) := HRW.out.later hwn
        have R0 := hid (cell_later hwn S0.out)
        have R1 := hid (cell_later hwn S1.out)
        have r7 := cell_later hwn S7.out
        have p0 := cell_later HBN.out X0.out
        have p1 := cell_later HBN.out X1.out
        have IN : Hid (∀ W b, Below wn.heap.size wn W → W.cell? ⟨b, 0, none⟩ = some (.string s.1) → W.cell? ⟨b, 1, none⟩ = some (.string s.2) → Calls Try.prog 43 #[.slice x.wa x.h.ws.length x.wc, .slice (some ⟨b, 0, none⟩) 1 1] W fun e w' => e = .returned (.bool u) ∧ Below W.heap.size W w') := fun W b hb h0 h1 => into_is (ys := [s]) HUA.out (HNW.out.later hb).w (row2_one h0 h1) (by have := HNW.out.wl; omega) (by simp)
        clear t3 t4 t5 k0 k1 k2 hwn
        go_wp2_with fail
        go_cut [37] (fun s37 wz => s37 = .bool u ∧ Hid (Below wn.heap.size wn wz))
        case first =>
          go_region_held3 (fun w' => w'.cell? ⟨g, i * 8 + 7, none⟩ = some (.slice x.wa x.h.ws.length x.wc) ∧ w'.cell? ⟨w.heap.size, 0, none⟩ = some (.string s.1) ∧ w'.cell? ⟨w.heap.size, 1, none⟩ = some (.string s.2) ∧ Below wn.heap.size wn w')
            ((refine (fun (hB : Below wn.heap.size wn _) => ⟨cell_later hB r7, cell_later hB p0, cell_later hB p1, hB⟩) ?_; (repeat (first | exact Below.refl _ _ | assumption | refine Below.drew ?_ | refine Below.al ?_ _ | refine Below.setCell ?_ (by first | exact Nat.le_refl _ | (simp; omega) | (simp; done)) _ | refine Below.on ?_ (by assumption)))))
            (first | (go_at_call 43; refine (IN.out _ _ (by (repeat (first | exact Below.refl _ _ | assumption | refine Below.drew ?_ | refine Below.al ?_ _ | refine Below.setCell ?_ (by first | exact Nat.le_refl _ | (simp; omega) | (simp; done)) _ | refine Below.on ?_ (by assumption)))) (by simp [go_sem]) (by simp [go_sem])).mono ?_; rintro e w3 ⟨rfl, hb3⟩))
          all_goals (try go_wp2_with fail)
          all_goals go_meet
          all_goals (refine ⟨rfl, hid ?_⟩)
          all_goals ((repeat (first | exact Below.refl _ _ | assumption | refine Below.drew ?_ | refine Below.al ?_ _ | refine Below.setCell ?_ (by first | exact Nat.le_refl _ | (simp; omega) | (simp; done)) _ | refine Below.on ?_ (by assumption))))
        case rest =>
          obtain ⟨rfl, HC⟩ := hcut
          have HOC : Hid (OwnI w1.heap.size wc (.slice a' m c') m (selB s aw al an (U.take i))) := owns_keep HON.out fun g hg => HC.out.block g (HON.out.lt g hg).2
          have HBC : Hid (Below w1.heap.size w1 wc) := Below.on HBN.out HC.out
          have s0 := cell_later HC.out R0.out
          have s1 := cell_later HC.out R1.out
          clear r7 p0 p1 IN
          cases u with
          | false =>
            have HSX : Hid (selB s aw al an (U.take (i + 1)) = selB s aw al an (U.take i)) := by
              have h := HST.out
              rw [HBK.out] at h
              show _ = _
              simpa using h
            have HNX : Hid ((selB s aw al an (U.take (i + 1))).length = m ∧ m ≤ i + 1) := ⟨by rw [HSX.out]; exact HML.out.1, by have := HML.out.2; omega⟩
            have HOX : Hid (OwnI w1.heap.size wc (.slice a' m c') m (selB s aw al an (U.take (i + 1)))) := by rw [HSX.out]; exact HOC.out
            go_wp2_with fail
            go_roundg (n - (i + 1))
            case measure => omega
            case rel => exact ⟨i + 1, m, a', c', by omega, rfl, by go_num, rfl, HNX, HOX, HBC⟩
          | true =>
            have HSX : Hid (selB s aw al an (U.take (i + 1)) = selB s aw al an (U.take i) ++ [x.h.id]) := by
              have h := HST.out
              rw [HBK.out] at h
              show _ = _
              simpa using h
            obtain ⟨w5, hw5⟩ : ∃ w5, w5 = wc.alloc (.cells #[.int .u32 x.h.id.1, .int .u32 x.h.id.2] 29) := ⟨_, rfl⟩
            have hb5 : Below wc.heap.size wc w5 := by rw [hw5]; exact Below.al (Below.refl _ _) _
            have HO5 : Hid (OwnI w1.heap.size w5 (.slice a' m c') m (selB s aw al an (U.take i))) := owns_keep HOC.out fun g hg => hb5.block g (HOC.out.lt g hg).2
            have blk5 : w5.heap[wc.heap.size]? = some (.cells (ics x.h.id).toArray 29) := by rw [hw5]; exact (MapKept.heap_alloc _ _).1
            have HCL : Hid (∀ j y, (ics x.h.id)[j]? = some y → w5.cell? ((⟨wc.heap.size, 0, none⟩ : Addr).add j) = some y) := fun j y hj => by
              rw [Addr.add_lit, Nat.zero_add]
              exact cell_of_obj blk5 (by simpa using hj)
            have HX5 : Hid (Below w1.heap.size w1 w5) := Below.on HBC.out hb5
            have hs5 : w1.heap.size ≤ w5.heap.size := HX5.out.size
            have hnb : m + 1 ≤ 1759218604441 := by have := HML.out.2; omega
            clear hb5 blk5
            go_wp2_with (at_builtin; refine wpList_append_own _ rfl _ _ 61 rfl w1.heap.size 29 i0 (.agg #[.int .u32 0, .int .u32 0]) 2 8 Try.underlying61 hi hz0 hz1 hz2 rfl (by decide) (.slice a' m c') m ((selB s aw al an (U.take i)).flatMap ics) rfl (by rw [← hw5]; exact HO5.out) ⟨wc.heap.size, 0, none⟩ 1 1 (ics x.h.id) rfl rfl (by rw [← hw5]; exact HCL.out) (ics_one _) (by unfold maxLen; omega) (by omega) (by rw [← hw5]; exact hs5) ?_)
            intro v2 w6 hown hgrow hnil
            rw [← hw5] at hgrow
            obtain ⟨a2, c2, rfl⟩ := owns_slice hown
            have HB6 : Hid (Below w1.heap.size w1 w6) := Below.grown HX5.out hgrow (by exact hs5) (fun k hk => (HO5.out.lt k hk).1)
            have HO6 : Hid (OwnI w1.heap.size w6 (.slice a2 (m + 1) c2) (m + 1) (selB s aw al an (U.take (i + 1)))) := by
              show w6.ownsRow _ _ _ _ _ _
              rw [HSX.out, List.flatMap_append]
              simpa using hown
            have HNX : Hid ((selB s aw al an (U.take (i + 1))).length = m + 1 ∧ m + 1 ≤ i + 1) := ⟨by rw [HSX.out, List.length_append, HML.out.1]; rfl, by have := HML.out.2; omega⟩
            clear hown hgrow hnil
            go_wp2_with fail
            go_roundg (n - (i + 1))
            case measure => omega
            case rel => exact ⟨i + 1, m + 1, a2, c2, by omega, rfl, by go_num, rfl, HNX, HO6, HB6⟩
    · obtain rfl : i = n := by omega
      have hX : selB s aw al an (U.take i) = selB s aw al an U := by rw [List.take_of_length_le (by rw [HLN.out]; exact Nat.le_refl _)]
      have HF1 : Hid ((selB s aw al an (U.take i)).length = m) := HML.out.1
      have HF2 : Hid (RowI wr a' (selB s aw al an (U.take i))) := rowI_own HO.out HML.out.1
      have HF3 : Hid (selB s aw al an (U.take i) = (L.filter (blkB s aw al an)).map Hd.id) := by rw [hX]; exact sel_all HU.out
      have HF4 : Hid (Below w.heap.size w wr) := Below.on HW1.out HB.out
      clear hX
      go_wp2_with fail
      go_ret
      exact ⟨a', m, c', _, rfl, HF1, HF2, HF3, HF4⟩
end Go.Proofs.Ytbgmbbmnnfmbpab.Lk
