import Derived.Test.YthenfioddnkjbaaGreatDoorRzSt
import Derived.Deep.RegionLaw
import Derived.Lib.AppendZeros
/- settle. -/
namespace Go.Proofs.YthenfioddnkjbaaGreatDoor.Bg
open Go.RowKit Go.Sort Go.Proofs.YthenfioddnkjbaaGreatDoor Go.Proofs.YthenfioddnkjbaaGreatDoor.Rt
set_option linter.unusedVariables false

set_option maxRecDepth 16000 in
set_option maxHeartbeats 16000000 in
theorem settleT_is {T : TypeId} {W w : World} {b oo d : Nat} {c : Nat → Nat} {s : Bv (ByteArray)} (hP : PowTab W) (h : Bk elT mkB T w W.heap.size b oo d c s) (hbW : Below W.heap.size W w) (hL : s.L.length = s.N.length) (hXY : ∀ i, i < s.F.length → nthX s.Y i = nthX s.X i) (hx : ∀ i, i < s.F.length → (nthX s.X i).length ≤ 1073741824) (hF : s.F.length ≤ 1073741824) (hN : s.N.length ≤ 1073741824) :
    Calls Tryz.prog 48 #[.pointer (some ⟨b, oo, none⟩)] w fun e w' => e = .returned (.bool true) ∧ Hid (∃ c' s', Sd elT mkB T W w w' b oo d c c' s s') := by
  obtain ⟨af, kf, hvf⟩ := owns_slice h.rf
  obtain ⟨aw, kw, hvw⟩ := owns_slice h.rw_
  obtain ⟨ak, kk, hvk⟩ := owns_slice h.rk
  have hd2 := h.d2
  have x0 := h.c0
  have x1 := h.c1
  have x2 := h.c2
  have x3 := h.c3
  rw [hvf] at x0
  rw [hvw, h.lz] at x1
  rw [hvk, h.lk] at x2
  have hcf := h.rf
  rw [hvf] at hcf
  have hcap := (OwnL.cap hcf).2
  obtain ⟨nF, hnF⟩ : ∃ nF, nF = s.F.length := ⟨_, rfl⟩
  obtain ⟨fr, hfr⟩ : ∃ fr, fr = s.N.length := ⟨_, rfl⟩
  have HVF := hid hvf
  have HVW := hid hvw
  have HVK := hid hvk
  have HNF := hid hnF
  have HFR := hid hfr
  have HB := hid h
  have HBW := hid hbW
  have HL := hid hL
  have HXY := hid hXY
  have HX := hid hx
  rw [← hnF] at x0 x1 hcap hF
  rw [← hfr] at x2 hN
  have HMARK : Hid (∀ (wr : World) (i j : Nat), Below W.heap.size W wr → i ≤ 4611686018427387904 → j ≤ 4611686018427387904 → Calls Tryz.prog 64 #[.int .i64 (i : Int), .int .i64 (j : Int)] wr fun e w' => e = .returned (.string (mkB i j)) ∧ Below wr.heap.size wr w') := fun wr i j hb h2 h4 => markTB_is i j h2 h4 wr (hP.later hb)
  clear hP h hbW hL hXY hx hvf hvw hvk hcf hnF hfr x3
  go_enter Tryz.func48, Tryz.ntmps48
  go_wp2_with fail
  go_loopg [4] nF (fun g s4 wr => ∃ i : Nat, i ≤ nF ∧ g = nF - i ∧ s4 = .int .i64 i ∧ Hid (Below w.heap.size w wr))
  case atStart => exact ⟨0, by omega, by omega, rfl, Below.refl _ _⟩
  case round =>
    obtain ⟨i, hi, rfl, rfl, HBR⟩ := hrel
    replace x0 := cell_later HBR.out x0
    replace x1 := cell_later HBR.out x1
    replace x2 := cell_later HBR.out x2
    by_cases hlt : i < nF
    · have hlt' : i < s.F.length := by rw [← HNF.out]; exact hlt
      obtain ⟨gf, a1, k1, rfl, y1, e1⟩ := (HB.out.after HBR.out).freshAt HVF.out hlt'
      obtain ⟨gw, a2, k2, rfl, y2, e2⟩ := (HB.out.after HBR.out).wasAt HVW.out hlt'
      have hrd1 := (HB.out.fr i hlt').1.rd.later HBR.out
      have hrd2 := (HB.out.wa i hlt').rd.later HBR.out
      rw [HXY.out i hlt'] at hrd2 y2 e2
      rw [e1] at hrd1
      rw [e2] at hrd2
      have hln := HX.out i hlt'
      have SM : Hid (∀ ws, Below wr.heap.size wr ws → Calls Tryz.prog 63 #[.slice a1 (nthX s.X i).length k1, .slice a2 (nthX s.X i).length k2] ws fun e w'' => e = .returned (.bool true) ∧ Below ws.heap.size ws w'') := fun ws hb => sameT_at (hrd1.later hb) (hrd2.later hb) hln
      generalize (nthX s.X i).length = ln at y1 y2 SM
      have hI : (i : Int) < (nF : Int) := by omega
      clear e1 e2 hrd1 hrd2 hln
      go_wp2_with fail
      have r0 := cell_regrown x0
      have r1 := cell_regrown x1
      have r2 := cell_regrown y1
      have r3 := cell_regrown y2
      refine wp_region_quiet_below (by kernel_rfl) (by kernel_rfl) ?_
      repeat (go_big_quiet_step (((go_at_call 63; exact Calls.regrown_of (SM.out _ (below_of_regrown ⟨⟨_, _⟩, rfl⟩))))))
      refine wpQuiet_nil ?_
      intro wn hwn
      replace hwn := below_of_regrown hwn
      go_wp2_with fail
      go_roundg (nF - (i + 1))
      case measure => omega
      case rel => exact ⟨i + 1, by omega, rfl, by go_num, Below.on HBR.out hwn⟩
    · obtain rfl : nF = i := by omega
      clear hlt hi
      have HS0 : Hid (S2 elT mkB T w wr W.heap.size b oo d c s fr 0 0) := S2.start HB.out HBR.out HBW.out.size
      clear HBR
      go_wp2_with fail
      go_loopg [5] nF (fun g s5 ws => ∃ i : Nat, i ≤ nF ∧ g = nF - i ∧ s5 = .int .i64 i ∧ Hid (S2 elT mkB T w ws W.heap.size b oo d c s fr i 0))
      case atStart => exact ⟨0, by omega, by omega, rfl, HS0.out⟩
      case round =>
        obtain ⟨i, hi, rfl, rfl, HS⟩ := hrel
        clear HS0 x0 x1 x2
        obtain ⟨X', hbk, hX', hon, hbl⟩ := HS.out
        have hsz : W.heap.size ≤ wr.heap.size := Nat.le_trans HBW.out.size hon.size
        have x0 := hbk.c0
        replace x0 : wr.cell? ⟨b, oo, none⟩ = some (.slice af nF kf) := by rw [x0]; show some s.vf = _; rw [HVF.out, HNF.out]
        by_cases hlt : i < nF
        · have hlt' : i < s.F.length := by rw [← HNF.out]; exact hlt
          obtain ⟨gf, a1, k1, rfl, y1, e1⟩ := hbk.freshAt HVF.out hlt'
          have hX2 : nthX X' i = cont mkB s fr i 0 i := hX' i hlt'
          have hlx : (nthX X' i).length = (nthX s.X i).length := by rw [hX2, cont_len (Nat.zero_le _)]
          replace e1 : nthV s.F i = .slice a1 (nthX X' i).length k1 := e1
          replace y1 : wr.cell? ⟨gf, i, none⟩ = some (.slice a1 (nthX X' i).length k1) := y1
          rw [hlx] at e1 y1
          have E1 := hid e1
          have hln := HX.out i hlt'
          obtain ⟨ln, hlnn⟩ : ∃ ln, ln = (nthX s.X i).length := ⟨_, rfl⟩
          have HLN := hid hlnn
          rw [← hlnn] at y1 hln
          have hI : (i : Int) < (nF : Int) := by omega
          have hG := hid (World.ownsRow.lt HB.out.rf gf (by rw [HVF.out]; rfl))
          clear hX2 hlx e1 hlnn
          go_wp2_with fail
          go_loopg [6] ln (fun g s6 wt => ∃ k : Nat, k ≤ ln ∧ g = ln - k ∧ s6 = .int .i64 k ∧ Hid (S2 elT mkB T w wt W.heap.size b oo d c s fr i k))
          case atStart => exact ⟨0, by omega, by omega, rfl, HS.out⟩
          case round =>
            obtain ⟨k, hk, rfl, rfl, HSK⟩ := hrel
            clear x0 y1 hbk hX' hon hbl
            obtain ⟨X', hbk, hX', hon, hbl⟩ := HSK.out
            have HBR : Hid (Below W.heap.size W wr) := HBW.out.trans hbl
            have x0 := hbk.c0
            replace x0 : wr.cell? ⟨b, oo, none⟩ = some (.slice (some ⟨gf, 0, none⟩) nF kf) := by rw [x0]; show some s.vf = _; rw [HVF.out, HNF.out]
            obtain ⟨gf2, a2, k2, e2, y1, e3⟩ := hbk.freshAt HVF.out hlt'
            obtain rfl : gf = gf2 := congrArg Addr.block (Option.some.inj e2)
            replace e3 : nthV s.F i = .slice a2 _ k2 := e3
            rw [E1.out] at e3
            injection e3 with e4 _ e5
            subst e4 e5
            have hlx : (nthX X' i).length = ln := by rw [hX' i hlt', cont_len (by rw [← HLN.out]; exact hk), HLN.out]
            replace y1 : wr.cell? ⟨gf, i, none⟩ = some (.slice a1 (nthX X' i).length k1) := y1
            rw [hlx] at y1
            by_cases hlt2 : k < ln
            · have hrw := HSK.out.row hlt'
              have hcl : (cont mkB s fr i k i).length = ln := by rw [cont_len (by rw [← HLN.out]; exact hk), HLN.out]
              obtain ⟨g, off, tk, rfl, y2, f2, hgB⟩ : ∃ g off tk, a1 = some ⟨g, off, none⟩ ∧ (∀ o u, (elT.cs tk)[o]? = some u → wr.cell? ⟨g, off + (k * 1 + o), none⟩ = some u) ∧ (∀ o, wr.frozen? ⟨g, o, none⟩ = false) ∧ g < wr.heap.size := by
                rw [E1.out] at hrw
                rcases hrw with ⟨_, e0⟩ | ⟨g, off, c3, e, _, hr2⟩
                · rw [e0] at hcl; simp at hcl; omega
                · injection e with e1 _ _
                  obtain ⟨b9, off9, e9, hc9⟩ := hr2.rd.el okT (List.getElem?_eq_getElem (show k < _ by rw [hcl]; exact hlt2))
                  have e9 := Option.some.inj e9
                  obtain rfl : g = b9 := congrArg Addr.block e9
                  obtain rfl : off = off9 := congrArg Addr.off e9
                  exact ⟨g, off, _, e1, hc9, fun o => hr2.ty.loose o, hr2.ty.lt⟩
              have kw : IntKind.i64.wrap ((fr : Int) + (i : Int)) = ((fr + i : Nat) : Int) := by rw [IntKind.wrap_i64]; omega
              have HM : Hid (∀ ws, Below wr.heap.size wr ws → Calls Tryz.prog 64 #[.int .i64 ((fr + i : Nat) : Int), .int .i64 (k : Int)] ws fun e w' => e = .returned (.string (mkB (fr + i) k)) ∧ Below ws.heap.size ws w') := fun ws hb => HMARK.out ws (fr + i) k (Below.on HBR.out hb) (by omega) (by omega)
              have HPUT : Hid (∀ wz, Below wr.heap.size wr wz → S2 elT mkB T w (wz.setCell ⟨g, off + k, none⟩ (.string (mkB (fr + i) k))) W.heap.size b oo d c s fr i (k + 1)) := fun wz hb => (by have h9 := HSK.out.put okT hlt' (by rw [← HLN.out]; exact hlt2) hb E1.out (Nat.le_trans HBW.out.size hon.size); rw [show off + k * elT.k = off + k from by show off + k * 1 = off + k; omega] at h9; exact h9)
              generalize mkB (fr + i) k = mm at HM HPUT
              have y20 : wr.cell? ⟨g, off + k, none⟩ = some (.string tk) := (by have := y2 0 _ rfl; simpa using this)
              generalize fr + i = fi at kw HM
              have hK : (k : Int) < (ln : Int) := by omega
              clear hbk hX' hon hbl hlx hrw hcl
              go_wp2_with fail
              go_region_with ((go_at_call 64; refine (HM.out _ (by (repeat (first | with_reducible exact Below.refl _ _ | with_reducible assumption | with_reducible refine Below.drew ?_ | with_reducible refine Below.al ?_ _ | with_reducible refine Below.setCell ?_ (by first | exact Nat.le_refl _ | (simp; omega) | (simp; done)) _ | with_reducible refine Below.on ?_ (by assumption))))).mono ?_; rintro e w2 ⟨rfl, hb2⟩; have hbz : Below wr.heap.size wr w2 := (Below.on (Below.drew (Below.refl _ _)) hb2); have x0b := cell_later hbz x0; have y1b := cell_later hbz y1; have y20b := cell_later hbz y20; have f2b : ∀ o, w2.frozen? ⟨g, o, none⟩ = false := fun o => (hbz.frozen (p := ⟨g, o, none⟩) hgB).trans (f2 o)))
              all_goals (try go_wp2_with fail)
              all_goals go_roundg (ln - (k + 1))
              all_goals first | omega | exact ⟨k + 1, by omega, rfl, by go_num, HPUT.out _ hbz⟩
            · obtain rfl : ln = k := by omega
              have HN : Hid (S2 elT mkB T w wr W.heap.size b oo d c s fr (i + 1) 0) := by
                have := HSK.out
                rw [HLN.out] at this
                exact this.next
              clear hlt2 hk hbk hX' hon hbl hlx
              go_wp2_with fail
              go_roundg (nF - (i + 1))
              case measure => omega
              case rel => exact ⟨i + 1, by omega, rfl, by go_num, HN.out⟩
        · obtain rfl : nF = i := by omega
          have HS9 : Hid (∃ s', S3 elT mkB T w wr W.heap.size b oo d c c s s' 0 ∧ s'.vl = s.vl) := by
            have := HS.out
            rw [HNF.out, HFR.out] at this
            exact S3.start HB.out this HL.out
          clear hlt hi hbk hX' hon hbl
          go_wp2_with fail
          go_loopg [7] nF (fun g s7 ws => ∃ i : Nat, i ≤ nF ∧ g = nF - i ∧ s7 = .int .i64 i ∧ Hid (∃ c' s', S3 elT mkB T w ws W.heap.size b oo d c c' s s' i))
          case atStart =>
            obtain ⟨s', h1, _⟩ := HS9.out
            exact ⟨0, by omega, by omega, rfl, c, s', h1⟩
          case round =>
            obtain ⟨i, hi, rfl, rfl, HS3⟩ := hrel
            clear HS9 x0 HS
            obtain ⟨c', s', h3⟩ := HS3.out
            have x0 := h3.bk.c0
            have x1 := h3.bk.c1
            have x2 := h3.bk.c2
            have x3 := h3.bk.c3
            replace x0 : wr.cell? ⟨b, oo, none⟩ = some (.slice af nF kf) := by rw [x0, h3.eq.vf, HVF.out, HNF.out]
            by_cases hlt : i < nF
            · have hlt' : i < s.F.length := by rw [← HNF.out]; exact hlt
              have hln := HX.out i hlt'
              obtain ⟨ln, hlnn⟩ : ∃ ln, ln = (nthX s.X i).length := ⟨_, rfl⟩
              have HLN := hid hlnn
              have HXM : Hid ((nthX s'.X i).length = ln) := by show _ = _; rw [h3.X i hlt', marks_len, hlnn]
              rw [← hlnn] at hln
              obtain ⟨gf, a1, k1, rfl, y1, e1⟩ := h3.bk.freshAt (h3.eq.vf.trans HVF.out) (by rw [h3.eq.F]; exact hlt')
              rw [HXM.out] at y1 e1
              rw [h3.eq.F] at e1
              have HS4 := S4.start h3 hlt'
              rw [e1] at HS4
              have HS4 := hid HS4
              have E1 := hid e1
              have hI : (i : Int) < (nF : Int) := by omega
              clear x1 x2 x3 hlnn HS3 e1
              go_wp2_with fail
              go_loopg [8, 9] 70 (fun g s8 s9 wt => ∃ (k : Nat) (a8 : Option Addr) (n8 k8 : Nat), k ≤ 70 ∧ g = 70 - k ∧ s9 = .int .i64 k ∧ s8 = .slice a8 n8 k8 ∧ Hid (∃ c2, S4 elT mkB T w wt W.heap.size b oo d c c2 s s' i k (.slice a8 n8 k8)))
              case atStart => exact ⟨0, _, _, _, by omega, by omega, rfl, rfl, c', HS4.out⟩
              case round =>
                obtain ⟨k, a8, n8, k8, hk, rfl, rfl, rfl, HK⟩ := hrel
                clear HS4 x0 y1
                obtain ⟨c2, h4⟩ := HK.out
                have HBR : Hid (Below W.heap.size W wr) := HBW.out.trans h4.st.bl
                have x0 := h4.st.bk.c0
                have x1 := h4.st.bk.c1
                have x2 := h4.st.bk.c2
                have x3 := h4.st.bk.c3
                replace x0 : wr.cell? ⟨b, oo, none⟩ = some (.slice (some ⟨gf, 0, none⟩) nF kf) := by rw [x0, h4.st.eq.vf, HVF.out, HNF.out]
                by_cases hlt2 : k < 70
                · obtain ⟨gf2, a2, k2, e2, y1, e3⟩ := h4.st.bk.freshAt (h4.st.eq.vf.trans HVF.out) (by rw [h4.st.eq.F]; exact hlt')
                  obtain rfl : gf = gf2 := congrArg Addr.block (Option.some.inj e2)
                  rw [h4.st.eq.F, E1.out, HXM.out] at e3
                  injection e3 with e4 _ e5
                  subst e4 e5
                  rw [HXM.out] at y1
                  have kw : IntKind.i64.wrap ((fr : Int) + (i : Int)) = ((fr + i : Nat) : Int) := by rw [IntKind.wrap_i64]; omega
                  have kw2 : IntKind.i64.wrap ((ln : Int) + (k : Int)) = ((ln + k : Nat) : Int) := by rw [IntKind.wrap_i64]; omega
                  have HM := hid (HMARK.out wr (fr + i) (ln + k) HBR.out (by omega) (by omega))
                  have HGR : Hid (∀ w2, Below wr.heap.size wr w2 → ∃ a n kk w', (Builtin.append_ #[23, 23] 23 #[.slice a8 n8 k8, .slice (some ⟨w2.heap.size, 0, none⟩) 1 1]).run Tryz.prog (w2.alloc (.cells #[.string (mkB (fr + i) (ln + k))] 9)) = .ok (.slice a n kk) w' ∧ Hid (∃ c2, S4 elT mkB T w w' W.heap.size b oo d c c2 s s' i (k + 1) (.slice a n kk))) := fun w2 hb => by
                    refine h4.grow okT hlt' (wx := w2.alloc (.cells #[.string (mkB (fr + i) (ln + k))] 9)) (q := w2.heap.size) (Below.al hb _) ?_ (by rw [← HLN.out]; omega) HBW.out.size
                    rw [← HFR.out, ← HLN.out]
                    exact World.alloc_heap_new _ _
                  generalize mkB (fr + i) (ln + k) = mm at HM HGR
                  generalize fr + i = fi at kw HM
                  generalize ln + k = lk at kw2 HM
                  clear h4 x1 x2 x3 HK
                  go_wp2_with fail
                  refine HM.out.mono ?_
                  rintro e w2 ⟨rfl, hb2⟩
                  obtain ⟨a9, n9, k9, w3, hr, HS5⟩ := HGR.out w2 hb2
                  have HR := hid hr
                  clear hr HGR hb2
                  go_wp2_with (at_builtin; refine Lib.wpList_append_run _ rfl _ _ _ _ rfl _ _ rfl rfl _ _ HR.out ?_)
                  go_roundg (70 - (k + 1))
                  case measure => omega
                  case rel => exact ⟨k + 1, _, _, _, by omega, rfl, by go_num, rfl, HS5.out⟩
                · obtain rfl : 70 = k := by omega
                  obtain ⟨a9, n9, k9, w3, hr, z1, z2, HS5⟩ := h4.done okT2 hlt' (by have := HFR.out; have := HNF.out; omega) HBW.out.size
                  obtain ⟨al, kl, hvl⟩ := owns_slice h4.st.bk.rl
                  rw [hvl] at x3 hr z1
                  generalize s'.L.length = lL at x3 hr z1
                  have HR := hid hr
                  clear hlt2 hk h4 x1 x2 hr HK hvl
                  go_wp2_with (at_builtin; refine Lib.wpList_append_run _ rfl _ _ _ _ rfl _ _ rfl rfl _ _ HR.out ?_)
                  go_roundg (nF - (i + 1))
                  case measure => omega
                  case rel => exact ⟨i + 1, by omega, rfl, by go_num, HS5.out⟩
            · obtain rfl : nF = i := by omega
              obtain ⟨ls, hls⟩ : ∃ ls : List Nat, ls = (List.range s.F.length).map fun j => (nthX s.X j).length := ⟨_, rfl⟩
              have hll : ls.length = s.F.length := by rw [hls]; simp
              have hnm : ∀ j, j < s.F.length → nthM ls j = (nthX s.X j).length := fun j hj => by rw [hls, nthM]; simp [hj]
              have e1 := h3.eq.F
              have e2 := h3.eq.N
              have e3 := h3.eq.K
              obtain ⟨a9, n9, k9, w3, hr, z0, z1, z2, zf, HD⟩ := h3.bk.done okT2 (ls := ls) (by rw [e1]; exact hll) (by rw [h3.L, e2, e1, HNF.out]) (fun j hj => by rw [e1] at hj; rw [h3.X j hj, e2, hnm j hj]) (fun j hj => by rw [e1] at hj; have := h3.G j (by rw [HNF.out]; exact hj); rw [e2, hnm j hj]; exact this) (by rw [h3.bk.lk, e1, e2]; have := HFR.out; have := HNF.out; omega) (Nat.le_trans HBW.out.size h3.onl.size)
              have HEND : Hid (∃ c' s', Sd elT mkB T W w (((w3.setCell ⟨b, oo + 2, none⟩ (.slice a9 n9 k9)).setCell ⟨b, oo, none⟩ (.slice none 0 0)).setCell ⟨b, oo + 1, none⟩ (.slice none 0 0)) b oo d c c' s s') := by
                obtain ⟨c9, hb9, ho9, hc9, hl9, ho4⟩ := HD.out
                refine ⟨c9, _, hb9, rfl, ?_, ?_, h3.onl.fresh ho9 (fun x hx => ?_), fun x hx hlt4 => ?_, h3.bl.trans hl9, h3.oc.trans ho4, fun hM n hn => ?_⟩
                · show s'.L.length = (s'.N ++ ls).length
                  rw [List.length_append, h3.L, e2, hll, HNF.out]
                · show (s'.N ++ ls).length = _
                  rw [List.length_append, e2, hll]
                · by_cases hx2 : x < w.heap.size
                  · exact .inl (by have := h3.col x hx2; show Mn d (c x); unfold Mn; omega)
                  · exact .inr (by omega)
                · rw [hc9 x (Nat.lt_of_lt_of_le hx h3.onl.size) (by rw [h3.col x hx]; exact hlt4)]; exact h3.col x hx
                · show nthM (s'.N ++ ls) n ≤ _
                  have hn : n < (s'.N ++ ls).length := hn
                  rw [List.length_append, hll, e2] at hn
                  rw [nthM_two, e2]
                  by_cases hn2 : n < s.N.length
                  · rw [if_pos hn2]; exact hM n hn2
                  · rw [if_neg hn2, hnm _ (by omega)]; exact HX.out _ (by omega)
              rw [h3.eq.vk, h3.eq.vf, HVK.out, HVF.out] at hr
              rw [h3.eq.vf, HVF.out] at z0
              rw [h3.eq.vk, HVK.out] at z2 x2
              obtain ⟨av, kv, hvv⟩ := owns_slice h3.bk.rw_
              rw [hvv] at z1
              have zf0 := zf oo
              have zf1 := zf (oo + 1)
              have zf2 := zf (oo + 2)
              rw [← HNF.out] at hr z0
              generalize s.K.length = kl at hr z2 x2
              have HR := hid hr
              clear hlt hi h3 HD hls hll hnm e1 e2 e3 hr x1 x3 hvv zf
              go_wp2_with fail
              go_region_law (refine step_append_runB rfl (.tmp 126) (.tmp 130) 33 33 rfl (.slice ak kl kk) (.slice af nF kf) (by simp [Act.eval]) (by simp [Act.eval]) HR.out ?_)
              all_goals (try go_wp2_with fail)
              all_goals go_ret
              all_goals exact ⟨rfl, HEND.out⟩
end Go.Proofs.YthenfioddnkjbaaGreatDoor.Bg
/- whole. -/
namespace Go.Proofs.YthenfioddnkjbaaGreatDoor.Bg
open Go.RowKit Go.Sort Go.Proofs.YthenfioddnkjbaaGreatDoor Go.Proofs.YthenfioddnkjbaaGreatDoor.Rt
set_option linter.unusedVariables false

set_option maxRecDepth 16000 in
set_option maxHeartbeats 16000000 in
/-- the lists as they are held against what must stand in them -/
theorem wholeT_tail {T : TypeId} {W w : World} {b oo d m : Nat} {c : Nat → Nat} {s : Bv (ByteArray)} (hP : PowTab W) (h : Bq elT mkB T W w b oo d c s m) (hbW : Below W.heap.size W w) (hm : m ≤ 1073741824) (h4 : s.F.length ≤ 4) :
    Calls Tryz.prog 44 #[.pointer (some ⟨b, oo, none⟩)] w fun e w' => e = .returned (.bool true) ∧ Hid (Below w.heap.size w w') := by
  obtain ⟨af, kf, hvf⟩ := owns_slice h.bk.rf
  obtain ⟨aw, kw, hvw⟩ := owns_slice h.bk.rw_
  obtain ⟨ak, kk, hvk⟩ := owns_slice h.bk.rk
  obtain ⟨al, kl, hvl⟩ := owns_slice h.bk.rl
  have x0 := h.bk.c0
  have x1 := h.bk.c1
  have x2 := h.bk.c2
  have x3 := h.bk.c3
  rw [hvf] at x0
  rw [hvw, h.bk.lz] at x1
  rw [hvk, h.bk.lk] at x2
  rw [hvl, h.L] at x3
  have hcf := h.bk.rf
  rw [hvf] at hcf
  have hcap := (OwnL.cap hcf).2
  obtain ⟨nF, hnF⟩ : ∃ nF, nF = s.F.length := ⟨_, rfl⟩
  obtain ⟨fr, hfr⟩ : ∃ fr, fr = s.N.length := ⟨_, rfl⟩
  have HVF := hid hvf
  have HVW := hid hvw
  have HVK := hid hvk
  have HVL := hid hvl
  have HNF := hid hnF
  have HFR := hid hfr
  have HB := hid h.bk
  have HBW := hid hbW
  have HXY := hid h.XY
  have HX := hid h.x
  have HMM := hid h.M
  have hle := h.le
  rw [← hnF, ← hfr] at hle
  rw [← hnF] at x0 x1 hcap h4
  rw [← hfr] at x2 x3
  have HMARK : Hid (∀ (wr : World) (i j : Nat), Below W.heap.size W wr → i ≤ 4611686018427387904 → j ≤ 4611686018427387904 → Calls Tryz.prog 64 #[.int .i64 (i : Int), .int .i64 (j : Int)] wr fun e w' => e = .returned (.string (mkB i j)) ∧ Below wr.heap.size wr w') := fun wr i j hb h2 h4 => markTB_is i j h2 h4 wr (hP.later hb)
  clear hP h hbW hvf hvw hvk hvl hcf hnF hfr
  have k4 : decide ((4 : Int) < (nF : Int)) = false := by simp; omega
  go_enter Tryz.func44, Tryz.ntmps44
  go_wp2_with fail
  go_loopg [3] nF (fun g s3 wr => ∃ i : Nat, i ≤ nF ∧ g = nF - i ∧ s3 = .int .i64 i ∧ Hid (Below w.heap.size w wr))
  case atStart => exact ⟨0, by omega, by omega, rfl, Below.refl _ _⟩
  case round =>
    obtain ⟨i, hi, rfl, rfl, HBR⟩ := hrel
    replace x0 := cell_later HBR.out x0
    replace x1 := cell_later HBR.out x1
    replace x2 := cell_later HBR.out x2
    replace x3 := cell_later HBR.out x3
    by_cases hlt : i < nF
    · have hlt' : i < s.F.length := by rw [← HNF.out]; exact hlt
      obtain ⟨gf, a1, k1, rfl, y1, e1⟩ := (HB.out.after HBR.out).freshAt HVF.out hlt'
      obtain ⟨gw, a2, k2, rfl, y2, e2⟩ := (HB.out.after HBR.out).wasAt HVW.out hlt'
      have hrd1 := (HB.out.fr i hlt').1.rd.later HBR.out
      have hrd2 := (HB.out.wa i hlt').rd.later HBR.out
      rw [HXY.out i hlt'] at hrd2 y2 e2
      rw [e1] at hrd1
      rw [e2] at hrd2
      have hln := HX.out i hlt'
      have SM : Hid (∀ ws, Below wr.heap.size wr ws → Calls Tryz.prog 63 #[.slice a1 (nthX s.X i).length k1, .slice a2 (nthX s.X i).length k2] ws fun e w'' => e = .returned (.bool true) ∧ Below ws.heap.size ws w'') := fun ws hb => sameT_at (hrd1.later hb) (hrd2.later hb) hln
      generalize (nthX s.X i).length = ln at y1 y2 SM
      have hI : (i : Int) < (nF : Int) := by omega
      clear e1 e2 hrd1 hrd2 hln
      go_wp2_with fail
      have r0 := cell_regrown x0
      have r1 := cell_regrown x1
      have r2 := cell_regrown y1
      have r3 := cell_regrown y2
      refine wp_region_quiet_below (by kernel_rfl) (by kernel_rfl) ?_
      repeat (go_big_quiet_step (((go_at_call 63; exact Calls.regrown_of (SM.out _ (below_of_regrown ⟨⟨_, _⟩, rfl⟩))))))
      refine wpQuiet_nil ?_
      intro wn hwn
      replace hwn := below_of_regrown hwn
      go_wp2_with fail
      go_roundg (nF - (i + 1))
      case measure => omega
      case rel => exact ⟨i + 1, by omega, rfl, by go_num, Below.on HBR.out hwn⟩
    · obtain rfl : nF = i := by omega
      clear hlt hi
      go_wp2_with fail
      go_loopg [4] fr (fun g s4 ws => ∃ n : Nat, n ≤ fr ∧ g = fr - n ∧ s4 = .int .i64 n ∧ Hid (Below w.heap.size w ws))
      case atStart => exact ⟨0, by omega, by omega, rfl, HBR.out⟩
      case round =>
        obtain ⟨n, hn, rfl, rfl, HBS⟩ := hrel
        clear HBR x0 x1 x2 x3
        have x0 := (HB.out.after HBS.out).c0
        have x1 := (HB.out.after HBS.out).c1
        have x2 := (HB.out.after HBS.out).c2
        have x3 := (HB.out.after HBS.out).c3
        replace x2 : wr.cell? ⟨b, oo + 2, none⟩ = some (.slice ak fr kk) := by rw [x2, HVK.out, HB.out.lk, HFR.out]
        by_cases hlt : n < fr
        · have hlt' : n < s.N.length := by rw [← HFR.out]; exact hlt
          obtain ⟨gl, a3, k3, rfl, y3, _⟩ := (HB.out.after HBS.out).longAt okT HVL.out hlt'
          have hMn := HMM.out n hlt'
          obtain ⟨mn, hmn⟩ : ∃ mn, mn = nthM s.N n := ⟨_, rfl⟩
          have HMN := hid hmn
          rw [← hmn] at y3 hMn
          replace x3 : wr.cell? ⟨b, oo + 3, none⟩ = some (.slice (some ⟨gl, 0, none⟩) s.L.length kl) := by rw [x3, HVL.out]
          have hLL : n < s.L.length := Nat.lt_of_lt_of_le hlt' HB.out.ll
          have HLL := hid hLL
          generalize hql : s.L.length = lL at x3 hLL
          have HQL := hid hql
          have hN1 : (n : Int) < (fr : Int) := by omega
          have hN2 : (n : Int) < (lL : Int) := by omega
          clear x0 x1 hmn hql
          go_wp2_with fail
          go_loopg [5] (mn + 70) (fun g s5 wt => ∃ i : Nat, i ≤ mn + 70 ∧ g = mn + 70 - i ∧ s5 = .int .i64 i ∧ Hid (Below w.heap.size w wt))
          case atStart => exact ⟨0, by omega, by omega, rfl, HBS.out⟩
          case round =>
            obtain ⟨i, hi, rfl, rfl, HBT⟩ := hrel
            clear HBS x2 x3 y3
            have x0 := (HB.out.after HBT.out).c0
            have x1 := (HB.out.after HBT.out).c1
            have x2 := (HB.out.after HBT.out).c2
            have x3 := (HB.out.after HBT.out).c3
            replace x2 : wr.cell? ⟨b, oo + 2, none⟩ = some (.slice ak fr kk) := by rw [x2, HVK.out, HB.out.lk, HFR.out]
            replace x3 : wr.cell? ⟨b, oo + 3, none⟩ = some (.slice (some ⟨gl, 0, none⟩) lL kl) := by rw [x3, HVL.out, HQL.out]
            obtain ⟨gl2, a4, k4', e4, y4, hc4⟩ := (HB.out.after HBT.out).longAt okT HVL.out hlt'
            obtain rfl : gl = gl2 := congrArg Addr.block (Option.some.inj e4)
            obtain ⟨gk, a5, k5, rfl, y5, hc5⟩ := (HB.out.after HBT.out).keptAt okT HVK.out hlt'
            rw [← HMN.out] at y4 y5 hc4 hc5
            clear x0 x1
            by_cases hlt2 : i < mn + 70
            · obtain ⟨g1, o1, rfl, z1⟩ := hc4 i hlt2
              have HM : Hid (∀ ws, Below wr.heap.size wr ws → Calls Tryz.prog 64 #[.int .i64 (n : Int), .int .i64 (i : Int)] ws fun e w' => e = .returned (.string (mkB n i)) ∧ Below ws.heap.size ws w') := fun ws hb => HMARK.out ws n i (Below.on (HBW.out.trans (HBT.out.mono HBW.out.size)) hb) (by omega) (by omega)
              have hI2 : (i : Int) < (mn : Int) + 70 := by omega
              by_cases hin : i < mn
              · obtain ⟨g2, o2, rfl, z2⟩ := hc5 i hin
                have z10 : wr.cell? ⟨g1, o1 + i, none⟩ = some (.string (mkB n i)) := (by have := z1 0 _ rfl; simpa using this)
                have z20 : wr.cell? ⟨g2, o2 + i, none⟩ = some (.string (mkB n i)) := (by have := z2 0 _ rfl; simpa using this)
                clear z1 z2
                generalize mkB n i = mm at z10 z20 HM
                have d1 : decide ((i : Int) < (mn : Int)) = true := by simpa using hin
                have d2 : (i : Int) < (mn : Int) := by omega
                have r2 := cell_regrown x2
                have r3 := cell_regrown x3
                have r4 := cell_regrown y4
                have r5 := cell_regrown y5
                have r10 := cell_regrown z10
                have r20 := cell_regrown z20
                clear hc4 hc5
                go_wp2_with fail
                refine wp_region_quiet_below (by kernel_rfl) (by kernel_rfl) ?_
                repeat (go_big_quiet_step (((go_at_call 64; exact Calls.regrown_of (HM.out _ (below_of_regrown ⟨⟨_, _⟩, rfl⟩))))))
                refine wpQuiet_nil ?_
                intro wn hwn
                replace hwn := below_of_regrown hwn
                go_wp2_with fail
                go_roundg (mn + 70 - (i + 1))
                case measure => omega
                case rel => exact ⟨i + 1, by omega, rfl, by go_num, Below.on HBT.out hwn⟩
              · have _u := 0
                have z10 : wr.cell? ⟨g1, o1 + i, none⟩ = some (.string (mkB n i)) := (by have := z1 0 _ rfl; simpa using this)
                clear z1
                generalize mkB n i = mm at z10 HM
                have d1 : decide ((i : Int) < (mn : Int)) = false := by simpa using hin
                have d2 : ((i : Int) < (mn : Int)) = False := eq_false (by omega)
                have r2 := cell_regrown x2
                have r3 := cell_regrown x3
                have r4 := cell_regrown y4
                have r5 := cell_regrown y5
                have r10 := cell_regrown z10
                clear hc4 hc5
                go_wp2_with fail
                refine wp_region_quiet_below (by kernel_rfl) (by kernel_rfl) ?_
                repeat (go_big_quiet_step (((go_at_call 64; exact Calls.regrown_of (HM.out _ (below_of_regrown ⟨⟨_, _⟩, rfl⟩))))))
                refine wpQuiet_nil ?_
                intro wn hwn
                replace hwn := below_of_regrown hwn
                go_wp2_with fail
                go_roundg (mn + 70 - (i + 1))
                case measure => omega
                case rel => exact ⟨i + 1, by omega, rfl, by go_num, Below.on HBT.out hwn⟩
            · obtain rfl : i = mn + 70 := by omega
              have q3 : ((mn + 70 : Nat) : Int) = (mn : Int) + 70 := by omega
              clear hlt2 hi hc4 hc5
              go_wp2_with fail
              go_roundg (fr - (n + 1))
              case measure => omega
              case rel => exact ⟨n + 1, by omega, rfl, by go_num, HBT.out⟩
        · obtain rfl : fr = n := by omega
          clear hlt hn x0 x1 x3
          go_wp2_with fail
          go_ret
          exact ⟨rfl, HBS.out⟩
end Go.Proofs.YthenfioddnkjbaaGreatDoor.Bg
/- whole, where the lists are settled first. -/
namespace Go.Proofs.YthenfioddnkjbaaGreatDoor.Bg
open Go.RowKit Go.Sort Go.Proofs.YthenfioddnkjbaaGreatDoor Go.Proofs.YthenfioddnkjbaaGreatDoor.Rt
set_option linter.unusedVariables false

theorem settleT_of {T : TypeId} {W w : World} {b oo d m : Nat} {c : Nat → Nat} {s : Bv (ByteArray)} (hP : PowTab W) (h : Bq elT mkB T W w b oo d c s m) (hbW : Below W.heap.size W w) (hm : m ≤ 1073741824) :
    Calls Tryz.prog 48 #[.pointer (some ⟨b, oo, none⟩)] w fun e w' => e = .returned (.bool true) ∧ Hid (∃ c' s', Wd elT mkB T W w w' b oo d c c' s s' m) := by
  have hle := h.le
  refine (settleT_is hP h.bk hbW h.L h.XY h.x (by omega) (by omega)).mono ?_
  rintro e w' ⟨rfl, c', s', h1⟩
  exact ⟨rfl, c', s', h1.wd h⟩
set_option maxRecDepth 16000 in
set_option maxHeartbeats 16000000 in
theorem wholeT_many {T : TypeId} {W w : World} {b oo d m : Nat} {c : Nat → Nat} {s : Bv (ByteArray)} (hP : PowTab W) (h : Bq elT mkB T W w b oo d c s m) (hbW : Below W.heap.size W w) (hm : m ≤ 1073741824) (h4 : 4 < s.F.length) :
    Calls Tryz.prog 44 #[.pointer (some ⟨b, oo, none⟩)] w fun e w' => e = .returned (.bool true) ∧ Hid (∃ c' s', Wd elT mkB T W w w' b oo d c c' s s' m) := by
  have HSET := hid (settleT_of hP h hbW hm)
  have HPP := hid hP
  have HBW0 := hid hbW.size
  have HBWW := hid hbW
  have x0 := h.bk.c0
  obtain ⟨af, kf, hvf⟩ := owns_slice h.bk.rf
  rw [hvf] at x0
  obtain ⟨nF0, hnF0⟩ : ∃ nF0, nF0 = s.F.length := ⟨_, rfl⟩
  rw [← hnF0] at x0 h4
  have k4 : decide ((4 : Int) < (nF0 : Int)) = true := by simp; omega
  have k4' : (4 : Int) < (nF0 : Int) := by omega
  clear hP h hbW hvf hnF0
  go_enter Tryz.func44, Tryz.ntmps44
  go_wp2_with fail
  refine HSET.out.mono ?_
  rintro e w1 ⟨rfl, hwd⟩
  obtain ⟨c1, s1, hwd⟩ := hwd
  have HWD := hid hwd
  have h1 := hwd.bq
  have hbW1 : Below W.heap.size W w1 := HBWW.out.trans hwd.bl
  clear hwd HSET x0 k4 k4'
  obtain ⟨af, kf, hvf⟩ := owns_slice h1.bk.rf
  obtain ⟨aw, kw, hvw⟩ := owns_slice h1.bk.rw_
  obtain ⟨ak, kk, hvk⟩ := owns_slice h1.bk.rk
  obtain ⟨al, kl, hvl⟩ := owns_slice h1.bk.rl
  have x0 := h1.bk.c0
  have x1 := h1.bk.c1
  have x2 := h1.bk.c2
  have x3 := h1.bk.c3
  rw [hvf] at x0
  rw [hvw, h1.bk.lz] at x1
  rw [hvk, h1.bk.lk] at x2
  rw [hvl, h1.L] at x3
  have hcf := h1.bk.rf
  rw [hvf] at hcf
  have hcap := (OwnL.cap hcf).2
  obtain ⟨nF, hnF⟩ : ∃ nF, nF = s1.F.length := ⟨_, rfl⟩
  obtain ⟨fr, hfr⟩ : ∃ fr, fr = s1.N.length := ⟨_, rfl⟩
  have HVF := hid hvf
  have HVW := hid hvw
  have HVK := hid hvk
  have HVL := hid hvl
  have HNF := hid hnF
  have HFR := hid hfr
  have HB := hid h1.bk
  have HBW := hid hbW1
  have HXY := hid h1.XY
  have HX := hid h1.x
  have HMM := hid h1.M
  have hle   := h1.le
  rw [← hnF, ← hfr] at hle
  rw [← hnF] at x0 x1 hcap
  rw [← hfr] at x2 x3
  have HMARK : Hid (∀ (wr : World) (i j : Nat), Below W.heap.size W wr → i ≤ 4611686018427387904 → j ≤ 4611686018427387904 → Calls Tryz.prog 64 #[.int .i64 (i : Int), .int .i64 (j : Int)] wr fun e w' => e = .returned (.string (mkB i j)) ∧ Below wr.heap.size wr w') := fun wr i j hb h2 h4 => markTB_is i j h2 h4 wr (HPP.out.later hb)
  clear h1 hbW1 hvf hvw hvk hvl hcf hnF hfr
  go_wp2_with fail
  go_loopg [3] nF (fun g s3 wr => ∃ i : Nat, i ≤ nF ∧ g = nF - i ∧ s3 = .int .i64 i ∧ Hid (Below w1.heap.size w1 wr))
  case atStart => exact ⟨0, by omega, by omega, rfl, Below.refl _ _⟩
  case round =>
    obtain ⟨i, hi, rfl, rfl, HBR⟩ := hrel
    replace x0 := cell_later HBR.out x0
    replace x1 := cell_later HBR.out x1
    replace x2 := cell_later HBR.out x2
    replace x3 := cell_later HBR.out x3
    by_cases hlt : i < nF
    · have hlt' : i < s1.F.length := by rw [← HNF.out]; exact hlt
      obtain ⟨gf, a1, k1, rfl, y1, e1⟩ := (HB.out.after HBR.out).freshAt HVF.out hlt'
      obtain ⟨gw, a2, k2, rfl, y2, e2⟩ := (HB.out.after HBR.out).wasAt HVW.out hlt'
      have hrd1 := (HB.out.fr i hlt').1.rd.later HBR.out
      have hrd2 := (HB.out.wa i hlt').rd.later HBR.out
      rw [HXY.out i hlt'] at hrd2 y2 e2
      rw [e1] at hrd1
      rw [e2] at hrd2
      have hln := HX.out i hlt'
      have SM : Hid (∀ ws, Below wr.heap.size wr ws → Calls Tryz.prog 63 #[.slice a1 (nthX s1.X i).length k1, .slice a2 (nthX s1.X i).length k2] ws fun e w'' => e = .returned (.bool true) ∧ Below ws.heap.size ws w'') := fun ws hb => sameT_at (hrd1.later hb) (hrd2.later hb) hln
      generalize (nthX s1.X i).length = ln at y1 y2 SM
      have hI : (i : Int) < (nF : Int) := by omega
      clear e1 e2 hrd1 hrd2 hln
      go_wp2_with fail
      have r0 := cell_regrown x0
      have r1 := cell_regrown x1
      have r2 := cell_regrown y1
      have r3 := cell_regrown y2
      refine wp_region_quiet_below (by kernel_rfl) (by kernel_rfl) ?_
      repeat (go_big_quiet_step (((go_at_call 63; exact Calls.regrown_of (SM.out _ (below_of_regrown ⟨⟨_, _⟩, rfl⟩))))))
      refine wpQuiet_nil ?_
      intro wn hwn
      replace hwn := below_of_regrown hwn
      go_wp2_with fail
      go_roundg (nF - (i + 1))
      case measure => omega
      case rel => exact ⟨i + 1, by omega, rfl, by go_num, Below.on HBR.out hwn⟩
    · obtain rfl : nF = i := by omega
      clear hlt hi
      go_wp2_with fail
      go_loopg [4] fr (fun g s4 ws => ∃ n : Nat, n ≤ fr ∧ g = fr - n ∧ s4 = .int .i64 n ∧ Hid (Below w1.heap.size w1 ws))
      case atStart => exact ⟨0, by omega, by omega, rfl, HBR.out⟩
      case round =>
        obtain ⟨n, hn, rfl, rfl, HBS⟩ := hrel
        clear HBR x0 x1 x2 x3
        have x0 := (HB.out.after HBS.out).c0
        have x1 := (HB.out.after HBS.out).c1
        have x2 := (HB.out.after HBS.out).c2
        have x3 := (HB.out.after HBS.out).c3
        replace x2 : wr.cell? ⟨b, oo + 2, none⟩ = some (.slice ak fr kk) := by rw [x2, HVK.out, HB.out.lk, HFR.out]
        by_cases hlt : n < fr
        · have hlt' : n < s1.N.length := by rw [← HFR.out]; exact hlt
          obtain ⟨gl, a3, k3, rfl, y3, _⟩ := (HB.out.after HBS.out).longAt okT HVL.out hlt'
          have hMn := HMM.out n hlt'
          obtain ⟨mn, hmn⟩ : ∃ mn, mn = nthM s1.N n := ⟨_, rfl⟩
          have HMN := hid hmn
          rw [← hmn] at y3 hMn
          replace x3 : wr.cell? ⟨b, oo + 3, none⟩ = some (.slice (some ⟨gl, 0, none⟩) s1.L.length kl) := by rw [x3, HVL.out]
          have hLL : n < s1.L.length := Nat.lt_of_lt_of_le hlt' HB.out.ll
          have HLL := hid hLL
          generalize hql : s1.L.length = lL at x3 hLL
          have HQL := hid hql
          have hN1 : (n : Int) < (fr : Int) := by omega
          have hN2 : (n : Int) < (lL : Int) := by omega
          clear x0 x1 hmn hql
          go_wp2_with fail
          go_loopg [5] (mn + 70) (fun g s5 wt => ∃ i : Nat, i ≤ mn + 70 ∧ g = mn + 70 - i ∧ s5 = .int .i64 i ∧ Hid (Below w1.heap.size w1 wt))
          case atStart => exact ⟨0, by omega, by omega, rfl, HBS.out⟩
          case round =>
            obtain ⟨i, hi, rfl, rfl, HBT⟩ := hrel
            clear HBS x2 x3 y3
            have x0 := (HB.out.after HBT.out).c0
            have x1 := (HB.out.after HBT.out).c1
            have x2 := (HB.out.after HBT.out).c2
            have x3 := (HB.out.after HBT.out).c3
            replace x2 : wr.cell? ⟨b, oo + 2, none⟩ = some (.slice ak fr kk) := by rw [x2, HVK.out, HB.out.lk, HFR.out]
            replace x3 : wr.cell? ⟨b, oo + 3, none⟩ = some (.slice (some ⟨gl, 0, none⟩) lL kl) := by rw [x3, HVL.out, HQL.out]
            obtain ⟨gl2, a4, k4', e4, y4, hc4⟩ := (HB.out.after HBT.out).longAt okT HVL.out hlt'
            obtain rfl : gl = gl2 := congrArg Addr.block (Option.some.inj e4)
            obtain ⟨gk, a5, k5, rfl, y5, hc5⟩ := (HB.out.after HBT.out).keptAt okT HVK.out hlt'
            rw [← HMN.out] at y4 y5 hc4 hc5
            clear x0 x1
            by_cases hlt2 : i < mn + 70
            · obtain ⟨g1, o1, rfl, z1⟩ := hc4 i hlt2
              have HM : Hid (∀ ws, Below wr.heap.size wr ws → Calls Tryz.prog 64 #[.int .i64 (n : Int), .int .i64 (i : Int)] ws fun e w' => e = .returned (.string (mkB n i)) ∧ Below ws.heap.size ws w') := fun ws hb => HMARK.out ws n i (Below.on (HBW.out.trans (HBT.out.mono HBW.out.size)) hb) (by omega) (by omega)
              have hI2 : (i : Int) < (mn : Int) + 70 := by omega
              by_cases hin : i < mn
              · obtain ⟨g2, o2, rfl, z2⟩ := hc5 i hin
                have z10 : wr.cell? ⟨g1, o1 + i, none⟩ = some (.string (mkB n i)) := (by have := z1 0 _ rfl; simpa using this)
                have z20 : wr.cell? ⟨g2, o2 + i, none⟩ = some (.string (mkB n i)) := (by have := z2 0 _ rfl; simpa using this)
                clear z1 z2
                generalize mkB n i = mm at z10 z20 HM
                have d1 : decide ((i : Int) < (mn : Int)) = true := by simpa using hin
                have d2 : (i : Int) < (mn : Int) := by omega
                have r2 := cell_regrown x2
                have r3 := cell_regrown x3
                have r4 := cell_regrown y4
                have r5 := cell_regrown y5
                have r10 := cell_regrown z10
                have r20 := cell_regrown z20
                clear hc4 hc5
                go_wp2_with fail
                refine wp_region_quiet_below (by kernel_rfl) (by kernel_rfl) ?_
                repeat (go_big_quiet_step (((go_at_call 64; exact Calls.regrown_of (HM.out _ (below_of_regrown ⟨⟨_, _⟩, rfl⟩))))))
                refine wpQuiet_nil ?_
                intro wn hwn
                replace hwn := below_of_regrown hwn
                go_wp2_with fail
                go_roundg (mn + 70 - (i + 1))
                case measure => omega
                case rel => exact ⟨i + 1, by omega, rfl, by go_num, Below.on HBT.out hwn⟩
              · have _u := 0
                have z10 : wr.cell? ⟨g1, o1 + i, none⟩ = some (.string (mkB n i)) := (by have := z1 0 _ rfl; simpa using this)
                clear z1
                generalize mkB n i = mm at z10 HM
                have d1 : decide ((i : Int) < (mn : Int)) = false := by simpa using hin
                have d2 : ((i : Int) < (mn : Int)) = False := eq_false (by omega)
                have r2 := cell_regrown x2
                have r3 := cell_regrown x3
                have r4 := cell_regrown y4
                have r5 := cell_regrown y5
                have r10 := cell_regrown z10
                clear hc4 hc5
                go_wp2_with fail
                refine wp_region_quiet_below (by kernel_rfl) (by kernel_rfl) ?_
                repeat (go_big_quiet_step (((go_at_call 64; exact Calls.regrown_of (HM.out _ (below_of_regrown ⟨⟨_, _⟩, rfl⟩))))))
                refine wpQuiet_nil ?_
                intro wn hwn
                replace hwn := below_of_regrown hwn
                go_wp2_with fail
                go_roundg (mn + 70 - (i + 1))
                case measure => omega
                case rel => exact ⟨i + 1, by omega, rfl, by go_num, Below.on HBT.out hwn⟩
            · obtain rfl : i = mn + 70 := by omega
              have q3 : ((mn + 70 : Nat) : Int) = (mn : Int) + 70 := by omega
              clear hlt2 hi hc4 hc5
              go_wp2_with fail
              go_roundg (fr - (n + 1))
              case measure => omega
              case rel => exact ⟨n + 1, by omega, rfl, by go_num, HBT.out⟩
        · obtain rfl : fr = n := by omega
          clear hlt hn x0 x1 x3
          go_wp2_with fail
          go_ret
          exact ⟨rfl, c1, s1, HWD.out.after HBS.out HBW0.out⟩
theorem wholeT_is {T : TypeId} {W w : World} {b oo d m : Nat} {c : Nat → Nat} {s : Bv (ByteArray)} (hP : PowTab W) (h : Bq elT mkB T W w b oo d c s m) (hbW : Below W.heap.size W w) (hm : m ≤ 1073741824) :
    Calls Tryz.prog 44 #[.pointer (some ⟨b, oo, none⟩)] w fun e w' => e = .returned (.bool true) ∧ Hid (∃ c' s', Wd elT mkB T W w w' b oo d c c' s s' m) := by
  by_cases h4 : s.F.length ≤ 4
  · refine (wholeT_tail hP h hbW hm h4).mono ?_
    rintro e w' ⟨rfl, hb⟩
    exact ⟨rfl, c, s, h.still hb.out hbW.size⟩
  · exact wholeT_many hP h hbW hm (by omega)
end Go.Proofs.YthenfioddnkjbaaGreatDoor.Bg
