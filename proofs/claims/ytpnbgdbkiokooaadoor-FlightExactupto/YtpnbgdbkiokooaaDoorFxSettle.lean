import Derived.Test.YtpnbgdbkiokooaaDoorFxStage
/- settle. -/
namespace Go.Proofs.YtpnbgdbkiokooaaDoor.Fl
open Go.RowKit Go.Sort Go.Proofs.YtpnbgdbkiokooaaDoor
set_option linter.unusedVariables false

/-- what settle leaves -/
structure Sd (W w w' : World) (b : Nat) (c c' : Nat → Nat) (s s' : Bv) : Prop where
  bk : Bk w' W.heap.size b c' s'
  F : s'.F = []
  L : s'.L.length = s'.N.length
  N : s'.N.length = s.N.length + s.F.length
  onl : Onl (fun k => 4 ≤ c k) w w'
  col : ∀ k, k < w.heap.size → c k < 4 → c' k = c k
  bl : Below W.heap.size w w'
  M : (∀ n, n < s.N.length → nthM s.N n ≤ 1073741824) → ∀ n, n < s'.N.length → nthM s'.N n ≤ 1073741824
/-- what can be read off the book -/
theorem Bk.reads {w : World} {B b : Nat} {c : Nat → Nat} {s : Bv} (h : Bk w B b c s) : w.cell? ⟨b, 0, none⟩ = some s.vf ∧ w.cell? ⟨b, 1, none⟩ = some s.vw ∧ w.cell? ⟨b, 2, none⟩ = some s.vk ∧ w.cell? ⟨b, 3, none⟩ = some s.vl := ⟨cell_obj h.blk rfl, cell_obj h.blk rfl, cell_obj h.blk rfl, cell_obj h.blk rfl⟩
theorem Bk.freshAt {w : World} {B b n k : Nat} {c : Nat → Nat} {s : Bv} {a : Option Addr} (h : Bk w B b c s) (hv : s.vf = .slice a n k) {i : Nat} (hi : i < s.F.length) : ∃ g a1 k1, a = some ⟨g, 0, none⟩ ∧ w.cell? ⟨g, i, none⟩ = some (.slice a1 (nthX s.X i).length k1) ∧ nthV s.F i = .slice a1 (nthX s.X i).length k1 := by
  have h1 := h.rf
  rw [hv] at h1
  obtain ⟨g, e, hc⟩ := h1.at hi
  obtain ⟨a1, k1, e1, _⟩ := (h.fr i hi).1.slice
  exact ⟨g, a1, k1, e, by rw [hc, e1], e1⟩
theorem Bk.wasAt {w : World} {B b n k : Nat} {c : Nat → Nat} {s : Bv} {a : Option Addr} (h : Bk w B b c s) (hv : s.vw = .slice a n k) {i : Nat} (hi : i < s.F.length) : ∃ g a1 k1, a = some ⟨g, 0, none⟩ ∧ w.cell? ⟨g, i, none⟩ = some (.slice a1 (nthX s.Y i).length k1) ∧ nthV s.Z i = .slice a1 (nthX s.Y i).length k1 := by
  have h1 := h.rw_
  rw [hv] at h1
  obtain ⟨g, e, hc⟩ := h1.at (by rw [h.lz]; exact hi)
  obtain ⟨a1, k1, e1, _⟩ := h.wa i hi
  exact ⟨g, a1, k1, e, by rw [hc, e1], e1⟩

set_option maxRecDepth 16000 in
set_option maxHeartbeats 16000000 in
theorem settle_is {W w : World} {b : Nat} {c : Nat → Nat} {s : Bv} (hP : PowTab W) (h : Bk w W.heap.size b c s) (hbW : Below W.heap.size W w) (hL : s.L.length = s.N.length) (hXY : ∀ i, i < s.F.length → nthX s.Y i = nthX s.X i) (hx : ∀ i, i < s.F.length → (nthX s.X i).length ≤ 1073741824) (hF : s.F.length ≤ 1073741824) (hN : s.N.length ≤ 1073741824) :
    Calls Tryd.prog 16 #[pt b] w fun e w' => e = .returned (.bool true) ∧ Hid (∃ c' s', Sd W w w' b c c' s s') := by
  obtain ⟨af, kf, hvf⟩ := owns_slice h.rf
  obtain ⟨aw, kw, hvw⟩ := owns_slice h.rw_
  obtain ⟨ak, kk, hvk⟩ := owns_slice h.rk
  obtain ⟨x0, x1, x2, x3⟩ := h.reads
  rw [hvf] at x0
  rw [hvw, h.lz] at x1
  rw [hvk, h.lk] at x2
  have hcf := h.rf
  rw [hvf] at hcf
  have hcap := hcf.cap.2
  obtain ⟨nF, hnF⟩ : ∃ nF, nF = s.F.length := ⟨_, rfl⟩
  obtain ⟨fr, hfr⟩ : ∃ fr, fr = s.N.length := ⟨_, rfl⟩
  have HVF := hid hvf
  have HVW := hid hvw
  have HVK := hid hvk
  have HNF := hid hnF
  have HFR := hid hfr
  have HB := hid h
  have HBW := hid hbW
  have HL := hid hL
  have HXY := hid hXY
  have HX := hid hx
  rw [← hnF] at x0 x1 hcap hF
  rw [← hfr] at x2 hN
  have HMARK : Hid (∀ (wr : World) (i j : Nat), Below W.heap.size W wr → i ≤ 4611686018427387904 → j ≤ 4611686018427387904 → Calls Tryd.prog 17 #[.int .i64 (i : Int), .int .i64 (j : Int)] wr fun e w' => e = .returned (.string (markB i j)) ∧ Below wr.heap.size wr w') := fun wr i j hb h2 h4 => mark_is ⟨by omega, by omega⟩ ⟨by omega, by omega⟩ wr (hP.later hb)
  clear hP h hbW hL hXY hx hvf hvw hvk hcf hnF hfr x3
  go_enter Tryd.func16, Tryd.ntmps16
  go_wp2_with fail
  go_loopg [4] nF (fun g s4 wr => ∃ i : Nat, i ≤ nF ∧ g = nF - i ∧ s4 = .int .i64 i ∧ Hid (Below w.heap.size w wr))
  case atStart => exact ⟨0, by omega, by omega, rfl, Below.refl _ _⟩
  case round =>
    obtain ⟨i, hi, rfl, rfl, HBR⟩ := hrel
    replace x0 := cell_later HBR.out x0
    replace x1 := cell_later HBR.out x1
    replace x2 := cell_later HBR.out x2
    by_cases hlt : i < nF
    · have hlt' : i < s.F.length := by rw [← HNF.out]; exact hlt
      obtain ⟨gf, a1, k1, rfl, y1, e1⟩ := (HB.out.after HBR.out).freshAt HVF.out hlt'
      obtain ⟨gw, a2, k2, rfl, y2, e2⟩ := (HB.out.after HBR.out).wasAt HVW.out hlt'
      have hrd1 := (HB.out.fr i hlt').1.rd.later HBR.out
      have hrd2 := (HB.out.wa i hlt').rd.later HBR.out
      rw [HXY.out i hlt'] at hrd2 y2 e2
      rw [e1] at hrd1
      rw [e2] at hrd2
      have hln := HX.out i hlt'
      have SM : Hid (∀ n, Calls Tryd.prog 31 #[.slice a1 (nthX s.X i).length k1, .slice a2 (nthX s.X i).length k2] (wr.drewN n) fun e w'' => e = .returned (.bool true) ∧ ∃ m, w'' = wr.drewN m) := fun n => by
        refine (same_at (w := wr.drewN n) (hrd1.later (Below.drewN (Below.refl _ _) _)) (hrd2.later (Below.drewN (Below.refl _ _) _)) (by omega)).mono ?_
        rintro e w'' ⟨rfl, m, rfl⟩
        exact ⟨rfl, n + m, World.drewN_drewN _ _ _⟩
      generalize (nthX s.X i).length = ln at y1 y2 SM
      have hI : (i : Int) < (nF : Int) := by omega
      clear e1 e2 hrd1 hrd2 hln
      go_wp2_with fail
      go_quiet ((go_at_call 31; exact SM.out _))
      go_wp2_with fail
      go_roundg (nF - (i + 1))
      case measure => omega
      case rel => exact ⟨i + 1, by omega, rfl, by go_num, Below.drewN HBR.out _⟩
    · obtain rfl : nF = i := by omega
      clear hlt hi
      have HS0 : Hid (S2 w wr W.heap.size b c s fr 0 0) := S2.start HB.out HBR.out HBW.out.size
      clear HBR
      go_wp2_with fail
      go_loopg [5] nF (fun g s5 ws => ∃ i : Nat, i ≤ nF ∧ g = nF - i ∧ s5 = .int .i64 i ∧ Hid (S2 w ws W.heap.size b c s fr i 0))
      case atStart => exact ⟨0, by omega, by omega, rfl, HS0.out⟩
      case round =>
        obtain ⟨i, hi, rfl, rfl, HS⟩ := hrel
        clear HS0 x0 x1 x2
        obtain ⟨X', hbk, hX', hon, hbl⟩ := HS.out
        have hsz : W.heap.size ≤ wr.heap.size := Nat.le_trans HBW.out.size hon.size
        obtain ⟨x0, x1, x2, x3⟩ := hbk.reads
        replace x0 : wr.cell? ⟨b, 0, none⟩ = some (.slice af nF kf) := by rw [x0]; show some s.vf = _; rw [HVF.out, HNF.out]
        by_cases hlt : i < nF
        · have hlt' : i < s.F.length := by rw [← HNF.out]; exact hlt
          obtain ⟨gf, a1, k1, rfl, y1, e1⟩ := hbk.freshAt HVF.out hlt'
          have hX2 : nthX X' i = cont s fr i 0 i := hX' i hlt'
          have hlx : (nthX X' i).length = (nthX s.X i).length := by rw [hX2, cont_len (Nat.zero_le _)]
          replace e1 : nthV s.F i = .slice a1 (nthX X' i).length k1 := e1
          replace y1 : wr.cell? ⟨gf, i, none⟩ = some (.slice a1 (nthX X' i).length k1) := y1
          rw [hlx] at e1 y1
          have E1 := hid e1
          have hln := HX.out i hlt'
          obtain ⟨ln, hlnn⟩ : ∃ ln, ln = (nthX s.X i).length := ⟨_, rfl⟩
          have HLN := hid hlnn
          rw [← hlnn] at y1 hln
          have hI : (i : Int) < (nF : Int) := by omega
          have hG := hid (HB.out.rf.lt gf (by rw [HVF.out]; rfl))
          clear x1 x2 x3 hX2 hlx e1 hlnn
          go_wp2_with fail
          go_loopg [6] ln (fun g s6 wt => ∃ k : Nat, k ≤ ln ∧ g = ln - k ∧ s6 = .int .i64 k ∧ Hid (S2 w wt W.heap.size b c s fr i k))
          case atStart => exact ⟨0, by omega, by omega, rfl, HS.out⟩
          case round =>
            obtain ⟨k, hk, rfl, rfl, HSK⟩ := hrel
            clear x0 y1 hbk hX' hon hbl
            obtain ⟨X', hbk, hX', hon, hbl⟩ := HSK.out
            have HBR : Hid (Below W.heap.size W wr) := HBW.out.trans hbl
            obtain ⟨x0, x1, x2, x3⟩ := hbk.reads
            replace x0 : wr.cell? ⟨b, 0, none⟩ = some (.slice (some ⟨gf, 0, none⟩) nF kf) := by rw [x0]; show some s.vf = _; rw [HVF.out, HNF.out]
            obtain ⟨gf2, a2, k2, e2, y1, e3⟩ := hbk.freshAt HVF.out hlt'
            injection e2 with e2
            injection e2 with e2 _ _
            subst e2
            replace e3 : nthV s.F i = .slice a2 _ k2 := e3
            rw [E1.out] at e3
            injection e3 with e4 _ e5
            subst e4 e5
            have hlx : (nthX X' i).length = ln := by rw [hX' i hlt', cont_len (by rw [← HLN.out]; exact hk), HLN.out]
            replace y1 : wr.cell? ⟨gf, i, none⟩ = some (.slice a1 (nthX X' i).length k1) := y1
            rw [hlx] at y1
            clear x1 x2 x3
            by_cases hlt2 : k < ln
            · have hrw := HSK.out.row hlt'
              have hcl : (cont s fr i k i).length = ln := by rw [cont_len (by rw [← HLN.out]; exact hk), HLN.out]
              obtain ⟨g, off, tk, rfl, y2, f2, hgB⟩ : ∃ g off tk, a1 = some ⟨g, off, none⟩ ∧ wr.cell? ⟨g, off + k, none⟩ = some (.string tk) ∧ wr.frozen? ⟨g, off + k, none⟩ = false ∧ g < wr.heap.size := by
                rw [E1.out] at hrw
                rcases hrw with ⟨_, e0⟩ | ⟨g, off, c3, e, _, hr2⟩
                · rw [e0] at hcl; simp at hcl; omega
                · injection e with e1 _ _
                  exact ⟨g, off, _, e1, hr2.at_ k _ (nthT_get (by rw [hcl]; exact hlt2)), hr2.ty.loose _, hr2.ty.lt⟩
              have kw : IntKind.i64.wrap ((fr : Int) + (i : Int)) = ((fr + i : Nat) : Int) := by rw [IntKind.wrap_i64]; omega
              have HM : Hid (∀ ws, Below wr.heap.size wr ws → Calls Tryd.prog 17 #[.int .i64 ((fr + i : Nat) : Int), .int .i64 (k : Int)] ws fun e w' => e = .returned (.string (markB ((fr + i : Nat) : Int) k)) ∧ Below ws.heap.size ws w') := fun ws hb => HMARK.out ws (fr + i) k (Below.on HBR.out hb) (by omega) (by omega)
              have HPUT : Hid (∀ wz, Below wr.heap.size wr wz → S2 w (wz.setCell ⟨g, off + k, none⟩ (.string (markB ((fr + i : Nat) : Int) (k : Int)))) W.heap.size b c s fr i (k + 1)) := fun wz hb => HSK.out.put hlt' (by rw [← HLN.out]; exact hlt2) hb E1.out (Nat.le_trans HBW.out.size hon.size)
              generalize markB ((fr + i : Nat) : Int) (k : Int) = mm at HM HPUT
              generalize fr + i = fi at kw HM
              have hK : (k : Int) < (ln : Int) := by omega
              clear hbk hX' hon hbl hlx hrw hcl
              go_wp2_with fail
              go_region_with ((go_at_call 17; refine (HM.out _ (by (repeat (first | with_reducible exact Below.refl _ _ | with_reducible assumption | with_reducible refine Below.drew ?_ | with_reducible refine Below.al ?_ _ | with_reducible refine Below.setCell ?_ (by first | exact Nat.le_refl _ | (simp; omega) | (simp; done)) _ | with_reducible refine Below.on ?_ (by assumption))))).mono ?_; rintro e w2 ⟨rfl, hb2⟩; have hbz : Below wr.heap.size wr w2 := (Below.on (Below.drew (Below.refl _ _)) hb2); have x0b := cell_later hbz x0; have y1b := cell_later hbz y1; have y2b := cell_later hbz y2; have f2b := (hbz.frozen (p := ⟨g, off + k, none⟩) hgB).trans f2))
              all_goals (try go_wp2_with fail)
              all_goals go_roundg (ln - (k + 1))
              all_goals first | omega | exact ⟨k + 1, by omega, rfl, by go_num, HPUT.out _ hbz⟩
            · obtain rfl : ln = k := by omega
              have HN : Hid (S2 w wr W.heap.size b c s fr (i + 1) 0) := by
                have := HSK.out
                rw [HLN.out] at this
                exact this.next
              clear hlt2 hk hbk hX' hon hbl hlx
              go_wp2_with fail
              go_roundg (nF - (i + 1))
              case measure => omega
              case rel => exact ⟨i + 1, by omega, rfl, by go_num, HN.out⟩
        · obtain rfl : nF = i := by omega
          have HS9 : Hid (∃ s', S3 w wr W.heap.size b c c s s' 0 ∧ s'.vl = s.vl) := by
            have := HS.out
            rw [HNF.out, HFR.out] at this
            exact S3.start this HL.out
          clear hlt hi hbk hX' hon hbl x1 x2 x3
          go_wp2_with fail
          go_loopg [7] nF (fun g s7 ws => ∃ i : Nat, i ≤ nF ∧ g = nF - i ∧ s7 = .int .i64 i ∧ Hid (∃ c' s', S3 w ws W.heap.size b c c' s s' i))
          case atStart =>
            obtain ⟨s', h1, _⟩ := HS9.out
            exact ⟨0, by omega, by omega, rfl, c, s', h1⟩
          case round =>
            obtain ⟨i, hi, rfl, rfl, HS3⟩ := hrel
            clear HS9 x0 HS
            obtain ⟨c', s', h3⟩ := HS3.out
            obtain ⟨x0, x1, x2, x3⟩ := h3.bk.reads
            replace x0 : wr.cell? ⟨b, 0, none⟩ = some (.slice af nF kf) := by rw [x0, h3.eq.vf, HVF.out, HNF.out]
            by_cases hlt : i < nF
            · have hlt' : i < s.F.length := by rw [← HNF.out]; exact hlt
              have hln := HX.out i hlt'
              obtain ⟨ln, hlnn⟩ : ∃ ln, ln = (nthX s.X i).length := ⟨_, rfl⟩
              have HLN := hid hlnn
              have HXM : Hid ((nthX s'.X i).length = ln) := by show _ = _; rw [h3.X i hlt', marks_len, hlnn]
              rw [← hlnn] at hln
              obtain ⟨gf, a1, k1, rfl, y1, e1⟩ := h3.bk.freshAt (h3.eq.vf.trans HVF.out) (by rw [h3.eq.F]; exact hlt')
              rw [HXM.out] at y1 e1
              rw [h3.eq.F] at e1
              have HS4 := S4.start h3 hlt'
              rw [e1] at HS4
              have HS4 := hid HS4
              have E1 := hid e1
              have hI : (i : Int) < (nF : Int) := by omega
              clear x1 x2 x3 hlnn HS3 e1
              go_wp2_with fail
              go_loopg [8, 9] 70 (fun g s8 s9 wt => ∃ (k : Nat) (a8 : Option Addr) (n8 k8 : Nat), k ≤ 70 ∧ g = 70 - k ∧ s9 = .int .i64 k ∧ s8 = .slice a8 n8 k8 ∧ Hid (∃ c2, S4 w wt W.heap.size b c c2 s s' i k (.slice a8 n8 k8)))
              case atStart => exact ⟨0, _, _, _, by omega, by omega, rfl, rfl, c', HS4.out⟩
              case round =>
                obtain ⟨k, a8, n8, k8, hk, rfl, rfl, rfl, HK⟩ := hrel
                clear HS4 x0 y1
                obtain ⟨c2, h4⟩ := HK.out
                have HBR : Hid (Below W.heap.size W wr) := HBW.out.trans h4.st.bl
                obtain ⟨x0, x1, x2, x3⟩ := h4.st.bk.reads
                replace x0 : wr.cell? ⟨b, 0, none⟩ = some (.slice (some ⟨gf, 0, none⟩) nF kf) := by rw [x0, h4.st.eq.vf, HVF.out, HNF.out]
                by_cases hlt2 : k < 70
                · obtain ⟨gf2, a2, k2, e2, y1, e3⟩ := h4.st.bk.freshAt (h4.st.eq.vf.trans HVF.out) (by rw [h4.st.eq.F]; exact hlt')
                  injection e2 with e2
                  injection e2 with e2 _ _
                  subst e2
                  rw [h4.st.eq.F, E1.out, HXM.out] at e3
                  injection e3 with e4 _ e5
                  subst e4 e5
                  rw [HXM.out] at y1
                  have kw : IntKind.i64.wrap ((fr : Int) + (i : Int)) = ((fr + i : Nat) : Int) := by rw [IntKind.wrap_i64]; omega
                  have kw2 : IntKind.i64.wrap ((ln : Int) + (k : Int)) = ((ln + k : Nat) : Int) := by rw [IntKind.wrap_i64]; omega
                  have HM := hid (HMARK.out wr (fr + i) (ln + k) HBR.out (by omega) (by omega))
                  have HGR : Hid (∀ w2, Below wr.heap.size wr w2 → ∃ a n kk w', (Builtin.append_ #[22, 22] 22 #[.slice a8 n8 k8, .slice (some ⟨w2.heap.size, 0, none⟩) 1 1]).run Tryd.prog (w2.alloc (.cells #[.string (markB ((fr + i : Nat) : Int) ((ln + k : Nat) : Int))] 9)) = .ok (.slice a n kk) w' ∧ Hid (∃ c2, S4 w w' W.heap.size b c c2 s s' i (k + 1) (.slice a n kk))) := fun w2 hb => by
                    refine h4.grow hlt' (wx := w2.alloc (.cells #[.string (markB ((fr + i : Nat) : Int) ((ln + k : Nat) : Int))] 9)) (q := w2.heap.size) (Below.al hb _) ?_ (by rw [← HLN.out]; omega) HBW.out.size
                    rw [← HFR.out, ← HLN.out]
                    exact World.alloc_heap_new _ _
                  generalize markB ((fr + i : Nat) : Int) ((ln + k : Nat) : Int) = mm at HM HGR
                  generalize fr + i = fi at kw HM
                  generalize ln + k = lk at kw2 HM
                  clear h4 x1 x2 x3 HK
                  go_wp2_with fail
                  refine HM.out.mono ?_
                  rintro e w2 ⟨rfl, hb2⟩
                  obtain ⟨a9, n9, k9, w3, hr, HS5⟩ := HGR.out w2 hb2
                  have HR := hid hr
                  clear hr HGR hb2
                  go_wp2_with (at_builtin; refine Lib.wpList_append_run _ rfl _ _ _ _ rfl _ _ rfl rfl _ _ HR.out ?_)
                  go_roundg (70 - (k + 1))
                  case measure => omega
                  case rel => exact ⟨k + 1, _, _, _, by omega, rfl, by go_num, rfl, HS5.out⟩
                · obtain rfl : 70 = k := by omega
                  obtain ⟨a9, n9, k9, w3, hr, z1, z2, HS5⟩ := h4.done hlt' (by have := HFR.out; have := HNF.out; omega) HBW.out.size
                  obtain ⟨al, kl, hvl⟩ := owns_slice h4.st.bk.rl
                  rw [hvl] at x3 hr z1
                  generalize s'.L.length = lL at x3 hr z1
                  have HR := hid hr
                  clear hlt2 hk h4 x1 x2 hr HK hvl
                  go_wp2_with (at_builtin; refine Lib.wpList_append_run _ rfl _ _ _ _ rfl _ _ rfl rfl _ _ HR.out ?_)
                  go_roundg (nF - (i + 1))
                  case measure => omega
                  case rel => exact ⟨i + 1, by omega, rfl, by go_num, HS5.out⟩
            · obtain rfl : nF = i := by omega
              obtain ⟨ls, hls⟩ : ∃ ls : List Nat, ls = (List.range s.F.length).map fun j => (nthX s.X j).length := ⟨_, rfl⟩
              have hll : ls.length = s.F.length := by rw [hls]; simp
              have hnm : ∀ j, j < s.F.length → nthM ls j = (nthX s.X j).length := fun j hj => by rw [hls, nthM]; simp [hj]
              have e1 := h3.eq.F
              have e2 := h3.eq.N
              have e3 := h3.eq.K
              obtain ⟨a9, n9, k9, w3, hr, z0, z1, z2, zf, HD⟩ := h3.bk.done (ls := ls) (by rw [e1]; exact hll) (by rw [h3.L, e2, e1, HNF.out]) (fun j hj => by rw [e1] at hj; rw [h3.X j hj, e2, hnm j hj]) (fun j hj => by rw [e1] at hj; have := h3.G j (by rw [HNF.out]; exact hj); rw [e2, hnm j hj]; exact this) (by rw [h3.bk.lk, e1, e2]; have := HFR.out; have := HNF.out; omega) (Nat.le_trans HBW.out.size h3.onl.size)
              have HEND : Hid (∃ c' s', Sd W w (((w3.setCell ⟨b, 2, none⟩ (.slice a9 n9 k9)).setCell ⟨b, 0, none⟩ (.slice none 0 0)).setCell ⟨b, 1, none⟩ (.slice none 0 0)) b c c' s s') := by
                obtain ⟨c9, hb9, ho9, hc9, hl9⟩ := HD.out
                refine ⟨c9, _, hb9, rfl, ?_, ?_, h3.onl.fresh ho9 (fun x hx => ?_), fun x hx hlt4 => ?_, h3.bl.trans hl9, fun hM n hn => ?_⟩
                · show s'.L.length = (s'.N ++ ls).length
                  rw [List.length_append, h3.L, e2, hll, HNF.out]
                · show (s'.N ++ ls).length = _
                  rw [List.length_append, e2, hll]
                · by_cases hx2 : x < w.heap.size
                  · exact .inl (by have := h3.col x hx2; omega)
                  · exact .inr (by omega)
                · rw [hc9 x (Nat.lt_of_lt_of_le hx h3.onl.size) (by rw [h3.col x hx]; exact hlt4)]; exact h3.col x hx
                · show nthM (s'.N ++ ls) n ≤ _
                  have hn : n < (s'.N ++ ls).length := hn
                  rw [List.length_append, hll, e2] at hn
                  rw [nthM_two, e2]
                  by_cases hn2 : n < s.N.length
                  · rw [if_pos hn2]; exact hM n hn2
                  · rw [if_neg hn2, hnm _ (by omega)]; exact HX.out _ (by omega)
              rw [h3.eq.vk, h3.eq.vf, HVK.out, HVF.out] at hr
              rw [h3.eq.vf, HVF.out] at z0
              rw [h3.eq.vk, HVK.out] at z2 x2
              obtain ⟨av, kv, hvv⟩ := owns_slice h3.bk.rw_
              rw [hvv] at z1
              have zf0 := zf 0
              have zf1 := zf 1
              have zf2 := zf 2
              rw [← HNF.out] at hr z0
              generalize s.K.length = kl at hr z2 x2
              have HR := hid hr
              clear hlt hi h3 HD hls hll hnm e1 e2 e3 hr x1 x3 hvv zf
              go_wp2_with fail
              go_region_law (refine step_append_runF rfl (.tmp 126) (.tmp 130) 41 41 rfl (.slice ak kl kk) (.slice af nF kf) (by simp [Act.eval]) (by simp [Act.eval]) HR.out ?_)
              all_goals (try go_wp2_with fail)
              all_goals go_ret
              all_goals exact ⟨rfl, HEND.out⟩
end Go.Proofs.YtpnbgdbkiokooaaDoor.Fl
