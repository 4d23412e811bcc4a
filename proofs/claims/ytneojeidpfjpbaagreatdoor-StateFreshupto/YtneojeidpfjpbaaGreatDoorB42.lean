import Derived.Test.YtneojeidpfjpbaaGreatDoorB41
import Derived.Deep.RegionWith
import Derived.Shelf.Small.Bits
import Derived.Shelf.Strconv.Itoa0
import Derived.Shelf.Strconv.Itoa1
import Derived.Shelf.LaysM
import Derived.Shelf.Strconv.Itoa2
import Derived.Shelf.Strconv.Itoa3
import Derived.Test.YtneojeidpfjpbaaGreatDoorProg
import Derived.Lib.ItoaMem
import Derived.Lib.ItoaLen
import Derived.Lib.SmallJoins
import Derived.Laws.IdiomStrings
set_option linter.unusedVariables false
set_option maxHeartbeats 16000000
namespace Go.Proofs.YtneojeidpfjpbaaGreatDoor.Lk
open Go.RowKit Go.Sort
theorem infoHm : (Tryz.prog.info? 52).map (fun i => (i.zero, i.size, i.bytes)) = some (some (.agg #[.int .u32 0, .int .u32 0, .int .u32 0, .int .u64 0, .int .u32 0, .int .u32 0, .slice none 0 0, .slice none 0 0]), 8, 80) := by kernel_rfl
theorem lit8h (w : World) : ∀ j u, [Value.int .u32 0, .int .u32 0, .int .u32 4294967295, .int .u64 0, .int .u32 0, .int .u32 0, .slice none 0 0, .slice none 0 0][j]? = some u → (w.alloc (.cells #[.int .u32 0, .int .u32 0, .int .u32 4294967295, .int .u64 0, .int .u32 0, .int .u32 0, .slice none 0 0, .slice none 0 0] 52)).cell? ((⟨w.heap.size, 0, none⟩ : Addr).add j) = some u := fun j u hj => by
 exact newC w [.int .u32 0, .int .u32 0, .int .u32 4294967295, .int .u64 0, .int .u32 0, .int .u32 0, .slice none 0 0, .slice none 0 0] 52 j u hj
theorem lit8o : ∀ u ∈ [Value.int .u32 0, .int .u32 0, .int .u32 4294967295, .int .u64 0, .int .u32 0, .int .u32 0, .slice none 0 0, .slice none 0 0], u.oneCell' = true := by
 intro u hu; simp only [List.mem_cons, List.not_mem_nil, or_false] at hu; rcases hu with rfl | rfl | rfl | rfl | rfl | rfl | rfl | rfl <;> rfl
theorem drewN_below (w : World) (n : Nat) : Below w.heap.size w (w.drewN n) := ⟨rfl, rfl, rfl, Nat.le_refl _, fun _ _ => rfl⟩
set_option maxRecDepth 16000 in
theorem mark_is {w : World} {B n : Nat} {rv wv : Nat → Value} {R : Nat → List T2} {S : Nat → List Wr} {lv : Value} {hs : List Value} {sg : Nat → Nat → ByteArray} {k : Int} (h : Mk B w n rv wv R S) (hl : w.ownsRow B 52 8 lv n hs) (hB : B ≤ w.heap.size)
  (h6 : ∀ q, q < n → hs[q * 8 + 6]? = some (rv q)) (h7 : ∀ q, q < n → hs[q * 8 + 7]? = some (wv q)) (hR : ∀ q, q < n → (R q).length ≤ 1073741824) (hS : ∀ q, q < n → (S q).length ≤ 1073741824) (hn : n ≤ 1073741824)
  (HS : ∀ (w1 : World) (i j : Nat), Below B w w1 → i ≤ 2147483648 → j ≤ 2147483648 → Calls Tryz.prog 40 #[.int .i64 k, .int .i64 (i : Int), .int .i64 (j : Int)] w1 fun e w' => e = .returned (.string (sg i j)) ∧ Below w1.heap.size w1 w') :
  Calls Tryz.prog 11 #[lv, .int .i64 k] w fun e w' => e = .returned (.bool true) ∧ Hid (Onl (fun k => lv.ownBlock = some k ∨ ∃ q, q < n ∧ ((rv q).ownBlock = some k ∨ (wv q).ownBlock = some k)) w w') := by
 obtain ⟨la, lc, hlv, _⟩ := Fam.row_slice hl; have HM0 : Hid (MA w w B n rv wv R S lv hs sg 0 0) := MA.start ⟨h, hl, Onl.refl _ _⟩; have H6 := hid h6; have H7 := hid h7; have HR := hid hR; have HSL := hid hS; have HSG := hid HS; have HBK : Hid (∀ wz, Onl (fun k => ∃ q, q < n ∧ ((rv q).ownBlock = some k ∨ (wv q).ownBlock = some k)) w wz → Below B w wz) := fun wz ho => ho.below (fun k hk => by
  obtain ⟨q, hq, hk | hk⟩ := hk
  ·exact ((h.r.own q hq).lt k hk).1
  ·exact ((h.s.own q hq).lt k hk).1) hB
 have HB := hid hB; clear h6 h7 hR hS HS h hl hB; subst hlv; go_enter Tryz.func11, Tryz.ntmps11
 go_wp2_with fail
 go_loopg [5] n (fun g s5 wr => ∃ i : Nat, i ≤ n ∧ g = n - i ∧ s5 = .int .i64 i ∧ Hid (MA w wr B n rv wv R S (.slice la n lc) hs sg i 0))
 case atStart => exact ⟨0, by omega, by omega, rfl, HM0.out⟩
 case round =>
  obtain ⟨i, hi, rfl, rfl, HM⟩ := hrel; clear HM0; by_cases hlt : i < n
  ·have hI : (i : Int) < (n : Int) := by omega
   obtain ⟨g, rfl, hc⟩ := row_at HM.out.l (by omega); obtain ⟨ra, rc, er, -⟩ := Fam.row_slice (HM.out.mr.r.own i hlt); obtain ⟨wa, wk, ew, -⟩ := Fam.row_slice (HM.out.mr.s.own i hlt); obtain ⟨nr, hnr⟩ : ∃ nr, nr = (R i).length := ⟨_, rfl⟩; obtain ⟨nw, hnw⟩ : ∃ nw, nw = (S i).length := ⟨_, rfl⟩; have hRl := HR.out i hlt; have hSl := HSL.out i hlt; rw [Fam.ct_len _ _ (fun q => MR_len q) (Nat.zero_le _), ← hnr] at er; rw [Fam.ct_len _ _ (fun q => MS_len q) (Nat.zero_le _), ← hnw] at ew; rw [← hnr] at hRl; rw [← hnw] at hSl; have HNR := hid hnr; have HNW := hid hnw; have HER := hid er; have HEW := hid ew; have HCW : Hid (∀ wz : World, wz.ownsRow B 52 8 (.slice (some ⟨g, 0, none⟩) n lc) n hs → wz.cell? ⟨g, i * 8 + 6, none⟩ = some (.slice ra nr rc) ∧ wz.cell? ⟨g, i * 8 + 7, none⟩ = some (.slice wa nw wk)) := fun wz hz => by
    obtain ⟨g2, e2, hc2⟩ := row_at hz (by omega); injection e2 with e2
    injection e2 with e2 _ _
    subst e2; have c6 := hc2 _ _ (H6.out i hlt); have c7 := hc2 _ _ (H7.out i hlt); rw [er] at c6; rw [ew] at c7; exact ⟨c6, c7⟩
   clear hc hnr hnw er ew; go_wp2_with fail
   go_loopg [6] nr (fun gm s6 wr => ∃ j : Nat, j ≤ nr ∧ gm = nr - j ∧ s6 = .int .i64 j ∧ Hid (MA w wr B n rv wv R S (.slice (some ⟨g, 0, none⟩) n lc) hs sg i j))
   case atStart => exact ⟨0, by omega, by omega, rfl, HM.out⟩
   case round =>
    obtain ⟨j, hj, rfl, rfl, HJ⟩ := hrel; clear HM; obtain ⟨c6, c7⟩ := HCW.out _ HJ.out.l; by_cases hlt2 : j < nr
    ·have hJ : (j : Int) < (nr : Int) := by omega
     obtain ⟨g2, c2, ta, tb, e2, hg2, d0, d1, fz, hput⟩ := MA.put HJ.out hlt (by rw [← HNR.out]; exact hlt2); rw [HER.out, ← HNR.out] at e2; injection e2 with e2 _ e3
     subst e2 e3; have f0 := fz (j * 2); have f1 := fz (j * 2 + 1); have HPUT := hid hput; have S1 : Hid (∀ wz, Below wr.heap.size wr wz → Calls Tryz.prog 40 #[.int .i64 k, .int .i64 (i : Int), .int .i64 (j : Int)] wz fun e w' => e = .returned (.string (sg i j)) ∧ Below wz.heap.size wz w') := fun wz hb => HSG.out wz i j (HBK.out _ (HJ.out.on.on hb)) (by omega) (by omega)
     clear hput fz c7; generalize sg i j = tx at HPUT S1
     go_wp2_with fail
     go_region_with ((go_at_call 40; refine (S1.out _ (by (repeat (first | with_reducible exact Below.refl _ _ | with_reducible assumption | with_reducible refine Below.drew ?_ | with_reducible refine Below.al ?_ _ | with_reducible refine Below.setCell ?_ (by first | exact Nat.le_refl _ | (simp; omega) | (simp; done)) _ | with_reducible refine Below.on ?_ (by assumption))))).mono ?_; rintro e w2 ⟨rfl, hb2⟩; have hbz : Below wr.heap.size wr w2 := (Below.on (Below.drew (Below.refl _ _)) hb2); have x6 := cell_later hbz c6; have y0 := cell_later hbz d0; have y1 := cell_later hbz d1; have z0 := (hbz.frozen (p := ⟨g2, j * 2, none⟩) hg2).trans f0; have z1 := (hbz.frozen (p := ⟨g2, j * 2 + 1, none⟩) hg2).trans f1))
     all_goals (try go_wp2_with fail)
     all_goals go_roundg (nr - (j + 1))
     all_goals first | omega | exact ⟨j + 1, by omega, rfl, by go_num, HPUT.out _ hbz⟩
    ·obtain rfl : nr = j := by omega
     have HF : Hid (MB w wr B n rv wv R S (.slice (some ⟨g, 0, none⟩) n lc) hs sg i 0) := by
      have := HJ.out; rw [HNR.out] at this; exact MA.full this
     clear hlt2 hj HJ; go_wp2_with fail
     go_loopg [7] nw (fun gm s7 wr => ∃ j : Nat, j ≤ nw ∧ gm = nw - j ∧ s7 = .int .i64 j ∧ Hid (MB w wr B n rv wv R S (.slice (some ⟨g, 0, none⟩) n lc) hs sg i j))
     case atStart => exact ⟨0, by omega, by omega, rfl, HF.out⟩
     case round =>
      obtain ⟨j, hj, rfl, rfl, HJ⟩ := hrel; clear HF c6 c7; obtain ⟨c6, c7⟩ := HCW.out _ HJ.out.l; by_cases hlt2 : j < nw
      ·have hJ : (j : Int) < (nw : Int) := by omega
       obtain ⟨g2, c2, ta, tb, td, e2, hg2, d0, d1, d2, fz, hput⟩ := MB.put HJ.out hlt (by rw [← HNW.out]; exact hlt2); rw [HEW.out, ← HNW.out] at e2; injection e2 with e2 _ e3
       subst e2 e3; have f0 := fz (j * 3); have f1 := fz (j * 3 + 1); have f2 := fz (j * 3 + 2); have HPUT := hid hput; have S1 : Hid (∀ wz, Below wr.heap.size wr wz → Calls Tryz.prog 40 #[.int .i64 k, .int .i64 (i : Int), .int .i64 (j : Int)] wz fun e w' => e = .returned (.string (sg i j)) ∧ Below wz.heap.size wz w') := fun wz hb => HSG.out wz i j (HBK.out _ (HJ.out.on.on hb)) (by omega) (by omega)
       clear hput fz c6; generalize sg i j = tx at HPUT S1
       go_wp2_with fail
       go_region_with ((go_at_call 40; refine (S1.out _ (by (repeat (first | with_reducible exact Below.refl _ _ | with_reducible assumption | with_reducible refine Below.drew ?_ | with_reducible refine Below.al ?_ _ | with_reducible refine Below.setCell ?_ (by first | exact Nat.le_refl _ | (simp; omega) | (simp; done)) _ | with_reducible refine Below.on ?_ (by assumption))))).mono ?_; rintro e w2 ⟨rfl, hb2⟩; have hbz : Below wr.heap.size wr w2 := (Below.on (Below.drew (Below.refl _ _)) hb2); have x6 := cell_later hbz c7; have y0 := cell_later hbz d0; have y1 := cell_later hbz d1; have y2 := cell_later hbz d2; have z0 := (hbz.frozen (p := ⟨g2, j * 3, none⟩) hg2).trans f0; have z1 := (hbz.frozen (p := ⟨g2, j * 3 + 1, none⟩) hg2).trans f1; have z2 := (hbz.frozen (p := ⟨g2, j * 3 + 2, none⟩) hg2).trans f2))
       all_goals (try go_wp2_with fail)
       all_goals go_roundg (nw - (j + 1))
       all_goals first | omega | exact ⟨j + 1, by omega, rfl, by go_num, HPUT.out _ hbz⟩
      ·obtain rfl : nw = j := by omega
       have HF : Hid (MA w wr B n rv wv R S (.slice (some ⟨g, 0, none⟩) n lc) hs sg (i + 1) 0) := by
        have := HJ.out; rw [HNW.out] at this; exact MB.full this
       clear hlt2 hj HJ; go_wp2_with fail
       go_roundg (n - (i + 1))
       case measure => omega
       case rel => exact ⟨i + 1, by omega, rfl, by go_num, HF.out⟩
  ·obtain rfl : i = n := by omega
   have HF := hid (MA.done HM.out); have HB1 := hid (HBK.out _ HM.out.on); have HGR := hid (grown_is (k := k) (sg := sg) HF.out.mr HF.out.l (Nat.le_trans HB.out HF.out.on.size) H6.out H7.out (fun q hq => by rw [MR_len]; exact HR.out q hq) (fun q hq => by rw [MS_len]; exact HSL.out q hq) hn (fun w1 a b hb ha hb2 => HSG.out w1 a b (HB1.out.trans hb) ha hb2)); clear hlt hi HM; go_wp2_with fail
   refine HGR.out.mono ?_; rintro e w2 ⟨x, y, SV, TV, rfl, HG⟩; obtain ⟨xa, xc, ex, -⟩ := Fam.row_slice HG.out.sx; obtain ⟨ya, yc, ey, -⟩ := Fam.row_slice HG.out.sy; subst ex ey; have HB2 : Hid (Below B w w2) := HB1.out.trans (HG.out.on.below (fun k hk => by
    obtain ⟨q, hq, hk | hk⟩ := hk
    ·exact ((HF.out.mr.r.own q hq).lt k hk).1
    ·exact ((HF.out.mr.s.own q hq).lt k hk).1) (Nat.le_trans HB.out HF.out.on.size))
   have HON := hid (HF.out.on.trans HG.out.on); clear HGR; go_wp2_with fail
   go_loopg [10, 11] i (fun gm s10 s11 wr => ∃ q : Nat, q ≤ i ∧ gm = i - q ∧ s11 = .int .i64 q ∧ s10 = .bool true ∧ Hid (Below w2.heap.size w2 wr))
   case atStart => exact ⟨0, by omega, by omega, rfl, rfl, Below.refl _ _⟩
   case round =>
    obtain ⟨q, hq, rfl, rfl, rfl, HBR⟩ := hrel; by_cases hlt : q < i
    ·have hQ : (q : Int) < (i : Int) := by omega
     have hsp := HG.out.spans hlt; obtain ⟨p1, p2, p3, p4⟩ := hsp; obtain ⟨xg, xc', ex, cx⟩ := row_V HG.out.sx hlt; obtain ⟨yg, yc', ey, cy⟩ := row_V HG.out.sy hlt; injection ex with ex _ exc
     injection ey with ey _ eyc
     subst ex ey exc eyc; obtain ⟨lg, el, hcl⟩ := row_at HG.out.l (by omega); subst el; obtain ⟨sb, sc, es, hsb⟩ := row_S p1 (j := 0) (by omega); obtain ⟨tb, tc, et, htb⟩ := row_W p2 (j := 0) (by omega); rw [es] at cx; rw [et] at cy; have cl6 := hcl _ _ (H6.out q hlt); have cl7 := hcl _ _ (H7.out q hlt); obtain ⟨ra, rc, er, -⟩ := Fam.row_slice p3; obtain ⟨wa, wk, ew, -⟩ := Fam.row_slice p4; rw [er] at cl6; rw [ew] at cl7; rw [er] at p3; rw [ew] at p4; have HP3 := hid p3; have HP4 := hid p4; have HSB := hid hsb; have HTB := hid htb; have hRl := HR.out q hlt; have hSl := HSL.out q hlt; obtain ⟨nr, hnr⟩ : ∃ nr, nr = (R q).length := ⟨_, rfl⟩; obtain ⟨nw, hnw⟩ : ∃ nw, nw = (S q).length := ⟨_, rfl⟩; rw [← hnr] at cx cl6 HP3 HSB hRl; rw [← hnw] at cy cl7 HP4 HTB hSl; have HCX := hid cx; have HCY := hid cy; have HC6 := hid cl6; have HC7 := hid cl7; have x0 := cell_later HBR.out cx
     have hm : ((nr + 70 : Nat) : Int) = (nr : Int) + 70 := by omega
     clear hsb htb hcl p1 p2 p3 p4 es et er ew hnr hnw cx cy cl6 cl7; go_wp2_with fail
     go_loopg [10, 12] (nr + 70) (fun gm s10 s12 wr => ∃ j : Nat, j ≤ nr + 70 ∧ gm = nr + 70 - j ∧ s12 = .int .i64 j ∧ s10 = .bool true ∧ Hid (Below w2.heap.size w2 wr))
     case atStart => exact ⟨0, by omega, by omega, rfl, rfl, HBR.out⟩
     case round =>
      obtain ⟨j, hj, rfl, rfl, rfl, HBJ⟩ := hrel; clear HBR x0; have x0 := cell_later HBJ.out HCX.out; have x6 := cell_later HBJ.out HC6.out; by_cases hlt2 : j < nr + 70
      ·have hJ : (j : Int) < (nr : Int) + 70 := by omega
       have S1 := hid (HSG.out wr q j (HB2.out.trans (HBJ.out.mono (Nat.le_trans HB.out HON.out.size))) (by omega) (by omega)); have y0 := HSB.out j hlt2; have HS0 := hid (HSB.out j hlt2); obtain ⟨tx, htx⟩ : ∃ tx, sg q j = tx := ⟨_, rfl⟩; rw [htx] at S1 HS0 y0; have HTX := hid htx; clear htx; go_wp2_with fail
       refine S1.out.mono ?_; rintro e w3 ⟨rfl, hb3⟩; have HB3 := hid (Below.on HBJ.out hb3); obtain ⟨w4, hw4⟩ : ∃ w4, w4 = w3.alloc (.cells #[.string tx, .string ⟨#[114]⟩] 25) := ⟨_, rfl⟩; obtain ⟨b4, hb4⟩ : ∃ b4, b4 = w3.heap.size := ⟨_, rfl⟩; have hk4 : w4.cell? ⟨b4, 0, none⟩ = some (.string tx) ∧ w4.cell? ⟨b4, 1, none⟩ = some (.string ⟨#[114]⟩) := by
        rw [hw4, hb4]; exact ⟨newC w3 [.string tx, .string ⟨#[114]⟩] 25 0 _ rfl, newC w3 [.string tx, .string ⟨#[114]⟩] 25 1 _ rfl⟩
       have HB4 : Hid (Below w2.heap.size w2 w4) := by show Below _ _ _; rw [hw4]; exact Below.al HB3.out _
       have HW4 := hid hw4; have HBB := hid hb4; obtain ⟨k0, k1⟩ := hk4; clear S1 hb3 x0 x6 y0 hw4 hb4; have x0 := cell_later HB4.out HCX.out; have x6 := cell_later HB4.out HC6.out; obtain ⟨y0, y1⟩ := HS0.out; have y0 := cell_later HB4.out y0; have y1 := cell_later HB4.out y1; by_cases hin : j < nr
       ·obtain ⟨g5, c5, e5, hr5⟩ := row_S HP3.out hin; injection e5 with e5 _ _
        subst e5; obtain ⟨z0, z1⟩ := hr5 j hin; rw [HTX.out] at z0; have z0 := cell_later HB4.out z0; have z1 := cell_later HB4.out z1; have d3 : (nr ≤ j) = False := eq_false (by omega); have d4 : decide ((nr : Int) ≤ (j : Int)) = false := by simpa using hin
        have d6 : ((nr : Int) ≤ (j : Int)) = False := eq_false (by omega); clear hr5; go_wp2_with fail
        rw [← HW4.out, ← HBB.out]; go_quiet (fail)
        go_wp2_with fail
        go_roundg (nr + 70 - (j + 1))
        case measure => omega
        case rel => exact ⟨j + 1, by omega, rfl, by go_num, rfl, Below.on HB4.out (drewN_below _ _)⟩
       ·have d3 : (nr ≤ j) = True := eq_true (by omega); have d4 : decide ((nr : Int) ≤ (j : Int)) = true := by simpa using hin
        have d6 : ((nr : Int) ≤ (j : Int)) = True := eq_true (by omega); go_wp2_with fail
        rw [← HW4.out, ← HBB.out]; go_quiet (fail)
        go_wp2_with fail
        go_roundg (nr + 70 - (j + 1))
        case measure => omega
        case rel => exact ⟨j + 1, by omega, rfl, by go_num, rfl, Below.on HB4.out (drewN_below _ _)⟩
      ·obtain rfl : j = nr + 70 := by omega
       clear hlt2 hj x6; have xw := cell_later HBJ.out HCY.out; have hm2 : ((nw + 70 : Nat) : Int) = (nw : Int) + 70 := by omega
       have HBJ0 := HBJ; go_wp2_with fail
       go_loopg [10, 14] (nw + 70) (fun gm s10 s14 wr => ∃ j : Nat, j ≤ nw + 70 ∧ gm = nw + 70 - j ∧ s14 = .int .i64 j ∧ s10 = .bool true ∧ Hid (Below w2.heap.size w2 wr))
       case atStart => exact ⟨0, by omega, by omega, rfl, rfl, HBJ.out⟩
       case round =>
        obtain ⟨j, hj, rfl, rfl, rfl, HBJ⟩ := hrel; clear HBJ0 x0 xw; have x0 := cell_later HBJ.out HCY.out; have x6 := cell_later HBJ.out HC7.out; by_cases hlt2 : j < nw + 70
        ·have hJ : (j : Int) < (nw : Int) + 70 := by omega
         have S1 := hid (HSG.out wr q j (HB2.out.trans (HBJ.out.mono (Nat.le_trans HB.out HON.out.size))) (by omega) (by omega)); have y0 := HTB.out j hlt2; have HS0 := hid (HTB.out j hlt2); obtain ⟨tx, htx⟩ : ∃ tx, sg q j = tx := ⟨_, rfl⟩; rw [htx] at S1 HS0 y0; have HTX := hid htx; clear htx; go_wp2_with fail
         refine S1.out.mono ?_; rintro e w3 ⟨rfl, hb3⟩; have HB3 := hid (Below.on HBJ.out hb3); obtain ⟨w4, hw4⟩ : ∃ w4, w4 = w3.alloc (.cells #[.string tx, .bool false, .string ⟨#[119]⟩] 103) := ⟨_, rfl⟩; obtain ⟨b4, hb4⟩ : ∃ b4, b4 = w3.heap.size := ⟨_, rfl⟩; have hk4 : w4.cell? ⟨b4, 0, none⟩ = some (.string tx) ∧ w4.cell? ⟨b4, 1, none⟩ = some (.bool false) ∧ w4.cell? ⟨b4, 2, none⟩ = some (.string ⟨#[119]⟩) := by
          rw [hw4, hb4]; exact ⟨newC w3 [.string tx, .bool false, .string ⟨#[119]⟩] 103 0 _ rfl, newC w3 [.string tx, .bool false, .string ⟨#[119]⟩] 103 1 _ rfl, newC w3 [.string tx, .bool false, .string ⟨#[119]⟩] 103 2 _ rfl⟩
         have HB4 : Hid (Below w2.heap.size w2 w4) := by show Below _ _ _; rw [hw4]; exact Below.al HB3.out _
         have HW4 := hid hw4; have HBB := hid hb4; obtain ⟨k0, k1, k2⟩ := hk4; clear S1 hb3 x0 x6 y0 hw4 hb4; have x0 := cell_later HB4.out HCY.out; have x6 := cell_later HB4.out HC7.out; obtain ⟨y0, y1, y2⟩ := HS0.out; have y0 := cell_later HB4.out y0; have y1 := cell_later HB4.out y1; have y2 := cell_later HB4.out y2; by_cases hin : j < nw
         ·obtain ⟨g5, c5, e5, hr5⟩ := row_W HP4.out hin; injection e5 with e5 _ _
          subst e5; obtain ⟨z0, z1, z2⟩ := hr5 j hin; rw [HTX.out] at z0; have z0 := cell_later HB4.out z0; have z1 := cell_later HB4.out z1; have z2 := cell_later HB4.out z2; have d3 : (nw ≤ j) = False := eq_false (by omega); have d4 : decide ((nw : Int) ≤ (j : Int)) = false := by simpa using hin
          have d6 : ((nw : Int) ≤ (j : Int)) = False := eq_false (by omega); clear hr5; go_wp2_with fail
          rw [← HW4.out, ← HBB.out]; go_quiet (fail)
          go_wp2_with fail
          go_roundg (nw + 70 - (j + 1))
          case measure => omega
          case rel => exact ⟨j + 1, by omega, rfl, by go_num, rfl, Below.on HB4.out (drewN_below _ _)⟩
         ·have d3 : (nw ≤ j) = True := eq_true (by omega); have d4 : decide ((nw : Int) ≤ (j : Int)) = true := by simpa using hin
          have d6 : ((nw : Int) ≤ (j : Int)) = True := eq_true (by omega); go_wp2_with fail
          rw [← HW4.out, ← HBB.out]; go_quiet (fail)
          go_wp2_with fail
          go_roundg (nw + 70 - (j + 1))
          case measure => omega
          case rel => exact ⟨j + 1, by omega, rfl, by go_num, rfl, Below.on HB4.out (drewN_below _ _)⟩
        ·obtain rfl : j = nw + 70 := by omega
         clear hlt2 hj x6; go_wp2_with fail
         go_roundg (i - (q + 1))
         case measure => omega
         case rel => exact ⟨q + 1, by omega, rfl, by go_num, rfl, HBJ.out⟩
    ·obtain rfl : q = i := by omega
     clear hlt hq; have HLR := hid (Fam.row_later HG.out.l HBR.out); have HOX : Hid (Onl (fun k => ∃ i, i < q ∧ ((rv i).ownBlock = some k ∨ (wv i).ownBlock = some k)) w wr) := HON.out.on HBR.out; obtain ⟨wX, hwX⟩ : ∃ wX, wX = wr := ⟨_, rfl⟩; have HLR0 : Hid (wX.ownsRow B 52 8 (.slice la q lc) q hs) := by rw [hwX]; exact HLR
     have HOX0 : Hid (Onl (fun k => ∃ i, i < q ∧ ((rv i).ownBlock = some k ∨ (wv i).ownBlock = some k)) w wX) := by rw [hwX]; exact HOX
     rw [← hwX]; clear hwX HLR HOX HBR HB1 HF HB2 HON HG; go_wp2_with fail
     go_loopg [16] q (fun gm s16 wr => ∃ (z : Nat) (hz : List Value), z ≤ q ∧ gm = q - z ∧ s16 = .int .i64 z ∧ Hid (wr.ownsRow B 52 8 (.slice la q lc) q hz) ∧ Hid (∀ j, j < z → hz[j * 8 + 2]? = some (.int .u32 (wrap64 ((j : Int) + k) % 4294967296))) ∧ Hid (Onl (fun b => (Value.slice la q lc).ownBlock = some b) wX wr))
     case atStart => exact ⟨0, hs, by omega, by omega, rfl, HLR0, hid (fun j hj => by omega), Onl.refl _ _⟩
     case round =>
      obtain ⟨z, hz, hzq, rfl, rfl, HZ, HH, HO⟩ := hrel; by_cases hlt : z < q
      ·have hQ : (z : Int) < (q : Int) := by omega
       obtain ⟨g, rfl, hcs, hfz, hrow, honl, hlen⟩ := held_put HZ.out hlt (wrap64 ((z : Int) + k) % 4294967296); obtain ⟨x0, c0⟩ := hcs 0 (by omega); obtain ⟨x1, c1⟩ := hcs 1 (by omega); obtain ⟨x2, c2⟩ := hcs 2 (by omega); obtain ⟨x3, c3⟩ := hcs 3 (by omega); obtain ⟨x4, c4⟩ := hcs 4 (by omega); obtain ⟨x5, c5⟩ := hcs 5 (by omega); obtain ⟨x6, c6⟩ := hcs 6 (by omega); obtain ⟨x7, c7⟩ := hcs 7 (by omega); rw [Nat.add_zero] at c0; have f0 := hfz (z * 8); have f1 := hfz (z * 8 + 1); have f2 := hfz (z * 8 + 2); have f3 := hfz (z * 8 + 3); have f4 := hfz (z * 8 + 4); have f5 := hfz (z * 8 + 5); have f6 := hfz (z * 8 + 6); have f7 := hfz (z * 8 + 7)
       have HROW := hid hrow; have HON2 := hid (HO.out.trans honl); have HH2 : Hid (∀ j, j < z + 1 → (hldL hz (z * 8) (wrap64 ((z : Int) + k) % 4294967296))[j * 8 + 2]? = some (.int .u32 (wrap64 ((j : Int) + k) % 4294967296))) := hid fun j hj => by
        by_cases e : j = z
        ·subst e; exact hldL_at hlen hlt
        ·rw [hldL_not e]; exact HH.out j (by omega)
       clear hcs hfz hrow honl hlen HZ HH; go_wp2_with fail
       go_roundg (q - (z + 1))
       case measure => omega
       case rel => exact ⟨z + 1, _, by omega, rfl, by go_num, HROW.out, HH2, HON2⟩
      ·obtain rfl : z = q := by omega
       clear hlt hzq; have HON2 : Hid (Onl (fun k => (Value.slice la z lc).ownBlock = some k ∨ ∃ i, i < z ∧ ((rv i).ownBlock = some k ∨ (wv i).ownBlock = some k)) w wr) := hid ((HOX0.out.mono fun k hk => .inr hk).trans (HO.out.mono fun k hk => .inl hk)); have HBS : Hid (B ≤ wr.heap.size) := hid (Nat.le_trans HB.out HON2.out.size); obtain ⟨i0, hi0, hz0, hs0, hb0⟩ := info_of infoHm; have HZA := hid (HZ.out.alloc (.cells #[.int .u32 0, .int .u32 0, .int .u32 4294967295, .int .u64 0, .int .u32 0, .int .u32 0, .slice none 0 0, .slice none 0 0] 52)); have HNE := hid (lit8h wr); have HN3 : Hid (z + 1 ≤ maxLen) := by show _ ≤ _; unfold maxLen; omega
       have HN4 : Hid ((z + 1) * 80 ≤ 140737488355328) := by show _ ≤ _; omega
       have HBA : Hid (B ≤ (wr.alloc (.cells #[.int .u32 0, .int .u32 0, .int .u32 4294967295, .int .u64 0, .int .u32 0, .int .u32 0, .slice none 0 0, .slice none 0 0] 52)).heap.size) := hid (by have := HBS.out; simp; omega); clear HO HZ; go_wp2_with (at_builtin; refine wpList_append_keep _ rfl _ _ 47 rfl B 52 i0 _ 8 80 Tryz.underlying47 hi0 hz0 hs0 hb0 rfl (by decide) (.slice la z lc) z hz rfl HZA.out ⟨wr.heap.size, 0, none⟩ 1 1 [.int .u32 0, .int .u32 0, .int .u32 4294967295, .int .u64 0, .int .u32 0, .int .u32 0, .slice none 0 0, .slice none 0 0] rfl rfl HNE.out lit8o HN3.out HN4.out HBA.out (by decide) ?_; intro v' w5 hown hgrow hold _; obtain ⟨a5, c5, e5, -⟩ := Fam.row_slice hown; subst e5; have HGR := hid hgrow; have HOLD := hid hold; clear hown hgrow hold)
       have HOF : Hid (Onl (fun k => (Value.slice la z lc).ownBlock = some k ∨ ∃ i, i < z ∧ ((rv i).ownBlock = some k ∨ (wv i).ownBlock = some k)) w w5) := hid ((HON2.out.on (Below.al (Below.refl _ _) _)).trans ((grown_onl HGR.out).mono fun k hk => .inl hk)); clear HZA HNE HBA; go_loopg [10, 18] z (fun gm s10 s18 wr => ∃ q : Nat, q ≤ z ∧ gm = z - q ∧ s18 = .int .i64 q ∧ s10 = .bool true ∧ wr = w5)
       case atStart => exact ⟨0, by omega, by omega, rfl, rfl, rfl⟩
       case round =>
        obtain ⟨q, hq, rfl, rfl, rfl, rfl⟩ := hrel; by_cases hlt : q < z
        ·have hQ : (q : Int) < (z : Int) := by omega
         obtain ⟨g, rfl, hc⟩ := row_at HOLD.out (by omega); have c2 := hc _ _ (HH.out q hlt); clear hc; go_wp2_with fail
         go_roundg (z - (q + 1))
         case measure => omega
         case rel => exact ⟨q + 1, by omega, rfl, by go_num, rfl, rfl⟩
        ·obtain rfl : q = z := by omega
         go_wp2_with fail
         go_ret
         exact ⟨rfl, HOF⟩
end Go.Proofs.YtneojeidpfjpbaaGreatDoor.Lk
namespace Go.Proofs
open Go.Shelf
def Tryz.laysM171_ren : Go.Shelf.Ren := ⟨fun | 171 => 43 | 243 => 80 | 246 => 117 | 283 => 168 | 284 => 169 | 285 => 170 | 286 => 171 | 129 => 166 | 317 => 213 | 318 => 214 | 319 => 215 | 320 => 216 | 337 => 252 | 338 => 253 | n => n, fun | 3 => 3 | 9 => 9 | 2 => 2 | 4 => 4 | 171 => 239 | 0 => 0 | 53 => 26 | 37 => 130 | 5 => 5 | 173 => 240 | 212 => 279 | 51 => 22 | 20 => 20 | 213 => 280 | 46 => 131 | 232 => 311 | 233 => 312 | n => n, fun | 17 => 0 | 18 => 1 | 19 => 2 | n => n⟩
theorem Tryz.laysM171 : Go.Proofs.LaysM.n171 Tryz.prog Tryz.laysM171_ren := {
 mixed := by kernel_rfl
 f129 := Tryz.func166.trans (congrArg some (by kernel_rfl))
 f171 := Tryz.func43.trans (congrArg some (by kernel_rfl))
 f243 := Tryz.func80.trans (congrArg some (by kernel_rfl))
 f246 := Tryz.func117.trans (congrArg some (by kernel_rfl))
 f283 := Tryz.func168.trans (congrArg some (by kernel_rfl))
 f284 := Tryz.func169.trans (congrArg some (by kernel_rfl))
 f285 := Tryz.func170.trans (congrArg some (by kernel_rfl))
 f286 := Tryz.func171.trans (congrArg some (by kernel_rfl))
 f317 := Tryz.func213.trans (congrArg some (by kernel_rfl))
 f318 := Tryz.func214.trans (congrArg some (by kernel_rfl))
 f319 := Tryz.func215.trans (congrArg some (by kernel_rfl))
 f320 := Tryz.func216.trans (congrArg some (by kernel_rfl))
 f337 := Tryz.func252.trans (congrArg some (by kernel_rfl))
 f338 := Tryz.func253.trans (congrArg some (by kernel_rfl))
 t0 := Tryz.underlying0
 a0 := Tryz.isAgg0
 z0 := Tryz.sizeOf0
 v0 := Tryz.zeroValue0
 t2 := Tryz.underlying2
 a2 := Tryz.isAgg2
 z2 := Tryz.sizeOf2
 v2 := Tryz.zeroValue2
 t3 := Tryz.underlying3
 a3 := Tryz.isAgg3
 z3 := Tryz.sizeOf3
 v3 := Tryz.zeroValue3
 t4 := Tryz.underlying4
 a4 := Tryz.isAgg4
 z4 := Tryz.sizeOf4
 v4 := Tryz.zeroValue4
 t5 := Tryz.underlying5
 a5 := Tryz.isAgg5
 z5 := Tryz.sizeOf5
 v5 := Tryz.zeroValue5
 t9 := Tryz.underlying9
 a9 := Tryz.isAgg9
 z9 := Tryz.sizeOf9
 v9 := Tryz.zeroValue9
 t20 := Tryz.underlying20
 a20 := Tryz.isAgg20
 z20 := Tryz.sizeOf20
 v20 := Tryz.zeroValue20
 t37 := Tryz.underlying130
 a37 := Tryz.isAgg130
 z37 := Tryz.sizeOf130
 v37 := Tryz.zeroValue130
 t46 := Tryz.underlying131
 a46 := Tryz.isAgg131
 z46 := Tryz.sizeOf131
 v46 := Tryz.zeroValue131
 t51 := Tryz.underlying22
 a51 := Tryz.isAgg22
 z51 := Tryz.sizeOf22
 v51 := Tryz.zeroValue22
 t53 := Tryz.underlying26
 a53 := Tryz.isAgg26
 z53 := Tryz.sizeOf26
 v53 := Tryz.zeroValue26
 t171 := Tryz.underlying239
 a171 := Tryz.isAgg239
 z171 := Tryz.sizeOf239
 v171 := Tryz.zeroValue239
 t173 := Tryz.underlying240
 a173 := Tryz.isAgg240
 z173 := Tryz.sizeOf240
 v173 := Tryz.zeroValue240
 t212 := Tryz.underlying279
 a212 := Tryz.isAgg279
 z212 := Tryz.sizeOf279
 v212 := Tryz.zeroValue279
 t213 := Tryz.underlying280
 a213 := Tryz.isAgg280
 z213 := Tryz.sizeOf280
 t232 := Tryz.underlying311
 a232 := Tryz.isAgg311
 z232 := Tryz.sizeOf311
 v232 := Tryz.zeroValue311
 t233 := Tryz.underlying312
 a233 := Tryz.isAgg312
 z233 := Tryz.sizeOf312
 v233 := Tryz.zeroValue312
 g17 := by kernel_rfl
 g18 := by kernel_rfl
 g19 := by kernel_rfl
 i0 := by kernel_rfl
 i2 := by kernel_rfl
 i3 := by kernel_rfl
 i4 := by kernel_rfl
 i5 := by kernel_rfl
 i9 := by kernel_rfl
 i20 := by kernel_rfl
 i37 := by kernel_rfl
 i46 := by kernel_rfl
 i51 := by kernel_rfl
 i53 := by kernel_rfl
 i171 := by kernel_rfl
 i173 := by kernel_rfl
 i212 := by kernel_rfl
 i232 := by kernel_rfl
 i233 := by kernel_rfl
 m17 := by kernel_rfl
 m18 := by kernel_rfl
 m19 := by kernel_rfl }
open Go.RowKit Go.Sort Go.Lib in
theorem Tryz.strconv_Itoa (n : Int) (h0 : -9223372036854775808 ≤ n) (h1 : n ≤ 9223372036854775807) (w : World) (htab : Lib.TabIs Tryz.prog w "internal/strconv.uint64pow10" .u64 Lib.pow10Tab) :
  Calls Tryz.prog 43 #[.int .i64 n] w fun e w' => e = .returned (.string ⟨(Lib.itoa n).toArray⟩) ∧ ∃ k os, w' = grow (w.drewN k) os := Any.strconv_Itoa Tryz.laysM171 n h0 h1 w htab
end Go.Proofs
namespace Go.Proofs.YtneojeidpfjpbaaGreatDoor.Lk
open Go.RowKit Go.Sort Go.Proofs.YtneojeidpfjpbaaGreatDoor
abbrev PowTab (w : World) : Prop := Lib.TabIs Tryz.prog w "internal/strconv.uint64pow10" .u64 Lib.pow10Tab
theorem gPow : Tryz.prog.globalNamed "internal/strconv.uint64pow10" = some 0 := by kernel_rfl
theorem PowTab.later {w w' : World} (h : PowTab w) (hb : Below w.heap.size w w') : PowTab w' := Joins.tab_stays gPow h hb (Nat.le_refl _)
def itoaB (i : Int) : ByteArray := ⟨(Lib.itoa i).toArray⟩
theorem itoaB_size {i : Int} (h0 : -4611686018427387904 ≤ i) (hi : i ≤ 4611686018427387904) : (itoaB i).size ≤ 40 := by
 show (Lib.itoa i).length ≤ 40
 unfold Lib.itoa; by_cases h : i < 0
 ·rw [if_pos h, List.length_cons, Lib.decDigits_length]; have := Lib.nDigits_le20 i.natAbs (by omega); omega
 ·rw [if_neg h, Lib.decDigits_length]; have := Lib.nDigits_le20 i.toNat (by omega); omega
theorem itoa_is {i : Int} (h0 : -4611686018427387904 ≤ i) (hi : i ≤ 4611686018427387904) (w : World) (ht : PowTab w) :
  Calls Tryz.prog 43 #[.int .i64 i] w fun e w' => e = .returned (.string (itoaB i)) ∧ Below w.heap.size w w' := by
 refine (Tryz.strconv_Itoa i (by omega) (by omega) w ht).mono ?_; rintro e w' ⟨rfl, k, os, rfl⟩; exact ⟨rfl, rfl, rfl, rfl, by simp [grow], fun j hj => by simp [grow, Array.getElem?_append, hj]⟩
def signB (k i j : Int) : ByteArray := ((itoaB k ++ ⟨#[46]⟩ : ByteArray) ++ itoaB i ++ ⟨#[46]⟩ : ByteArray) ++ itoaB j
theorem sign_is {k i j : Int} (hk : -4611686018427387904 ≤ k ∧ k ≤ 4611686018427387904) (hi : -4611686018427387904 ≤ i ∧ i ≤ 4611686018427387904) (hj : -4611686018427387904 ≤ j ∧ j ≤ 4611686018427387904) (w : World) (ht : PowTab w) :
  Calls Tryz.prog 40 #[.int .i64 k, .int .i64 i, .int .i64 j] w fun e w' => e = .returned (.string (signB k i j)) ∧ Below w.heap.size w w' := by
 have z0 := itoaB_size hk.1 hk.2; have z1 := itoaB_size hi.1 hi.2; have z2 := itoaB_size hj.1 hj.2; have HM : Hid (signB k i j = ((itoaB k ++ ⟨#[46]⟩ : ByteArray) ++ itoaB i ++ ⟨#[46]⟩ : ByteArray) ++ itoaB j) := rfl; generalize signB k i j = mm at HM
 have C0 := hid (itoa_is hk.1 hk.2 w ht); have C1 : Hid (∀ w1, Below w.heap.size w w1 → Calls Tryz.prog 43 #[.int .i64 i] w1 fun e w' => e = .returned (.string (itoaB i)) ∧ Below w1.heap.size w1 w') := fun w1 hb => itoa_is hi.1 hi.2 w1 (ht.later hb)
 have C2 : Hid (∀ w1, Below w.heap.size w w1 → Calls Tryz.prog 43 #[.int .i64 j] w1 fun e w' => e = .returned (.string (itoaB j)) ∧ Below w1.heap.size w1 w') := fun w1 hb => itoa_is hj.1 hj.2 w1 (ht.later hb)
 generalize itoaB k = s0 at z0 HM C0
 generalize itoaB i = s1 at z1 HM C1
 generalize itoaB j = s2 at z2 HM C2
 clear ht; have k1 : (9223372036854775807 < s0.size + 1) = False := by simp; omega
 have k2 : (9223372036854775807 < s0.size + 1 + s1.size) = False := by simp; omega
 have k3 : (9223372036854775807 < s0.size + 1 + s1.size + 1) = False := by simp; omega
 have k4 : (9223372036854775807 < s0.size + 1 + s1.size + 1 + s2.size) = False := by simp; omega
 go_enter Tryz.func40, Tryz.ntmps40
 go_wp2_with fail
 refine C0.out.mono ?_; rintro e w1 ⟨rfl, hb1⟩; have HB1 := hid hb1; clear hb1; go_wp2_with fail
 refine (C1.out w1 HB1.out).mono ?_; rintro e w2 ⟨rfl, hb2⟩; have HB2 := hid (Below.on HB1.out hb2); clear hb2; go_wp2_with fail
 refine (C2.out w2 HB2.out).mono ?_; rintro e w3 ⟨rfl, hb3⟩; have HB3 := hid (Below.on HB2.out hb3); clear hb3; go_wp2_with fail
 go_ret
 exact ⟨by rw [HM.out]; rfl, HB3.out⟩
end Go.Proofs.YtneojeidpfjpbaaGreatDoor.Lk
