import Derived.Test.YthenfioddnkjbaaGreatDoorRyAll
import Derived.Test.YthenfioddnkjbaaGreatDoorRdRead
import Derived.Test.YthenfioddnkjbaaGreatDoorRxBoth
import Derived.Test.YthenfioddnkjbaaGreatDoorRzStep
/- read and Parse at any text. -/
namespace Go.Proofs.YthenfioddnkjbaaGreatDoor.Rt
open Go.RowKit Go.Sort Go.Stop Go.Extern.Stop
set_option linter.unusedVariables false

theorem owns_laterX {w w' : World} {B s n : Nat} {t : TypeId} {v : Value} {l : List Value} (h : w.ownsRow B t s v n l) (hb : Below w.heap.size w w') : w'.ownsRow B t s v n l := owns_keep h fun g hg => hb.block g (World.ownsRow.lt h g hg).2
theorem owns_baseX {w : World} {B B' s n : Nat} {t : TypeId} {v : Value} {l : List Value} (h : w.ownsRow B t s v n l) (hB : B' ≤ B) : w.ownsRow B' t s v n l := by
  obtain ⟨h1, h2 | ⟨g, cap, cur, hv, hg, r⟩⟩ := h
  · exact ⟨h1, .inl h2⟩
  · exact ⟨h1, .inr ⟨g, cap, cur, hv, Nat.le_trans hB hg, r⟩⟩
theorem owns_max {w : World} {B s n : Nat} {t : TypeId} {v : Value} {l : List Value} (h : w.ownsRow B t s v n l) : n ≤ 9223372036854775807 := by
  rcases h.2 with ⟨_, h0⟩ | ⟨g, cap, cur, e, _, _, h1, h2, _⟩
  · omega
  · unfold maxLen at h2; omega
theorem smallN_le (n : Nat) : smallN n ≤ 1048577 := by unfold smallN; split <;> omega
def ReadX (wg : World) (a b : Addr) (r : Nat × Dr) (e : Ending) (w' : World) : Prop := Below wg.heap.size wg w' ∧ ((parA r = 0 ∧ ∃ va vc, e = .returned (.tuple #[(r.2.cf va vc).val, .nilIface]) ∧ w'.ownsRow wg.heap.size 9 1 (.slice va r.2.sp.length vc) r.2.sp.length (r.2.sp.map fun s => .string (ofNats s))) ∨ (parA r = 120 ∧ ∃ l, e = .returned (.tuple #[zeroC, fltV l (errV a)])) ∨ (parA r = 1 ∧ ∃ l, e = .returned (.tuple #[zeroC, fltV l (errV b)])))
/-- what Parse answers at any text -/
def ParX (wg : World) (r : Nat × Dr) (e : Ending) (w' : World) : Prop := Below wg.heap.size wg w' ∧ ((parA r = 0 ∧ ∃ va vc, e = .returned (.tuple #[(r.2.cf va vc).val, .int .i64 0]) ∧ w'.ownsRow wg.heap.size 9 1 (.slice va r.2.sp.length vc) r.2.sp.length (r.2.sp.map fun s => .string (ofNats s))) ∨ (parA r ≠ 0 ∧ e = .returned (.tuple #[zeroC, .int .i64 (parA r : Nat)])))
set_option maxRecDepth 16000 in
set_option maxHeartbeats 4000000 in
theorem reason_limit (l : Int) {a b : Addr} {w : World} (h : Errs w a b) :
    Calls Tryz.prog 11 #[fltV l (errV b)] w fun e w' => e = .returned (.int .i64 1) ∧ Below w.heap.size w w' := by
  obtain ⟨wA, hwA⟩ : ∃ wA, wA = w.alloc (.cells #[.int .i64 0, .nilIface] 89) := ⟨_, rfl⟩
  have hbA : Below w.heap.size w wA := by rw [hwA]; (repeat (first | with_reducible exact Below.refl _ _ | with_reducible assumption | with_reducible refine Below.drew ?_ | with_reducible refine Below.al ?_ _ | with_reducible refine Below.setCell ?_ (by first | exact Nat.le_refl _ | (simp; omega) | (simp; done)) _ | with_reducible refine Below.on ?_ (by assumption)))
  have HA := hid (as_flt w.heap.size l (errV b) (.int .i64 0) .nilIface wA rfl (h.later hbA).typ (by rw [hwA]; simp) (by rw [hwA]; simp) (fun o => by rw [hwA]; simp [go_sem]))
  have HE := hid h
  have HBA := hid hbA
  have hsA : Hid (wA.heap.size = w.heap.size + 1) := hid (by rw [hwA]; simp)
  have HC : Hid (wA.cell? ⟨w.heap.size, 0, none⟩ = some (.int .i64 0) ∧ wA.cell? ⟨w.heap.size, 1, none⟩ = some .nilIface) := hid ⟨by rw [hwA]; simp, by rw [hwA]; simp⟩
  clear h hbA
  go_enter Tryz.func11, Tryz.ntmps11
  go_wp2_with fail
  rw [← hwA]
  clear hwA
  refine HA.out.mono ?_
  rintro e w1 ⟨rfl, w2, hb2, rfl⟩
  have HB2 := hid (HBA.out.trans (hb2.mono (by rw [hsA.out]; omega)))
  have k0 : ((w2.setCell ⟨w.heap.size, 0, none⟩ (.int .i64 l)).setCell ⟨w.heap.size, 1, none⟩ (errV b)).cell? ⟨w.heap.size, 0, none⟩ = some (.int .i64 l) := by
    rw [World.cell?_setCell_other (h := fun e => by have := congrArg Addr.off e; simp at this)]
    exact World.cell?_setCell_same _ _ _ (cell_later hb2 HC.out.1)
  have k1 : ((w2.setCell ⟨w.heap.size, 0, none⟩ (.int .i64 l)).setCell ⟨w.heap.size, 1, none⟩ (errV b)).cell? ⟨w.heap.size, 1, none⟩ = some (errV b) := by
    have h1 : (w2.setCell ⟨w.heap.size, 0, none⟩ (.int .i64 l)).cell? ⟨w.heap.size, 1, none⟩ = some .nilIface := by
      rw [World.cell?_setCell_other (h := fun e => by have := congrArg Addr.off e; simp at this)]
      exact cell_later hb2 HC.out.2
    exact World.cell?_setCell_same _ _ _ h1
  obtain ⟨w3, hw3⟩ : ∃ w3, w3 = (w2.setCell ⟨w.heap.size, 0, none⟩ (.int .i64 l)).setCell ⟨w.heap.size, 1, none⟩ (errV b) := ⟨_, rfl⟩
  have hb3 : Below w.heap.size w w3 := by rw [hw3]; exact Below.setCell (Below.setCell HB2.out (p := ⟨w.heap.size, 0, none⟩) (Nat.le_refl _) _) (p := ⟨w.heap.size, 1, none⟩) (Nat.le_refl _) _
  rw [← hw3] at k0 k1 ⊢
  have hE3 := HE.out.later hb3
  have g1 := hE3.limit
  obtain ⟨ca, ta, ha⟩ := hE3.rowA
  obtain ⟨cb, tb, hB⟩ := hE3.rowB
  have HI := hid (is_flt_same l b w3)
  have HB3 := hid hb3
  clear hw3 hE3 ha hB hb3 hb2
  go_wp2_with fail
  refine HI.out.mono ?_
  rintro e w4 ⟨rfl, hb4⟩
  go_wp2_with fail
  go_ret
  exact ⟨rfl, Below.on HB3.out hb4⟩
set_option maxRecDepth 16000 in
set_option maxHeartbeats 4000000 in
theorem readX_long {w : World} {t : ByteArray} {a b : Addr} (hg : Gl w a b) (ht : 600 < t.size) (hb : t.size ≤ 9223372036854775807) :
    Calls Tryz.prog 10 #[.string t] w (ReadX w a b (1, Dr.none)) := by
  have g0 : (w.alloc (.cells #[.int .i64 0, .int .i64 0, .slice none 0 0, .int .i64 0, .int .i64 0, .int .u64 0] 26)).cell? ⟨0, 0, none⟩ = some (errV a) := cell_later (Below.al (Below.refl _ _) _) hg.errs.form
  clear hg
  have h6 : (600 : Int) < (t.size : Int) := by omega
  go_enter Tryz.func10, Tryz.ntmps10
  go_upto_region 2 with fail
  go_region
  all_goals go_wp2_with fail
  all_goals (refine bodyPost_ret (v := .tuple #[zeroC, fltV 0 (errV a)]) (by simp [results, Tryz.results10, go_sem, zeroC]) rfl ⟨by (repeat (first | with_reducible exact Below.refl _ _ | with_reducible assumption | with_reducible refine Below.drew ?_ | with_reducible refine Below.al ?_ _ | with_reducible refine Below.setCell ?_ (by first | exact Nat.le_refl _ | (simp; omega) | (simp; done)) _ | with_reducible refine Below.on ?_ (by assumption))), .inr (.inl ⟨rfl, 0, rfl⟩)⟩)
set_option maxRecDepth 16000 in
set_option maxHeartbeats 4000000 in
theorem read_any {w : World} {t : ByteArray} {a b x y : Addr} {r : Nat × Dr} (hg : Gx w a b x y) (ht : t.size ≤ 600) (hr : runL (lns t.data.toList) Dr.none false = r)
    (hc : (lns t.data.toList).length ≤ 1000) :
    Calls Tryz.prog 10 #[.string t] w (ReadX w a b r) := by
  obtain ⟨m, hm⟩ := hg.gl.max
  obtain ⟨ls, hls⟩ : ∃ ls, ls = Lib.splitB ⟨#[10]⟩ 0 (Lib.countB t ⟨#[10]⟩) t := ⟨_, rfl⟩
  have hlen : ls.length = Lib.countB t ⟨#[10]⟩ + 1 := by rw [hls]; exact Lib.splitB_all _ (by decide) _ _ _ rfl
  have hmap : ls.map (·.data.toList) = lns t.data.toList := by rw [hls]; exact split_is t
  have hll : ls.length ≤ 1000 := by have := congrArg List.length hmap; rw [List.length_map] at this; omega
  obtain ⟨wd, hwd⟩ : ∃ wd, wd = (w.alloc (.cells #[.int .i64 0, .int .i64 0, .slice none 0 0, .int .i64 0, .int .i64 0, .int .u64 0] 26)).alloc (.cells #[.bool false, .int .u64 0, .bool false, .int .u64 0, .bool false, .int .u64 0, .bool false, .int .u64 0, .bool false, .int .u64 0, .slice none 0 0] 93) := ⟨_, rfl⟩
  have hsd : wd.heap.size = w.heap.size + 1 + 1 := by rw [hwd]; simp
  have hbd : Below w.heap.size w wd := by rw [hwd]; (repeat (first | with_reducible exact Below.refl _ _ | with_reducible assumption | with_reducible refine Below.drew ?_ | with_reducible refine Below.al ?_ _ | with_reducible refine Below.setCell ?_ (by first | exact Nat.le_refl _ | (simp; omega) | (simp; done)) _ | with_reducible refine Below.on ?_ (by assumption)))
  obtain ⟨wl, hwl⟩ : ∃ wl, wl = wd.alloc (.cells (ls.map Value.string).toArray 9) := ⟨_, rfl⟩
  have hbl : Below wd.heap.size wd wl := by rw [hwl]; (repeat (first | with_reducible exact Below.refl _ _ | with_reducible assumption | with_reducible refine Below.drew ?_ | with_reducible refine Below.al ?_ _ | with_reducible refine Below.setCell ?_ (by first | exact Nat.le_refl _ | (simp; omega) | (simp; done)) _ | with_reducible refine Below.on ?_ (by assumption)))
  have SP := Tryz.strings_Split t ⟨#[10]⟩ m wd (by omega) (cell_later hbd hm) (by decide)
  rw [← hls, ← hwl, ← hlen] at SP
  have hrow : ∀ i, i < ls.length → wl.cell? ⟨wd.heap.size, i, none⟩ = some (.string (nthB ls i)) := fun i hi => by rw [hwl, hls]; rw [hls] at hi; exact split_cells i hi
  have S0 : StD w wl wl (w.heap.size + 1) Dr.none (.slice none 0 0) := by
    refine ⟨BoxD.later (w := wd) ?_ hbl, fun o => ?_, World.ownsRow_nil _ _ _ _, Onl.refl _ _, Below.on hbd hbl, fun k => by simp [Dr.none], ?_, Nat.le_succ _⟩
    · rw [hwd]
      constructor <;> simp [go_sem, Dr.none]
    · rw [hbl.frozen (p := ⟨w.heap.size + 1, o, none⟩) (by rw [hsd]; exact Nat.lt_succ_self _), hwd]
      simp [go_sem]
    · have := hbl.size; rw [hsd] at this; omega
  have TA := takeAll_any hg S0 (ls := ls) (g := wd.heap.size) (fun l hl => by
    have : l.data.toList ∈ lns t.data.toList := by rw [← hmap]; exact List.mem_map.2 ⟨l, hl, rfl⟩
    have h2 := lns_le _ _ this
    have h3 := Lib.size_eq t
    rw [Lib.size_eq]; omega) (by simp [Dr.none]; exact hll) hrow (by rw [hsd]; omega)
  rw [hmap, hr, hsd] at TA
  rw [hsd] at SP
  have HT := hid TA
  have HS := hid SP
  have HZ : Hid (wd.cell? ⟨w.heap.size, 0, none⟩ = some (.int .i64 0) ∧ wd.cell? ⟨w.heap.size, 1, none⟩ = some (.int .i64 0) ∧ wd.cell? ⟨w.heap.size, 2, none⟩ = some (.slice none 0 0) ∧ wd.cell? ⟨w.heap.size, 3, none⟩ = some (.int .i64 0) ∧ wd.cell? ⟨w.heap.size, 4, none⟩ = some (.int .i64 0) ∧ wd.cell? ⟨w.heap.size, 5, none⟩ = some (.int .u64 0) ∧ ∀ o, wd.frozen? ⟨w.heap.size, o, none⟩ = false) := hid (by
    rw [hwd]
    refine ⟨by simp [go_sem], by simp [go_sem], by simp [go_sem], by simp [go_sem], by simp [go_sem], by simp [go_sem], fun o => by simp [go_sem]⟩)
  have HBL := hid hbl
  have HSD := hid hsd
  have HG := hid hg
  clear TA SP S0 hrow hwl hbl hsd hbd hls hlen hmap hr hc hm
  have h6 : ¬ (600 : Int) < (t.size : Int) := by omega
  go_enter Tryz.func10, Tryz.ntmps10
  go_wp2_with fail
  rw [← hwd]
  clear hwd
  refine HS.out.mono ?_
  rintro e w1 ⟨rfl, rfl⟩
  go_wp2_with fail
  refine HT.out.mono ?_
  rintro e w2 h2
  have HC : Hid (∀ wz, Onl (fun k => k = w.heap.size + 1) w1 wz → (wz.cell? ⟨w.heap.size, 0, none⟩ = some (.int .i64 0) ∧ wz.cell? ⟨w.heap.size, 1, none⟩ = some (.int .i64 0) ∧ wz.cell? ⟨w.heap.size, 2, none⟩ = some (.slice none 0 0) ∧ wz.cell? ⟨w.heap.size, 3, none⟩ = some (.int .i64 0) ∧ wz.cell? ⟨w.heap.size, 4, none⟩ = some (.int .i64 0) ∧ wz.cell? ⟨w.heap.size, 5, none⟩ = some (.int .u64 0)) ∧ ∀ o, wz.frozen? ⟨w.heap.size, o, none⟩ = false) := hid (fun wz h => by
    obtain ⟨z0, z1, z2, z3, z4, z5, zf⟩ := HZ.out
    have hn : ¬ (w.heap.size = w.heap.size + 1) := by omega
    have hl : w.heap.size < wd.heap.size := by rw [HSD.out]; omega
    refine ⟨⟨h.cell hn (cell_later HBL.out z0), h.cell hn (cell_later HBL.out z1), h.cell hn (cell_later HBL.out z2), h.cell hn (cell_later HBL.out z3), h.cell hn (cell_later HBL.out z4), h.cell hn (cell_later HBL.out z5)⟩, h.loose hn (Nat.lt_of_lt_of_le hl HBL.out.size) fun o => ?_⟩
    rw [HBL.out.frozen (p := ⟨w.heap.size, o, none⟩) hl]
    exact zf o)
  rcases h2 with ⟨hr0, rfl, v, hst⟩ | ⟨⟨hr1, l, rfl⟩, hb2, ho2⟩ | ⟨⟨hr1, l, rfl⟩, hb2, ho2⟩
  · obtain ⟨va, vc, rfl, hbase, hrow⟩ := row_owned hst.row
    have HBS := hid hbase
    clear hbase
    have HF := hid (config_is hst.box hst.num)
    obtain ⟨c, hc⟩ : ∃ c, c = r.2.cf va vc := ⟨_, rfl⟩
    obtain ⟨ok, hokc⟩ : ∃ ok, c.okB = ok := ⟨_, rfl⟩
    have HKC : Hid ((r.2.cf none 0).okB = ok) := hid (by rw [← hokc, hc]; rfl)
    have HRW := hid hst.row
    have hcsh : c.sh = (smallN ((r.2.f 0).getD 0) : Nat) := by rw [hc]; rfl
    have HROW := hid hrow
    have hcs : c.ss = r.2.sp.map ofNats := by rw [hc]; rfl
    have hca : c.a = va := by rw [hc]; rfl
    have hcv : c.val = (r.2.cf va vc).val := by rw [hc]
    have hlc : c.ss.length = r.2.sp.length := by rw [hcs, List.length_map]
    have HO : Hid (∀ wz, Below w2.heap.size w2 wz → c.Ok wz) := hid (fun wz hb => by
      have h5 : c.ss.length ≤ 9223372036854775807 := by rw [hlc]; exact owns_max HRW.out
      have h6 := smallN_le ((r.2.f 0).getD 0)
      refine ⟨?_, h5, by omega⟩
      rw [hcs, hca]; exact hrow.later hb)
    have HV : Hid (c.val = .agg #[.int .i64 (smallN ((r.2.f 0).getD 0) : Nat), .int .i64 (smallN ((r.2.f 1).getD 0) : Nat), .slice va r.2.sp.length vc, .int .i64 (smallN ((r.2.f 2).getD 0) : Nat), .int .i64 (smallN ((r.2.f 3).getD 0) : Nat), .int .u64 ((r.2.f 4).getD 0 : Nat)]) := hid (by
      rw [hcv]
      show Value.agg #[_, _, .slice va (r.2.sp.map ofNats).length vc, _, _, _] = _
      rw [List.length_map]
      rfl)
    rw [← HV.out] at HF
    have HST := hid hst
    have HOK2 := hid hokc
    have HCV := hid hcv
    have HR0 := hid hr0
    clear hrow hst hokc hcs hca hcv hlc hc hr0 hcsh
    obtain ⟨sh, cl, ca, cp, ss, cca, cpk, cwi⟩ := c
    go_wp2_with fail
    refine HF.out.mono ?_
    rintro e w3 ⟨rfl, hb3⟩
    obtain ⟨wb, hwb⟩ : ∃ wb, wb = w3.alloc (.cells #[.int .i64 sh, .int .i64 cl, .slice ca ss.length cp, .int .i64 cca, .int .i64 cpk, .int .u64 cwi] 26) := ⟨_, rfl⟩
    have hb3b : Below w3.heap.size w3 wb := by rw [hwb]; (repeat (first | with_reducible exact Below.refl _ _ | with_reducible assumption | with_reducible refine Below.drew ?_ | with_reducible refine Below.al ?_ _ | with_reducible refine Below.setCell ?_ (by first | exact Nat.le_refl _ | (simp; omega) | (simp; done)) _ | with_reducible refine Below.on ?_ (by assumption)))
    have HM := hid (mayBe_is (HO.out wb (Below.on hb3 hb3b)) HOK2.out)
    have HX : Hid (BoxC wb w3.heap.size ⟨sh, cl, ca, cp, ss, cca, cpk, cwi⟩) := hid (by rw [hwb]; exact BoxC.new w3 ⟨sh, cl, ca, cp, ss, cca, cpk, cwi⟩ _)
    have H3B := hid (Below.on hb3 hb3b)
    go_wp2_with fail
    rw [← hwb]
    refine HM.out.mono ?_
    rintro e w4 ⟨rfl, hb4⟩
    obtain ⟨x0, x1, x2, x3, x4, x5⟩ := HX.out.later hb4
    have hon := HST.out.onl.on (Below.on H3B.out hb4)
    obtain ⟨⟨z0, z1, z2, z3, z4, z5⟩, zf⟩ := HC.out w4 hon
    have HB4 := hid (Below.on HST.out.bel (Below.on H3B.out hb4))
    have HR4 := hid (owns_laterX HRW.out (Below.on H3B.out hb4))
    have HG4 := (HG.out.later (Below.on HST.out.bel (Below.on H3B.out hb4))).errs.limit
    simp only at x0 x1 x2 x3 x4 x5
    have HSZ : Hid (w4.heap.size > w.heap.size) := hid (World.block_lt_of_cell? _ _ z0)
    clear hon hb4 hb3 hb3b hwb HROW HO HM HX HF HST HV
    cases ok
    · have hgl := World.block_lt_of_cell? _ _ HG.out.errs.limit
      have hgn : (w.heap.size = 1) = False := eq_false (by have h9 : 1 < w.heap.size := hgl; omega)
      have hgm : (1 = w.heap.size) = False := eq_false (by have h9 : 1 < w.heap.size := hgl; omega)
      clear hgl
      go_upto_region 9 with fail
      go_region
      all_goals go_wp2_with fail
      all_goals refine bodyPost_ret (v := .tuple #[zeroC, fltV 0 (errV b)]) (by simp [results, Tryz.results10, go_sem, zeroC, z0, z1, z2, z3, z4, z5]) rfl ⟨?_, .inr (.inr ⟨by rw [parA, if_pos HR0.out, HKC.out]; rfl, 0, rfl⟩)⟩
      all_goals
        have hB := HB4.out
        (repeat (first | with_reducible exact Below.refl _ _ | with_reducible assumption | with_reducible refine Below.drew ?_ | with_reducible refine Below.al ?_ _ | with_reducible refine Below.setCell ?_ (by first | exact Nat.le_refl _ | (simp; omega) | (simp; done)) _ | with_reducible refine Below.on ?_ (by assumption)))
    · clear HG4
      go_wp2_with fail
      refine bodyPost_ret (v := .tuple #[(Cf.mk sh cl ca cp ss cca cpk cwi).val, .nilIface]) (by simp [results, Tryz.results10, go_sem, z0, z1, z2, z3, z4, z5]) rfl ⟨?_, .inl ⟨by rw [parA, if_pos HR0.out, HKC.out]; rfl, va, vc, by rw [HCV.out], ?_⟩⟩
      · have hB := HB4.out
        (repeat (first | with_reducible exact Below.refl _ _ | with_reducible assumption | with_reducible refine Below.drew ?_ | with_reducible refine Below.al ?_ _ | with_reducible refine Below.setCell ?_ (by first | exact Nat.le_refl _ | (simp; omega) | (simp; done)) _ | with_reducible refine Below.on ?_ (by assumption)))
      · have h2 := HBL.out.size
        have h3 := HSD.out
        refine owns_baseX (owns_keep HR4.out fun g hg => ?_) (by omega)
        have h1 := (World.ownsRow.lt HR4.out g hg).1
        repeat (with_reducible refine (Below.heap_setCell _ _ _ _ (by simp only [ne_eq]; omega)).trans ?_)
        rfl
  · obtain ⟨⟨z0, z1, z2, z3, z4, z5⟩, zf⟩ := HC.out w2 ho2
    have HB2 := hid hb2
    have HR1 := hid hr1
    clear hb2 ho2 hr1
    go_wp2_with fail
    refine bodyPost_ret (v := .tuple #[zeroC, fltV l (errV a)]) (by simp [results, Tryz.results10, go_sem, zeroC, z0, z1, z2, z3, z4, z5]) rfl ⟨?_, .inr (.inl ⟨by rw [parA, if_neg (by rw [HR1.out]; decide), if_pos HR1.out], l, rfl⟩)⟩
    have hB := HB2.out
    (repeat (first | with_reducible exact Below.refl _ _ | with_reducible assumption | with_reducible refine Below.drew ?_ | with_reducible refine Below.al ?_ _ | with_reducible refine Below.setCell ?_ (by first | exact Nat.le_refl _ | (simp; omega) | (simp; done)) _ | with_reducible refine Below.on ?_ (by assumption)))
  · obtain ⟨⟨z0, z1, z2, z3, z4, z5⟩, zf⟩ := HC.out w2 ho2
    have HB2 := hid hb2
    have HR1 := hid hr1
    clear hb2 ho2 hr1
    go_wp2_with fail
    refine bodyPost_ret (v := .tuple #[zeroC, fltV l (errV b)]) (by simp [results, Tryz.results10, go_sem, zeroC, z0, z1, z2, z3, z4, z5]) rfl ⟨?_, .inr (.inr ⟨by rw [parA, if_neg (by rw [HR1.out]; decide), if_neg (by rw [HR1.out]; decide)], l, rfl⟩)⟩
    have hB := HB2.out
    (repeat (first | with_reducible exact Below.refl _ _ | with_reducible assumption | with_reducible refine Below.drew ?_ | with_reducible refine Below.al ?_ _ | with_reducible refine Below.setCell ?_ (by first | exact Nat.le_refl _ | (simp; omega) | (simp; done)) _ | with_reducible refine Below.on ?_ (by assumption)))
set_option maxRecDepth 16000 in
set_option maxHeartbeats 4000000 in
/-- Parse, by what read answers -/
theorem parseX_of {w : World} {t : ByteArray} {a b : Addr} {r : Nat × Dr} (hg : Gl w a b) (hR : ∀ w0, Below w.heap.size w w0 → Calls Tryz.prog 10 #[.string t] w0 (ReadX w0 a b r)) :
    Calls Tryz.prog 4 #[.string t] w (ParX w r) := by
  obtain ⟨wd, hwd⟩ : ∃ wd, wd = w.alloc (.cells #[.int .i64 0, .int .i64 0, .slice none 0 0, .int .i64 0, .int .i64 0, .int .u64 0] 26) := ⟨_, rfl⟩
  have hbd : Below w.heap.size w wd := by rw [hwd]; (repeat (first | with_reducible exact Below.refl _ _ | with_reducible assumption | with_reducible refine Below.drew ?_ | with_reducible refine Below.al ?_ _ | with_reducible refine Below.setCell ?_ (by first | exact Nat.le_refl _ | (simp; omega) | (simp; done)) _ | with_reducible refine Below.on ?_ (by assumption)))
  have HR := hid (hR wd hbd)
  have HZ : Hid (BoxC wd w.heap.size ⟨0, 0, none, 0, [], 0, 0, 0⟩ ∧ ∀ o, wd.frozen? ⟨w.heap.size, o, none⟩ = false) := hid (by
    rw [hwd]
    exact ⟨BoxC.new w ⟨0, 0, none, 0, [], 0, 0, 0⟩ _, fun o => by simp [go_sem]⟩)
  have HS : Hid (w.heap.size < wd.heap.size) := hid (by rw [hwd]; simp)
  have HB := hid hbd
  have HG := hid (hg.later hbd)
  clear hR hbd hg
  go_enter Tryz.func4, Tryz.ntmps4
  go_wp2_with fail
  rw [← hwd]
  clear hwd
  refine HR.out.mono ?_
  rintro e w1 ⟨hb1, ⟨hr0, va, vc, rfl, hrow⟩ | ⟨hr1, l, rfl⟩ | ⟨hr1, l, rfl⟩⟩
  · obtain ⟨c, hc⟩ : ∃ c, c = r.2.cf va vc := ⟨_, rfl⟩
    rw [← hc]
    have HC := hid hc
    have HRC := hid hrow
    have HR0 := hid hr0
    obtain ⟨z0, z1, z2, z3, z4, z5⟩ := HZ.out.1.later hb1
    have zf : ∀ o, w1.frozen? ⟨w.heap.size, o, none⟩ = false := fun o => (hb1.frozen (p := ⟨w.heap.size, o, none⟩) HS.out).trans (HZ.out.2 o)
    have HB1 := hid (Below.on HB.out hb1)
    have HL1 : Hid (w.heap.size < w1.heap.size) := hid (Nat.lt_of_lt_of_le HS.out hb1.size)
    clear hc hr0 hrow hb1
    obtain ⟨sh, cl, ca, cp, ss, cca, cpk, cwi⟩ := c
    obtain ⟨wb, hwb⟩ : ∃ wb, wb = w1.alloc (.cells #[.int .i64 sh, .int .i64 cl, .slice ca ss.length cp, .int .i64 cca, .int .i64 cpk, .int .u64 cwi] 26) := ⟨_, rfl⟩
    have hbb : Below w1.heap.size w1 wb := by rw [hwb]; (repeat (first | with_reducible exact Below.refl _ _ | with_reducible assumption | with_reducible refine Below.drew ?_ | with_reducible refine Below.al ?_ _ | with_reducible refine Below.setCell ?_ (by first | exact Nat.le_refl _ | (simp; omega) | (simp; done)) _ | with_reducible refine Below.on ?_ (by assumption)))
    have y0 := cell_later hbb z0
    have y1 := cell_later hbb z1
    have y2 := cell_later hbb z2
    have y3 := cell_later hbb z3
    have y4 := cell_later hbb z4
    have y5 := cell_later hbb z5
    have yf : ∀ o, wb.frozen? ⟨w.heap.size, o, none⟩ = false := fun o => (hbb.frozen (p := ⟨w.heap.size, o, none⟩) HL1.out).trans (zf o)
    have HBB := hid hbb
    have HWB := hid hwb
    rw [hwb] at y0 y1 y2 y3 y4 y5 yf
    clear z0 z1 z2 z3 z4 z5 zf hbb
    go_wp2_with fail
    rw [← hwb] at y0 y1 y2 y3 y4 y5 ⊢
    refine bodyPost_ret (v := .tuple #[(Cf.mk sh cl ca cp ss cca cpk cwi).val, .int .i64 0]) (by simp [results, Tryz.results4, go_sem, y0, y1, y2, y3, y4, y5]) rfl ⟨?_, .inl ⟨HR0.out, va, vc, by rw [HC.out], ?_⟩⟩
    · have hB := Below.on HB1.out HBB.out
      (repeat (first | with_reducible exact Below.refl _ _ | with_reducible assumption | with_reducible refine Below.drew ?_ | with_reducible refine Below.al ?_ _ | with_reducible refine Below.setCell ?_ (by first | exact Nat.le_refl _ | (simp; omega) | (simp; done)) _ | with_reducible refine Below.on ?_ (by assumption)))
    · have h2 := HS.out
      have h0 := owns_laterX HRC.out HBB.out
      refine owns_baseX (owns_keep h0 fun g hg => ?_) (Nat.le_of_lt h2)
      have h1 := (World.ownsRow.lt h0 g hg).1
      repeat (with_reducible refine (Below.heap_setCell _ _ _ _ (by simp only [ne_eq]; omega)).trans ?_)
      rfl
  · obtain ⟨z0, z1, z2, z3, z4, z5⟩ := HZ.out.1.later hb1
    have zf : ∀ o, w1.frozen? ⟨w.heap.size, o, none⟩ = false := fun o => (hb1.frozen (p := ⟨w.heap.size, o, none⟩) HS.out).trans (HZ.out.2 o)
    have HB1 := hid (Below.on HB.out hb1)
    have HL1 : Hid (w.heap.size < w1.heap.size) := hid (Nat.lt_of_lt_of_le HS.out hb1.size)
    have HG1 := hid (HG.out.later hb1)
    have HR1 := hid hr1
    clear hb1 hr1
    obtain ⟨wb, hwb⟩ : ∃ wb, wb = w1.alloc (.cells #[.int .i64 0, .int .i64 0, .slice none 0 0, .int .i64 0, .int .i64 0, .int .u64 0] 26) := ⟨_, rfl⟩
    have hbb : Below w1.heap.size w1 wb := by rw [hwb]; (repeat (first | with_reducible exact Below.refl _ _ | with_reducible assumption | with_reducible refine Below.drew ?_ | with_reducible refine Below.al ?_ _ | with_reducible refine Below.setCell ?_ (by first | exact Nat.le_refl _ | (simp; omega) | (simp; done)) _ | with_reducible refine Below.on ?_ (by assumption)))
    have HRS := hid (reason_form l (HG1.out.later hbb).errs)
    have HBB := hid hbb
    clear hbb
    unfold zeroC
    go_wp2_with fail
    rw [← hwb]
    refine HRS.out.mono ?_
    rintro e w2 ⟨rfl, hb2⟩
    have hb12 := Below.on HBB.out hb2
    have y0 := cell_later hb12 z0
    have y1 := cell_later hb12 z1
    have y2 := cell_later hb12 z2
    have y3 := cell_later hb12 z3
    have y4 := cell_later hb12 z4
    have y5 := cell_later hb12 z5
    have yf : ∀ o, w2.frozen? ⟨w.heap.size, o, none⟩ = false := fun o => (hb12.frozen (p := ⟨w.heap.size, o, none⟩) HL1.out).trans (zf o)
    have HB2 := hid (Below.on HB1.out hb12)
    simp only [List.length_nil] at y0 y1 y2 y3 y4 y5
    clear z0 z1 z2 z3 z4 z5 zf hb2 hb12 hwb
    go_wp2_with fail
    refine bodyPost_ret (v := .tuple #[zeroC, .int .i64 120]) (by simp [results, Tryz.results4, go_sem, y0, y1, y2, y3, y4, y5, zeroC]) rfl ⟨?_, .inr ⟨by rw [HR1.out]; decide, by rw [HR1.out]; rfl⟩⟩
    have hB := HB2.out
    (repeat (first | with_reducible exact Below.refl _ _ | with_reducible assumption | with_reducible refine Below.drew ?_ | with_reducible refine Below.al ?_ _ | with_reducible refine Below.setCell ?_ (by first | exact Nat.le_refl _ | (simp; omega) | (simp; done)) _ | with_reducible refine Below.on ?_ (by assumption)))
  · obtain ⟨z0, z1, z2, z3, z4, z5⟩ := HZ.out.1.later hb1
    have zf : ∀ o, w1.frozen? ⟨w.heap.size, o, none⟩ = false := fun o => (hb1.frozen (p := ⟨w.heap.size, o, none⟩) HS.out).trans (HZ.out.2 o)
    have HB1 := hid (Below.on HB.out hb1)
    have HL1 : Hid (w.heap.size < w1.heap.size) := hid (Nat.lt_of_lt_of_le HS.out hb1.size)
    have HG1 := hid (HG.out.later hb1)
    have HR1 := hid hr1
    clear hb1 hr1
    obtain ⟨wb, hwb⟩ : ∃ wb, wb = w1.alloc (.cells #[.int .i64 0, .int .i64 0, .slice none 0 0, .int .i64 0, .int .i64 0, .int .u64 0] 26) := ⟨_, rfl⟩
    have hbb : Below w1.heap.size w1 wb := by rw [hwb]; (repeat (first | with_reducible exact Below.refl _ _ | with_reducible assumption | with_reducible refine Below.drew ?_ | with_reducible refine Below.al ?_ _ | with_reducible refine Below.setCell ?_ (by first | exact Nat.le_refl _ | (simp; omega) | (simp; done)) _ | with_reducible refine Below.on ?_ (by assumption)))
    have HRS := hid (reason_limit l (HG1.out.later hbb).errs)
    have HBB := hid hbb
    clear hbb
    unfold zeroC
    go_wp2_with fail
    rw [← hwb]
    refine HRS.out.mono ?_
    rintro e w2 ⟨rfl, hb2⟩
    have hb12 := Below.on HBB.out hb2
    have y0 := cell_later hb12 z0
    have y1 := cell_later hb12 z1
    have y2 := cell_later hb12 z2
    have y3 := cell_later hb12 z3
    have y4 := cell_later hb12 z4
    have y5 := cell_later hb12 z5
    have yf : ∀ o, w2.frozen? ⟨w.heap.size, o, none⟩ = false := fun o => (hb12.frozen (p := ⟨w.heap.size, o, none⟩) HL1.out).trans (zf o)
    have HB2 := hid (Below.on HB1.out hb12)
    simp only [List.length_nil] at y0 y1 y2 y3 y4 y5
    clear z0 z1 z2 z3 z4 z5 zf hb2 hb12 hwb
    go_wp2_with fail
    refine bodyPost_ret (v := .tuple #[zeroC, .int .i64 1]) (by simp [results, Tryz.results4, go_sem, y0, y1, y2, y3, y4, y5, zeroC]) rfl ⟨?_, .inr ⟨by rw [HR1.out]; decide, by rw [HR1.out]; rfl⟩⟩
    have hB := HB2.out
    (repeat (first | with_reducible exact Below.refl _ _ | with_reducible assumption | with_reducible refine Below.drew ?_ | with_reducible refine Below.al ?_ _ | with_reducible refine Below.setCell ?_ (by first | exact Nat.le_refl _ | (simp; omega) | (simp; done)) _ | with_reducible refine Below.on ?_ (by assumption)))
theorem lns_len : ∀ (l : List UInt8), (lns l).length ≤ l.length + 1
  | [] => by simp [lns]
  | x :: l => by
    have := lns_len l
    unfold lns
    repeat' split
    all_goals simp_all
    all_goals omega
theorem parse_any {w : World} {t : ByteArray} {a b x y : Addr} (hg : Gx w a b x y) (hb : t.size ≤ 9223372036854775807) :
    Calls Tryz.prog 4 #[.string t] w (ParX w (if t.size ≤ 600 then runL (lns t.data.toList) Dr.none false else (1, Dr.none))) := by
  by_cases h : t.size ≤ 600
  · rw [if_pos h]
    refine parseX_of hg.gl fun w0 h0 => read_any (hg.later h0) h rfl ?_
    have := lns_len t.data.toList
    have h3 := Lib.size_eq t
    omega
  · rw [if_neg h]
    exact parseX_of hg.gl fun w0 h0 => readX_long (hg.later h0).gl (by omega) hb
end Go.Proofs.YthenfioddnkjbaaGreatDoor.Rt
/- Parse and the document's Parse, alike. -/
namespace Go.Proofs.YthenfioddnkjbaaGreatDoor.Bg
open Go.RowKit Go.Sort Go.Stop Go.Proofs.YthenfioddnkjbaaGreatDoor Go.Proofs.YthenfioddnkjbaaGreatDoor.Rt
set_option linter.unusedVariables false

/-- what Parse answers: a configuration with keys of its own -/
def PA (C : Cf) (E : Nat) (wg : World) (e : Ending) (w' : World) : Prop := ∃ a k, e = .returned (.tuple #[(C.at a k).val, .int .i64 (E : Int)]) ∧ Hid (RowF elT w' wg.heap.size (.slice a C.ss.length k) C.ss) ∧ Below wg.heap.size wg w'
def RA (C : Cf) (E : Nat) (wg : World) (e : Ending) (w' : World) : Prop := ∃ a k, e = .returned (.tuple #[(C.at a k).val, .int .i64 (E : Int)]) ∧ Hid (RowS w' a C.ss) ∧ Below wg.heap.size wg w'
theorem flatT_is (l : List (List Nat)) : (l.map fun s => Value.string (ofNats s)) = elT.flat (l.map ofNats) := by
  induction l with
  | nil => rfl
  | cons x l ih => simp only [List.map_cons, El.flat, List.flatMap_cons] at ih ⊢; rw [ih]; rfl
theorem rparse_any {t : ByteArray} (hb : t.size ≤ 9223372036854775807) (w : World) :
    Calls Tryz.prog 14 #[.string t] w (RParP w (if t.size ≤ 600 then docR (lns t.data.toList) Sd.none else none)) := by
  by_cases h : t.size ≤ 600
  · rw [if_pos h]
    exact rparse_is rfl h
  · rw [if_neg h]
    exact rparse_long (by omega) hb
def zC : Cf := ⟨0, 0, none, 0, [], 0, 0, 0⟩
theorem parse_both (t : ByteArray) (hb : t.size ≤ 1048576) : ∃ C E, C.ss.length ≤ 1000 ∧ (∀ {a b x y : Addr} (w : World), Gx w a b x y → Calls Tryz.prog 4 #[.string t] w (PA C E w)) ∧ ∀ w : World, Calls Tryz.prog 14 #[.string t] w (RA C E w) := by
  obtain ⟨r, hr⟩ : ∃ r, r = (if t.size ≤ 600 then runL (lns t.data.toList) Dr.none false else (1, Dr.none)) := ⟨_, rfl⟩
  obtain ⟨o, ho⟩ : ∃ o, o = (if t.size ≤ 600 then docR (lns t.data.toList) Sd.none else none) := ⟨_, rfl⟩
  have hA : docA o = parA r ∧ (docA o = 0 → ∃ s, o = some s ∧ ∀ a c, r.2.cf a c = s.cf a c) := by
    by_cases h : t.size ≤ 600
    · rw [hr, ho, if_pos h, if_pos h]; exact par_doc _
    · rw [hr, ho, if_neg h, if_neg h]; exact ⟨rfl, fun h => by cases h⟩
  have c1 : ∀ {a b x y : Addr} (w : World), Gx w a b x y → Calls Tryz.prog 4 #[.string t] w (ParX w r) := fun w hg => by rw [hr]; exact parse_any hg (by omega)
  have c2 : ∀ w : World, Calls Tryz.prog 14 #[.string t] w (RParP w o) := fun w => by rw [ho]; exact rparse_any (by omega) w
  clear hr ho
  by_cases h0 : parA r = 0
  · obtain ⟨s, hs, hcf⟩ := hA.2 (hA.1.trans h0)
    refine ⟨r.2.cf none 0, 0, ?_, fun w hg => (c1 w hg).mono ?_, fun w => (c2 w).mono ?_⟩
    · by_cases hc : (r.2.cf none 0).okB = true
      · have := ok_len hc; omega
      · exfalso
        unfold parA at h0
        by_cases h1 : r.1 = 0
        · rw [if_pos h1, if_neg hc] at h0; cases h0
        · rw [if_neg h1] at h0
          by_cases h2 : r.1 = 1
          · rw [if_pos h2] at h0; cases h0
          · rw [if_neg h2] at h0; cases h0
    · rintro e w' ⟨hb, ⟨_, va, vc, rfl, hrow⟩ | ⟨hn, _⟩⟩
      · refine ⟨va, vc, rfl, hid ?_, hb⟩
        refine owns_rowF okT ?_
        rw [flatT_is] at hrow
        have e : (r.2.cf none 0).ss.length = r.2.sp.length := by show (r.2.sp.map ofNats).length = _; rw [List.length_map]
        rw [e]
        exact hrow
      · exact absurd h0 hn
    · rintro e w' ⟨hb, ⟨_, s', a, c, e1, rfl, _, hrow⟩ | ⟨hn, _⟩⟩
      · rw [hs] at e1
        injection e1 with e1
        subst e1
        refine ⟨a, c, ?_, hid ?_, hb⟩
        · rw [← hcf a c]; rfl
        · have e2 : (r.2.cf none 0).ss = s.sp.map ofNats := by rw [hcf none 0]; rfl
          rw [e2]; exact hrow
      · exact absurd (hA.1.trans h0) hn
  · refine ⟨zC, parA r, by simp [zC], fun w hg => (c1 w hg).mono ?_, fun w => (c2 w).mono ?_⟩
    · rintro e w' ⟨hb, ⟨hn, _⟩ | ⟨_, rfl⟩⟩
      · exact absurd hn h0
      · exact ⟨none, 0, rfl, hid (RowF.nil _ _), hb⟩
    · rintro e w' ⟨hb, ⟨hn, _⟩ | ⟨_, rfl⟩⟩
      · exact absurd (hA.1.symm.trans hn) h0
      · exact ⟨none, 0, by rw [hA.1]; rfl, hid (fun i hi => by simp [zC] at hi), hb⟩
end Go.Proofs.YthenfioddnkjbaaGreatDoor.Bg
