import Derived.Test.YtmhpakbkmddfeaaIRise
namespace Go.Proofs.Ytmhpakbkmddfeaa
open Go.RowKit Go.Sort Go.Shelf
set_option linter.unusedVariables false
attribute [local go_sem] Oper.semAt_some

/-- a list whose first i and last i have changed places -/
def turnT (zs : List ByteArray) (i : Nat) : List ByteArray := (List.range zs.length).map fun t => if t < i ∨ zs.length - i ≤ t then nthT zs (zs.length - 1 - t) else nthT zs t
theorem turnT_len (zs : List ByteArray) (i : Nat) : (turnT zs i).length = zs.length := by simp [turnT]
theorem turnT_at {zs : List ByteArray} {i t : Nat} (h : t < zs.length) : (turnT zs i)[t]? = some (if t < i ∨ zs.length - i ≤ t then nthT zs (zs.length - 1 - t) else nthT zs t) := by
  simp [turnT, List.getElem?_range h]
theorem nthT_at {zs : List ByteArray} {t : Nat} (h : t < zs.length) : zs[t]? = some (nthT zs t) := by rw [nthT, List.getElem?_eq_getElem h]; rfl
theorem turnT_zero (zs : List ByteArray) : turnT zs 0 = zs := by
  refine List.ext_getElem? fun t => ?_
  by_cases h : t < zs.length
  · rw [turnT_at h, nthT_at h, if_neg (by omega)]
  · rw [List.getElem?_eq_none (by rw [turnT_len]; omega), List.getElem?_eq_none (by omega)]
theorem turnT_step {zs : List ByteArray} {i j : Nat} (hij : i < j) (hj : i + j + 1 = zs.length) : ((turnT zs i).set i (nthT zs j)).set j (nthT zs i) = turnT zs (i + 1) := by
  refine List.ext_getElem? fun t => ?_
  by_cases h : t < zs.length
  · rw [List.getElem?_set, List.getElem?_set, turnT_at h, turnT_at h, List.length_set, turnT_len]
    by_cases h1 : j = t
    · subst h1
      rw [if_pos rfl, if_pos h, if_pos (by omega), show zs.length - 1 - j = i by omega]
    · rw [if_neg h1]
      by_cases h2 : i = t
      · subst h2
        rw [if_pos rfl, if_pos h, if_pos (by omega), show zs.length - 1 - i = j by omega]
      · rw [if_neg h2]
        congr 1
        by_cases h3 : t < i ∨ zs.length - i ≤ t
        · rw [if_pos h3, if_pos (by omega)]
        · rw [if_neg h3, if_neg (by omega)]
  · rw [List.getElem?_eq_none (by simp [turnT_len]; omega), List.getElem?_eq_none (by rw [turnT_len]; omega)]
theorem turnT_end {zs : List ByteArray} {i : Nat} (h : zs.length ≤ 2 * i + 1) (hi : i ≤ zs.length) : turnT zs i = zs.reverse := by
  refine List.ext_getElem? fun t => ?_
  by_cases ht : t < zs.length
  · rw [turnT_at ht, List.getElem?_reverse ht, nthT_at (show zs.length - 1 - t < zs.length by omega)]
    by_cases h3 : t < i ∨ zs.length - i ≤ t
    · rw [if_pos h3]
    · rw [if_neg h3, show zs.length - 1 - t = t by omega]
  · rw [List.getElem?_eq_none (by rw [turnT_len]; omega), List.getElem?_eq_none (by simp; omega)]
theorem turnT_lo {zs : List ByteArray} {i j : Nat} (hij : i < j) (hj : i + j + 1 = zs.length) : (turnT zs i)[i]? = some (nthT zs i) := by
  rw [turnT_at (by omega), if_neg (by omega)]
theorem turnT_hi {zs : List ByteArray} {i j : Nat} (hij : i < j) (hj : i + j + 1 = zs.length) : (turnT zs i)[j]? = some (nthT zs j) := by
  rw [turnT_at (by omega), if_neg (by omega)]

set_option maxRecDepth 100000 in
set_option maxHeartbeats 4000000 in
theorem fall_is {w : World} {p : Nat} {l : List En} (h : Xi w p l) (lo hi : ByteArray) (hn : l.length * 16 ≤ 70368744177664) :
    Calls Try.prog 21 #[.pointer (some ⟨p, 0, none⟩), .agg #[.string lo, .string hi]] w fun e w' =>
      ∃ ka kc, e = .returned (.slice ka (rangeX l lo hi).length kc) ∧ w'.ownsRow w.heap.size 9 1 (.slice ka (rangeX l lo hi).length kc) (rangeX l lo hi).length (txs (rangeX l lo hi)) ∧ Below w.heap.size w w' := by
  refine (callsIn_wide (n := 5)).1 ?_
  obtain ⟨i0, hi0, hz0, hz1, hz2⟩ := info_parts infoStr
  have hb0 : Below w.heap.size w ((w.alloc (.cells #[.string lo, .string hi] 32)).alloc (.cells #[.slice none 0 0] 29)) := Below.al (Below.al (Below.refl _ _) _) _
  have RG := hid (back_is (h.later hb0) lo hi)
  refine callsIn_of_wp_marks Try.func21 rfl trivial ?_ rfl
  simp only [Try.ntmps21, List.size_toArray, List.length_cons, List.length_nil, Nat.reduceAdd, Nat.reduceSub, Array.replicate_succ, Array.replicate_zero, List.push_toArray, List.append_toArray, List.nil_append, List.cons_append]
  gi_wp2_with ((try refine ⟨trivial, ?_⟩); gi_at_call 38; refine (callsIn_wide.2 RG.out).mono ?_; rintro e w1 ⟨R, B, rfl, hit, hb1, hR, hB⟩)
  rename_i Q1 K1 hK1
  have bO := Boxed.new (w.alloc (.cells #[.string lo, .string hi] 32)) 29 (.slice none 0 0)
  rw [World.size_alloc] at bO
  have bO1 : Boxed w1 (w.heap.size + 1) 29 (.slice none 0 0) := (hb1.block _ bO.lt).trans bO
  have hB0 : Below w.heap.size w w1 := Below.on hb0 hb1
  have hs1 : w.heap.size + 1 < w1.heap.size := bO1.lt
  have hxs : (rangeX l lo hi).length ≤ l.length := List.length_filter_le _ _
  clear RG hR hB hb1 bO h
  refine wpIn_rangeFunc_ownG rfl (by decide) (gf := 59) (lb := #[.pointer (some ⟨R, 0, none⟩), .pointer (some ⟨B, 0, none⟩)]) rfl trivial (enters_of Try.func59 (by kernel_rfl) rfl)
    (back_stops (5 - 1) hit) kp_t kp_b (Below.refl _ _) (fun _ => rfl)
    (fun pre W => (∃ v, Boxed W (w.heap.size + 1) 29 v ∧ W.ownsRow w.heap.size 9 1 v pre.length (txs (pre.map (fun x => x.1))) ∧ True) ∧ Below w.heap.size w W)
    (fun _ _ _ => False)
    (OwnFrom.and (Own.from (holdsRow_own w.heap.size (w.heap.size + 1) 29 9 1 (fun pre : List (Of (rangeX l lo hi).reverse) => pre.length) (fun pre => txs (pre.map (fun x => x.1))) (fun _ _ => True)) _) (ownFrom_below (Nat.le_refl _) (by omega)))
    (fun _ _ _ _ _ hs _ _ => hs)
    ⟨⟨_, bO1, World.ownsRow_nil _ _ _ _, trivial⟩, hB0⟩
    (fun x => { tmps := #[.pointer (some ⟨p, 0, none⟩), .agg #[.string lo, .string hi], undef, .pointer (some ⟨w.heap.size, 0, none⟩), .slice none 0 0, .pointer (some ⟨w.heap.size + 1, 0, none⟩), .string x.1.1, undef, undef, undef, .pointer (some ⟨p, 0, none⟩), .agg #[.string lo, .string hi], itv 59 R B, .string x.1.1, .int .i64 x.1.2, undef, undef, undef, undef, undef, undef, undef, undef, undef, undef, undef, undef, undef, undef, undef, undef, undef, undef, undef, undef, undef, undef, undef, undef, undef, undef, undef, undef, undef, undef], defers := [] }) ?assign ?body ?done ?stop
  case assign =>
    intro y x W K hK
    gi_wp2
    exact hK
  case body =>
    rintro y pre x W ⟨⟨v, hv, hrow, -⟩, hB⟩ hlt
    have hc := hv.cell
    have hsz := hB.size
    rw [List.length_reverse] at hlt
    have g1 : pre.length + 1 ≤ maxLen := by unfold maxLen; omega
    have g2 : (pre.length + 1) * 16 ≤ 140737488355328 := by omega
    gi_wp2_with (gi_at_builtin; refine wpListIn_append_own _ rfl _ _ 29 rfl w.heap.size 9 i0 (.string ⟨#[]⟩) 1 16 Try.underlying29 hi0 hz0 hz1 hz2 rfl (by decide) _ _ _ rfl (hrow.alloc _) ⟨W.heap.size, 0, none⟩ 1 1 [.string x.1.1] rfl rfl (cell_one_new _ _ _) (by simp [Value.oneCell']) g1 g2 (by simp; omega) ?_; intro v' w2 hown' hgrow _; obtain ⟨g', cap', rfl⟩ := ownsRow_succ hown'; have hkp := kp_appended (v' := .slice (some ⟨g', 0, none⟩) (pre.length + 1) cap') hv hrow hgrow (not_ixt rfl) (not_ixt rfl); obtain ⟨hv1, hv2, hr2, hk2, hb2⟩ := hv.appended (by decide) hrow hB.size (by omega) hown' hgrow; have hc1 := hv1.cell; have hf1 := hv1.frozen)
    exact ⟨hk2.from _, hkp, ⟨_, hv2, by simpa [txs] using hr2, trivial⟩, hB.trans hb2⟩
  case done =>
    rintro D ys W hD hys ⟨⟨v, hv, hrow, -⟩, hB⟩ hK
    have hyl : ys.length = (rangeX l lo hi).length := by have := congrArg List.length hys; simpa using this
    rw [hys, hyl] at hrow
    have hD' : w.heap.size ≤ D := by omega
    clear hys hyl hD hit bO1 hB0 hs1 hb0 hi0 hz0 hz1 hz2
    obtain ⟨zs, hzs⟩ : ∃ zs, zs = (rangeX l lo hi).reverse.map (fun e => e.1) := ⟨_, rfl⟩
    have hzn : zs.length = (rangeX l lo hi).length := by rw [hzs]; simp
    have htx : txs (rangeX l lo hi).reverse = zs.map Value.string := by rw [hzs]; simp [txs]
    have hfin : zs.reverse.map Value.string = txs (rangeX l lo hi) := by rw [hzs]; simp [txs]
    obtain ⟨n, hnn⟩ : ∃ n, n = (rangeX l lo hi).length := ⟨_, rfl⟩
    rw [htx] at hrow
    rw [← hnn] at hrow hzn hxs
    have HN := hid hnn
    have HF := hid hfin
    have HZ := hid hzn
    clear htx hfin hzs hnn hzn
    refine hK1 _ _ ?_
    refine wpIn_wide.2 ?_
    obtain ⟨ka, kc, rfl⟩ := owns_slice hrow
    have hc := hv.cell
    have HV := hid hv
    have HR := hid hrow
    have HBW := hid hB
    have HKD := hid hK
    have hw1 : IntKind.i64.wrap ((n : Int) - 1) = (n : Int) - 1 := by rw [IntKind.wrap_i64]; omega
    have HT0 : Hid (turnT zs 0 = zs) := turnT_zero zs
    clear hv hrow hB hK
    go_wp2_with fail
    go_quiet (fail)
    go_wp2_with fail
    go_loopg [7, 8] n (fun gg s7 s8 wr => ∃ i : Nat, 2 * i ≤ n + 1 ∧ i ≤ n ∧ gg = n - i ∧ s7 = .int .i64 i ∧ s8 = .int .i64 ((n : Int) - 1 - i) ∧ Hid (wr.ownsRow w.heap.size 9 1 (.slice ka n kc) n ((turnT zs i).map Value.string)) ∧ Hid (Boxed wr (w.heap.size + 1) 29 (.slice ka n kc)) ∧ Hid (Below w.heap.size w wr) ∧ Hid (wr.heap[D]? = some (.deferred (some []))))
    case atStart => exact ⟨0, by omega, by omega, by omega, rfl, by simp, by rw [HT0.out]; exact HR.out, HV.out, Below.drewN HBW.out _, HKD.out⟩
    case round =>
      obtain ⟨i, hi2, hin, rfl, rfl, rfl, HRi, HVi, HBi, HKi⟩ := hrel
      clear HR HV HBW HKD hc
      have c0 := HVi.out.cell
      by_cases hlt : 2 * i + 1 < n
      · obtain ⟨g, cap, hv0⟩ : ∃ g cap, Value.slice ka n kc = .slice (some ⟨g, 0, none⟩) n cap := by
          rcases HRi.out.2 with ⟨h1, h2⟩ | ⟨g, cap, _, h1, _⟩
          · omega
          · exact ⟨g, cap, h1⟩
        injection hv0 with h1 _ h3
        subst h1 h3
        obtain ⟨jj, hjj⟩ : ∃ jj : Nat, jj = n - 1 - i := ⟨_, rfl⟩
        have hzl : zs.length = n := HZ.out
        have hij : i < jj := by omega
        have hsum : i + jj + 1 = zs.length := by omega
        have ci : wr.cell? ⟨g, i, none⟩ = some (.string (nthT zs i)) := by rw [HRi.out.cellAt i (by omega), List.getElem?_map, turnT_lo hij hsum]; rfl
        have cj : wr.cell? ⟨g, jj, none⟩ = some (.string (nthT zs jj)) := by rw [HRi.out.cellAt jj (by omega), List.getElem?_map, turnT_hi hij hsum]; rfl
        have fi := HRi.out.frozenAt i
        have fj := HRi.out.frozenAt jj
        have HST : Hid (((turnT zs i).set i (nthT zs jj)).set jj (nthT zs i) = turnT zs (i + 1)) := turnT_step hij hsum
        obtain ⟨xi, hxi⟩ : ∃ x, x = nthT zs i := ⟨_, rfl⟩
        obtain ⟨xj, hxj⟩ : ∃ x, x = nthT zs jj := ⟨_, rfl⟩
        rw [← hxi] at ci HST
        rw [← hxj] at cj HST
        have hgne : w.heap.size + 1 ≠ g := fun e => by
          have := HVi.out.not_row (by decide) HRi.out
          rw [e] at this
          exact this rfl
        have hj8 : ((n : Int) - 1 - i) = (jj : Int) := by omega
        have HJ := hid hjj
        have hjn : (jj : Int) < (n : Int) := by omega
        have hin' : (i : Int) < (n : Int) := by omega
        have hij' : (i : Int) < (jj : Int) := by omega
        have hwj : IntKind.i64.wrap ((jj : Int) - 1) = (jj : Int) - 1 := by rw [IntKind.wrap_i64]; omega
        have hne : (⟨g, i, none⟩ : Addr) ≠ ⟨g, jj, none⟩ := fun e => by injection e; omega
        rw [hj8]
        clear hxi hxj hjj hzl hsum hj8
        go_wp2_with fail
        go_region
        go_wp2_with fail
        have r1 := HRi.out.stored i (.string xj)
        have r2 := r1.1.stored jj (.string xi)
        have rw3 : (((turnT zs i).map Value.string).set i (.string xj)).set jj (.string xi) = (turnT zs (i + 1)).map Value.string := by rw [← HST.out, List.map_set, List.map_set]
        have b1 := HVi.out.kept r1.2 (fun e => hgne (by simpa using e))
        have b2 := b1.kept r2.2 (fun e => hgne (by simpa using e))
        have hgD : D ≠ g := fun e => by
          have h1 := HKi.out
          have h2 := cells_of_cell ci
          obtain ⟨o, ho, hoc⟩ := h2
          rw [e] at h1
          rw [show wr.heap[g]? = some o from ho] at h1
          cases h1; cases hoc
        have hD1 := (r1.2.block D (Array.getElem?_eq_some_iff.1 HKi.out).1 (fun e => hgD (by simpa using e))).trans HKi.out
        have hD2 := (r2.2.block D (Array.getElem?_eq_some_iff.1 hD1).1 (fun e => hgD (by simpa using e))).trans hD1
        have hge : w.heap.size ≤ g := (HRi.out.lt g rfl).1
        have hBf := Below.setCell (Below.setCell HBi.out (p := ⟨g, i, none⟩) hge (.string xj)) (p := ⟨g, jj, none⟩) hge (.string xi)
        rw [rw3] at r2
        go_roundg (n - (i + 1))
        case measure => omega
        case rel => exact ⟨i + 1, by omega, by omega, rfl, by go_num, by have := HJ.out; congr 1; omega, r2.1.drew, b2, Below.drew hBf, hD2⟩
      · have q1 : decide ((i : Int) < (n : Int) - 1 - i) = false := decide_eq_false (by omega)
        have HE : Hid (turnT zs i = zs.reverse) := turnT_end (by have := HZ.out; omega) (by have := HZ.out; omega)
        go_wp2_with fail
        refine ⟨by simp, .inl ⟨_, _, rfl, run_takeDeferred HKi.out, ?_⟩⟩
        have hfin := HRi.out
        rw [HE.out, HF.out] at hfin
        have hfin2 := ownsRow_putObj hfin (.deferred none) HKi.out rfl
        refine ⟨_, results_tmp rfl _ _ _, ka, kc, ?_, ?_, HBi.out.trans (belowK_b (w := w) (Nat.le_refl _) _ D _ _ hD' HKi.out rfl rfl)⟩
        · rw [← HN.out]; rfl
        · rw [← HN.out]; exact hfin2
  case stop =>
    rintro D c pre W _ _ h _
    exact h.elim

end Go.Proofs.Ytmhpakbkmddfeaa
