import Derived.Test.YtggmhodogfngdaaDoorGtDg
import Derived.Test.YtggmhodogfngdaaDoorGtDr
import Derived.Test.YtggmhodogfngdaaDoorGtPar
/- The document's Parse (written by mk_gtdp.py). -/
namespace Go.Proofs.YtggmhodogfngdaaDoor.Gt
open Go.Proofs.YtggmhodogfngdaaDoor Go.Proofs.YtggmhodogfngdaaDoor.Rt Go.RowKit Go.Sort
set_option linter.unusedVariables false
set_option linter.unusedSimpArgs false

theorem unT_ok {l : List Nat} (h8 : B8 l) : B8 (unT l) ∧ (unT l).length ≤ l.length := by
  unfold unT
  cases h : unword l with
  | none => exact ⟨b8_nil, by simp⟩
  | some x =>
    obtain ⟨h1, h2⟩ := word_unword h8 h
    have := word_ge x
    rw [h1] at this
    exact ⟨h2, this⟩
theorem unI_ok {A : List (List Nat)} (hA : TxOk A) (i : Nat) : B8 (unI A i) ∧ (unI A i).length ≤ 400 := by
  unfold unI
  cases h : A[i]? with
  | none => exact ⟨b8_nil, by simp⟩
  | some l =>
    have hl := hA l (List.mem_of_getElem? h)
    have h1 := unT_ok hl.1
    exact ⟨h1.1, by simp only; omega⟩
theorem numW_in (A : List (List Nat)) : -9223372036854775808 ≤ numW A ∧ numW A ≤ 9223372036854775807 := by
  unfold numW
  cases h : A[3]? with
  | none => simp
  | some l =>
    have := sumW_lt l
    simp only
    split <;> omega
theorem guess_ok {A : List (List Nat)} (hA : TxOk A) : (guessO A).Ok 1200 := by
  have u1 := unI_ok hA 1
  have u2 := unI_ok hA 2
  have hn := numW_in A
  unfold guessO
  simp only
  repeat' split
  all_goals exact ⟨by first | exact u1.1 | exact u2.1 | exact b8_nil, by first | exact u1.1 | exact u2.1 | exact b8_nil, by first | exact u1.1 | exact u2.1 | exact b8_nil, by first | exact u1.1 | exact u2.1 | exact b8_nil, by simp [Og.zero]; try omega, by first | exact hn.1 | (simp [Og.zero]; done), by first | exact hn.2 | (simp [Og.zero]; done), by simp [Og.zero], by simp [Og.zero]⟩
theorem parA_yes {s : List Nat} {o : Og} (h : opOf 400 s = some o) : parA s = (o, 0) := by unfold parA; rw [h]
theorem parA_no {s : List Nat} (h : opOf 400 s = none) : parA s = (Og.zero, 210) := by unfold parA; rw [h]

set_option maxHeartbeats 1000000 in
theorem dparse_long {s : List Nat} (hl : 400 < s.length) (hl2 : s.length ≤ 9223372036854775807) (w : World) :
    Calls Tryd.prog 11 #[.string (ofNats s)] w fun e w' => e = .returned (.tuple #[.agg (parA s).1.cells.toArray, .int .i64 (parA s).2]) ∧ Below w.heap.size w w' := by
  have hsz : (ofNats s).size = s.length := ofNats_size s
  have HE : Hid (parA s = (Og.zero, 210)) := hid (by unfold parA opOf; rw [if_neg (by omega)])
  obtain ⟨wb, hwb⟩ : ∃ wb, wb = w.alloc (.cells #[.int .i64 0, .bool false, .bool false, .bool false, .string ⟨#[]⟩, .string ⟨#[]⟩, .string ⟨#[]⟩, .string ⟨#[]⟩, .int .i64 0] 27) := ⟨_, rfl⟩
  have hB : Below w.heap.size w wb := by rw [hwb]; (repeat (first | with_reducible exact Below.refl _ _ | with_reducible assumption | with_reducible refine Below.drew ?_ | with_reducible refine Below.al ?_ _ | with_reducible refine Below.setCell ?_ (by first | exact Nat.le_refl _ | (simp; omega) | (simp; done)) _ | with_reducible refine Below.on ?_ (by assumption)))
  have QZ : Hid (wb.heap[w.heap.size]? = some (.cells #[.int .i64 0, .bool false, .bool false, .bool false, .string ⟨#[]⟩, .string ⟨#[]⟩, .string ⟨#[]⟩, .string ⟨#[]⟩, .int .i64 0] 27 (0, 0))) := hid (by rw [hwb]; exact heap_alloc_new w _)
  have HB := hid hB
  have d1 : decide ((400 : Int) < (s.length : Int)) = true := by simp; omega
  clear hB
  go_enter Tryd.func11, Tryd.ntmps11
  go_upto_region 1 with fail
  rw [← hwb]
  clear hwb
  have RZ : Hid ((wb.setRow w.heap.size #[.int .i64 0, .bool false, .bool false, .bool false, .string ⟨#[]⟩, .string ⟨#[]⟩, .string ⟨#[]⟩, .string ⟨#[]⟩, .int .i64 0]).heap[w.heap.size]? = some (.cells #[.int .i64 0, .bool false, .bool false, .bool false, .string ⟨#[]⟩, .string ⟨#[]⟩, .string ⟨#[]⟩, .string ⟨#[]⟩, .int .i64 0] 27 (0, 0))) := hid (setRow_heap _ _ _ _ _ _ QZ.out)
  have HBZ := hid (below_row HB.out (g := w.heap.size) (Nat.le_refl _) #[.int .i64 0, .bool false, .bool false, .bool false, .string ⟨#[]⟩, .string ⟨#[]⟩, .string ⟨#[]⟩, .string ⟨#[]⟩, .int .i64 0])
  go_wp2_with (first | (refine wpList_store_row (by rfl) 27 _ _ (by rfl) w.heap.size #[.int .i64 0, .bool false, .bool false, .bool false, .string ⟨#[]⟩, .string ⟨#[]⟩, .string ⟨#[]⟩, .string ⟨#[]⟩, .int .i64 0] (by rfl) (by rfl) _ _ QZ.out infoOp rfl (one9 _ _ _ _ _ _ _ _ _) ?_) | fail)
  have LZ := hid (run_loadVar_at (P := Tryd.prog) _ ⟨w.heap.size, 0, none⟩ 27 [.int .i64 0, .bool false, .bool false, .bool false, .string ⟨#[]⟩, .string ⟨#[]⟩, .string ⟨#[]⟩, .string ⟨#[]⟩, .int .i64 0] _ (cells_at RZ.out) Tryd.underlying27 (by rfl) infoOp)
  refine bodyPost_ret (v := .tuple #[.agg #[.int .i64 0, .bool false, .bool false, .bool false, .string ⟨#[]⟩, .string ⟨#[]⟩, .string ⟨#[]⟩, .string ⟨#[]⟩, .int .i64 0], .int .i64 210]) (by simp [results, Tryd.results11, Act.put, asAddr, LZ.out]) rfl ?_
  exact ⟨by rw [HE.out]; rfl, HBZ.out⟩

set_option maxHeartbeats 4000000 in
set_option maxRecDepth 100000 in
theorem dparse_short {s : List Nat} (h8 : B8 s) (hl : s.length ≤ 400) (w : World) (ht : PowTab w) :
    Calls Tryd.prog 11 #[.string (ofNats s)] w fun e w' => e = .returned (.tuple #[.agg (parA s).1.cells.toArray, .int .i64 (parA s).2]) ∧ Below w.heap.size w w' := by
  have hsz : (ofNats s).size = s.length := ofNats_size s
  have d1 : decide ((400 : Int) < (s.length : Int)) = false := by simp; omega
  have hA : TxOk (fld s) := fld_tx h8 hl
  have hL : (fld s).length ≤ 401 := by have := fld_num s; omega
  have h0 : 0 < (fld s).length := List.length_pos_iff.2 (fld_ne s)
  obtain ⟨wb, hwb⟩ : ∃ wb, wb = w.alloc (.cells #[.int .i64 0, .bool false, .bool false, .bool false, .string ⟨#[]⟩, .string ⟨#[]⟩, .string ⟨#[]⟩, .string ⟨#[]⟩, .int .i64 0] 27) := ⟨_, rfl⟩
  have hB : Below w.heap.size w wb := by rw [hwb]; (repeat (first | with_reducible exact Below.refl _ _ | with_reducible assumption | with_reducible refine Below.drew ?_ | with_reducible refine Below.al ?_ _ | with_reducible refine Below.setCell ?_ (by first | exact Nat.le_refl _ | (simp; omega) | (simp; done)) _ | with_reducible refine Below.on ?_ (by assumption)))
  have QZ : Hid (wb.heap[w.heap.size]? = some (.cells #[.int .i64 0, .bool false, .bool false, .bool false, .string ⟨#[]⟩, .string ⟨#[]⟩, .string ⟨#[]⟩, .string ⟨#[]⟩, .int .i64 0] 27 (0, 0))) := hid (by rw [hwb]; exact heap_alloc_new w _)
  have HB := hid hB
  have CF := hid (dfields_is h8 hl wb)
  have hk := guess_ok hA
  have hdp := dpar_is h8 hl hk.tok hk.key hk.hi hk.val
  have CG := hid (fun (W : World) (a : Option Addr) (c : Nat) (hr : TxRow W a (fld s)) => dguess_is (c := c) hA hL h0 hr)
  obtain ⟨o, ho⟩ : ∃ o, o = guessO (fld s) := ⟨_, rfl⟩
  rw [← ho] at hk hdp CG
  have HK := hid hk
  have HT := hid ht
  have CR := hid (fun W (hW : Below w.heap.size w W) => drequest_is hk (by omega) W (HT.out.later hW))
  obtain ⟨n, hn⟩ : ∃ n, n = (fld s).length := ⟨_, rfl⟩
  have H8 := hid h8
  have HJ : Hid ((Tryd.prog.info? 27).map (·.size) = some o.cells.toArray.size) := hid infoOp
  have HS : Hid ((9 : Nat) = o.cells.toArray.size) := hid rfl
  have HO := hid (og_one o)
  have HI : Hid ((Tryd.prog.info? 27).map (·.size) = some o.cells.length) := hid infoOp
  clear hB hA hL h0 hk ho ht h8
  go_enter Tryd.func11, Tryd.ntmps11
  go_upto_region 1 with fail
  rw [← hwb]
  clear hwb
  go_wp2_with fail
  refine CF.out.mono ?_
  rintro e w1 ⟨⟨a, c, rfl, hown⟩, hb1⟩
  have HB1 := hid (Below.on HB.out hb1)
  have QZ1 := hid (keep_bl hb1 QZ.out)
  have CG1 := hid (CG.out w1 a c (txrow_of hown))
  clear hown hb1 CG CF QZ HB
  rw [← hn] at CG1 ⊢
  clear hn
  go_wp2_with fail
  refine CG1.out.mono ?_
  rintro e w2 ⟨rfl, hb2⟩
  have HB2 := hid (Below.on HB1.out hb2)
  have QZ2 := hid (keep_bl hb2 QZ1.out)
  clear hb2 CG1 QZ1
  obtain ⟨w4, hw4⟩ : ∃ w4, w4 = w2.alloc (.cells o.cells.toArray 27) := ⟨_, rfl⟩
  have P4 : Hid (w4.heap[w2.heap.size]? = some (.cells o.cells.toArray 27 (0, 0))) := hid (by rw [hw4]; exact heap_alloc_new w2 _)
  have hb4 : Below w2.heap.size w2 w4 := by rw [hw4]; exact Below.al (Below.refl _ _) _
  have HB4 := hid (Below.on HB2.out hb4)
  have QZ4 := hid (keep_bl hb4 QZ2.out)
  have C4 := hid (CR.out w4 HB4.out)
  clear hb4 CR
  go_upto_region 4 with (first | (refine wpList_store_new (by rfl) 27 _ _ (by rfl) o.cells.toArray _ 27 (by rfl) (by rfl) HJ.out HS.out HO.out ?_) | fail)
  rw [← hw4]
  clear hw4
  cases hq : lineOf 400 o with
  | none =>
    have hr : reqA o = ([], 210) := by unfold reqA; rw [hq]
    rw [hr] at C4
    have HE : Hid (parA s = (Og.zero, 210)) := hid (parA_no (hdp.2 (by rw [hq]; simp)))
    clear hr hq hdp
    go_wp2_with (first | (refine wpList_load_at (by rfl) 27 _ (by rfl) ⟨w2.heap.size, 0, none⟩ (by rfl) o.cells _ (cells_at P4.out) Tryd.underlying27 (by rfl) HI.out ?_) | fail)
    refine C4.out.mono ?_
    rintro e w5 ⟨rfl, hb5⟩
    have HB5 := hid (Below.on HB4.out hb5)
    have QZ5 := hid (keep_bl hb5 QZ4.out)
    clear hb5 C4
    have RZ : Hid ((w5.setRow w.heap.size #[.int .i64 0, .bool false, .bool false, .bool false, .string ⟨#[]⟩, .string ⟨#[]⟩, .string ⟨#[]⟩, .string ⟨#[]⟩, .int .i64 0]).heap[w.heap.size]? = some (.cells #[.int .i64 0, .bool false, .bool false, .bool false, .string ⟨#[]⟩, .string ⟨#[]⟩, .string ⟨#[]⟩, .string ⟨#[]⟩, .int .i64 0] 27 (0, 0))) := hid (setRow_heap _ _ _ _ _ _ QZ5.out)
    have HBZ := hid (below_row HB5.out (g := w.heap.size) (Nat.le_refl _) #[.int .i64 0, .bool false, .bool false, .bool false, .string ⟨#[]⟩, .string ⟨#[]⟩, .string ⟨#[]⟩, .string ⟨#[]⟩, .int .i64 0])
    go_wp2_with (first | (refine wpList_store_row (by rfl) 27 _ _ (by rfl) w.heap.size #[.int .i64 0, .bool false, .bool false, .bool false, .string ⟨#[]⟩, .string ⟨#[]⟩, .string ⟨#[]⟩, .string ⟨#[]⟩, .int .i64 0] (by rfl) (by rfl) _ _ QZ5.out infoOp rfl (one9 _ _ _ _ _ _ _ _ _) ?_) | fail)
    have LZ := hid (run_loadVar_at (P := Tryd.prog) _ ⟨w.heap.size, 0, none⟩ 27 [.int .i64 0, .bool false, .bool false, .bool false, .string ⟨#[]⟩, .string ⟨#[]⟩, .string ⟨#[]⟩, .string ⟨#[]⟩, .int .i64 0] _ (cells_at RZ.out) Tryd.underlying27 (by rfl) infoOp)
    refine bodyPost_ret (v := .tuple #[.agg #[.int .i64 0, .bool false, .bool false, .bool false, .string ⟨#[]⟩, .string ⟨#[]⟩, .string ⟨#[]⟩, .string ⟨#[]⟩, .int .i64 0], .int .i64 210]) (by simp [results, Tryd.results11, Act.put, asAddr, LZ.out]) rfl ?_
    exact ⟨by rw [HE.out]; rfl, HBZ.out⟩
  | some t =>
    have hr : reqA o = (t, 0) := by unfold reqA; rw [hq]
    rw [hr] at C4
    have ht8 : B8 t := by
      obtain ⟨_, h2, _⟩ := preq_yes hq HK.out.tok HK.out.key HK.out.hi HK.out.val
      exact h2 ▸ plin_b8 HK.out.tok HK.out.key HK.out.hi HK.out.val
    have hcmp : ((ofNats t).toList == (ofNats s).toList) = decide (t = s) := by
      rw [Bool.eq_iff_iff, beq_iff_eq, decide_eq_true_eq]
      constructor
      · intro h
        rw [ByteArray.toList_eq, ByteArray.toList_eq] at h
        have h2 : nums (ofNats t) = nums (ofNats s) := by unfold nums; rw [h]
        rw [nums_ofNats ht8, nums_ofNats H8.out] at h2
        exact h2
      · intro h; rw [h]
    by_cases hts : t = s
    · have HE : Hid (parA s = (o, 0)) := hid (parA_yes (hdp.1 (by rw [hq, hts])))
      have hc : ((ofNats t).toList == (ofNats s).toList) = true := hcmp.trans (by simp [hts])
      clear hr hq hdp hcmp hts ht8
      generalize ofNats t = tB at *
      generalize ofNats s = sB at *
      go_wp2_with (first | (refine wpList_load_at (by rfl) 27 _ (by rfl) ⟨w2.heap.size, 0, none⟩ (by rfl) o.cells _ (cells_at P4.out) Tryd.underlying27 (by rfl) HI.out ?_) | fail)
      refine C4.out.mono ?_
      rintro e w5 ⟨rfl, hb5⟩
      have HB5 := hid (Below.on HB4.out hb5)
      have QZ5 := hid (keep_bl hb5 QZ4.out)
      have P5 := hid (keep_bl hb5 P4.out)
      clear hb5 C4
      have RZ : Hid ((w5.setRow w.heap.size o.cells.toArray).heap[w.heap.size]? = some (.cells o.cells.toArray 27 (0, 0))) := hid (setRow_heap _ _ _ _ _ _ QZ5.out)
      have HBZ := hid (below_row HB5.out (g := w.heap.size) (Nat.le_refl _) o.cells.toArray)
      go_wp2_with (first | (refine wpList_load_at (by rfl) 27 _ (by rfl) ⟨w2.heap.size, 0, none⟩ (by rfl) o.cells _ (cells_at P5.out) Tryd.underlying27 (by rfl) HI.out ?_) | (refine wpList_store_row (by rfl) 27 _ _ (by rfl) w.heap.size o.cells.toArray (by rfl) (by rfl) _ _ QZ5.out HJ.out HS.out HO.out ?_) | fail)
      have LZ := hid (run_loadVar_at (P := Tryd.prog) _ ⟨w.heap.size, 0, none⟩ 27 o.cells _ (cells_at RZ.out) Tryd.underlying27 (by rfl) HI.out)
      refine bodyPost_ret (v := .tuple #[.agg o.cells.toArray, .int .i64 0]) (by simp [results, Tryd.results11, Act.put, asAddr, LZ.out]) rfl ?_
      exact ⟨by rw [HE.out], HBZ.out⟩
    · have HE : Hid (parA s = (Og.zero, 210)) := hid (parA_no (hdp.2 (by rw [hq]; simp [hts])))
      have hc : ((ofNats t).toList == (ofNats s).toList) = false := hcmp.trans (by simp [hts])
      clear hr hq hdp hcmp hts ht8
      generalize ofNats t = tB at *
      generalize ofNats s = sB at *
      go_wp2_with (first | (refine wpList_load_at (by rfl) 27 _ (by rfl) ⟨w2.heap.size, 0, none⟩ (by rfl) o.cells _ (cells_at P4.out) Tryd.underlying27 (by rfl) HI.out ?_) | fail)
      refine C4.out.mono ?_
      rintro e w5 ⟨rfl, hb5⟩
      have HB5 := hid (Below.on HB4.out hb5)
      have QZ5 := hid (keep_bl hb5 QZ4.out)
      clear hb5 C4
      have RZ : Hid ((w5.setRow w.heap.size #[.int .i64 0, .bool false, .bool false, .bool false, .string ⟨#[]⟩, .string ⟨#[]⟩, .string ⟨#[]⟩, .string ⟨#[]⟩, .int .i64 0]).heap[w.heap.size]? = some (.cells #[.int .i64 0, .bool false, .bool false, .bool false, .string ⟨#[]⟩, .string ⟨#[]⟩, .string ⟨#[]⟩, .string ⟨#[]⟩, .int .i64 0] 27 (0, 0))) := hid (setRow_heap _ _ _ _ _ _ QZ5.out)
      have HBZ := hid (below_row HB5.out (g := w.heap.size) (Nat.le_refl _) #[.int .i64 0, .bool false, .bool false, .bool false, .string ⟨#[]⟩, .string ⟨#[]⟩, .string ⟨#[]⟩, .string ⟨#[]⟩, .int .i64 0])
      go_wp2_with (first | (refine wpList_store_row (by rfl) 27 _ _ (by rfl) w.heap.size #[.int .i64 0, .bool false, .bool false, .bool false, .string ⟨#[]⟩, .string ⟨#[]⟩, .string ⟨#[]⟩, .string ⟨#[]⟩, .int .i64 0] (by rfl) (by rfl) _ _ QZ5.out infoOp rfl (one9 _ _ _ _ _ _ _ _ _) ?_) | fail)
      have LZ := hid (run_loadVar_at (P := Tryd.prog) _ ⟨w.heap.size, 0, none⟩ 27 [.int .i64 0, .bool false, .bool false, .bool false, .string ⟨#[]⟩, .string ⟨#[]⟩, .string ⟨#[]⟩, .string ⟨#[]⟩, .int .i64 0] _ (cells_at RZ.out) Tryd.underlying27 (by rfl) infoOp)
      refine bodyPost_ret (v := .tuple #[.agg #[.int .i64 0, .bool false, .bool false, .bool false, .string ⟨#[]⟩, .string ⟨#[]⟩, .string ⟨#[]⟩, .string ⟨#[]⟩, .int .i64 0], .int .i64 210]) (by simp [results, Tryd.results11, Act.put, asAddr, LZ.out]) rfl ?_
      exact ⟨by rw [HE.out]; rfl, HBZ.out⟩
theorem dparse_any {s : List Nat} (h8 : B8 s) (hl : s.length ≤ 9223372036854775807) (w : World) (ht : PowTab w) :
    Calls Tryd.prog 11 #[.string (ofNats s)] w fun e w' => e = .returned (.tuple #[.agg (parA s).1.cells.toArray, .int .i64 (parA s).2]) ∧ Below w.heap.size w w' := by
  by_cases h : s.length ≤ 400
  · exact dparse_short h8 h w ht
  · exact dparse_long (by omega) hl w
end Go.Proofs.YtggmhodogfngdaaDoor.Gt
