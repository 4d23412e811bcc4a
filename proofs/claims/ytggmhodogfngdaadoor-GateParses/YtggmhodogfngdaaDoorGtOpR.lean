import Derived.Test.YtggmhodogfngdaaDoorGtOpA
/- An operation is read off the fields: a scan (written by mk_gtop.py). -/
namespace Go.Proofs.YtggmhodogfngdaaDoor.Gt
open Go.Proofs.YtggmhodogfngdaaDoor Go.Proofs.YtggmhodogfngdaaDoor.Rt Go.RowKit Go.Sort
set_option linter.unusedVariables false
set_option linter.unusedSimpArgs false

set_option maxHeartbeats 4000000 in
set_option maxRecDepth 100000 in
theorem op_rscan {w0 w : World} {F B : Nat} {r : List (List Nat)} {bad : Bool} (hv : Vars w0) (h0 : Below w0.heap.size w0 w) (hF : w0.heap.size ≤ F) (hB : B ≤ w.heap.size) (h : Fd w F B r bad) (hr : TxOk r) (hnm : (nameF r).1 = nRscan) :
    Calls Tryd.prog 26 #[.pointer (some ⟨F, 0, none⟩)] w (OpP w F B bad (nameF r).1 (nameF r).2) := by
  obtain ⟨w2, hw2⟩ : ∃ w2, w2 = (w.alloc (.cells #[.int .i64 0, .bool false, .bool false, .bool false, .string ⟨#[]⟩, .string ⟨#[]⟩, .string ⟨#[]⟩, .string ⟨#[]⟩, .int .i64 0] 27)).alloc (.cells #[.int .i64 0, .bool false, .bool false, .bool false, .string ⟨#[]⟩, .string ⟨#[]⟩, .string ⟨#[]⟩, .string ⟨#[]⟩, .int .i64 0] 27) := ⟨_, rfl⟩
  have hb2 : Below w.heap.size w w2 := by rw [hw2]; (repeat (first | with_reducible exact Below.refl _ _ | with_reducible assumption | with_reducible refine Below.drew ?_ | with_reducible refine Below.al ?_ _ | with_reducible refine Below.setCell ?_ (by first | exact Nat.le_refl _ | (simp; omega) | (simp; done)) _ | with_reducible refine Below.on ?_ (by assumption)))
  have hFl : F < w.heap.size := by obtain ⟨a, cap, hx⟩ := h; exact hx.lt
  have hs2 : w2.heap.size = w.heap.size + 2 := by rw [hw2]; simp
  have CN := hid (name_is (h.on hb2) hr)
  obtain ⟨n8, ntx⟩ := name_b8 hr
  have hso : w2.heap[w.heap.size + 1]? = some (.cells #[.int .i64 0, .bool false, .bool false, .bool false, .string ⟨#[]⟩, .string ⟨#[]⟩, .string ⟨#[]⟩, .string ⟨#[]⟩, .int .i64 0] 27 (0, 0)) := by
    rw [hw2]
    have := heap_alloc_new (w.alloc (.cells #[.int .i64 0, .bool false, .bool false, .bool false, .string ⟨#[]⟩, .string ⟨#[]⟩, .string ⟨#[]⟩, .string ⟨#[]⟩, .int .i64 0] 27)) (.cells #[.int .i64 0, .bool false, .bool false, .bool false, .string ⟨#[]⟩, .string ⟨#[]⟩, .string ⟨#[]⟩, .string ⟨#[]⟩, .int .i64 0] 27)
    simpa using this
  have hsr : w2.heap[w.heap.size]? = some (.cells #[.int .i64 0, .bool false, .bool false, .bool false, .string ⟨#[]⟩, .string ⟨#[]⟩, .string ⟨#[]⟩, .string ⟨#[]⟩, .int .i64 0] 27 (0, 0)) := by
    rw [hw2, Below.heap_alloc _ _ _ (by simp)]
    exact heap_alloc_new w _

  generalize (nameF r).2 = rr at *
  generalize (nameF r).1 = nm at *
  subst hnm
  have k0 : ((ofNats nRscan).toList == [98, 101, 103, 105, 110, 32, 97, 116]) = false := (lit_is n8 (c := bAt) (b8_lit (by decide)) rfl).trans (by decide)
  have k1 : ((ofNats nRscan).toList == [98, 101, 103, 105, 110, 32, 114, 111]) = false := (lit_is n8 (c := bRo) (b8_lit (by decide)) rfl).trans (by decide)
  have k2 : ((ofNats nRscan).toList == [98, 101, 103, 105, 110, 32, 114, 119]) = false := (lit_is n8 (c := bRw) (b8_lit (by decide)) rfl).trans (by decide)
  have k3 : ((ofNats nRscan).toList == [103, 101, 116]) = false := (lit_is n8 (c := nGet) (b8_lit (by decide)) rfl).trans (by decide)
  have k4 : ((ofNats nRscan).toList == [114, 115, 99, 97, 110]) = true := (lit_is n8 (c := nRscan) (b8_lit (by decide)) rfl).trans (by decide)
  generalize ofNats nRscan = s at *
  have O2 := hid (Onl.of_below (F := fun k => k = F) hb2)
  have HSO := hid hso
  have HSR := hid hsr
  clear hso hsr h
  go_enter Tryd.func26, Tryd.ntmps26
  go_wp2_with fail
  rw [← hw2]
  refine CN.out.mono ?_
  rintro e w1 ⟨rfl, h1, o1⟩
  have H1 := hid h1
  have O1 := hid (O2.out.trans o1)
  have BO1 := hid (keep_blk o1 HSO.out (by omega))
  have BR1 := hid (keep_blk o1 HSR.out (by omega))
  clear h1 o1 CN hw2 HSO HSR
  have f1_3 : w1.frozen? ⟨w.heap.size + 1, 3, none⟩ = false := Lib.frozen_of_heap BO1.out 3
  have c1_3 : w1.cell? ⟨w.heap.size + 1, 3, none⟩ = some (.bool false) := by rw [Lib.cell_of_heap BO1.out]; rfl
  have Ps0 : Hid ((w1.setCell ⟨w.heap.size + 1, 3, none⟩ (.bool true)).heap[w.heap.size + 1]? = some (.cells #[.int .i64 0, .bool false, .bool false, .bool true, .string ⟨#[]⟩, .string ⟨#[]⟩, .string ⟨#[]⟩, .string ⟨#[]⟩, .int .i64 0] 27 (0, 0))) := hid (heap_setCell_same _ _ 3 _ _ _ BO1.out)
  have Qs0 : Hid ((w1.setCell ⟨w.heap.size + 1, 3, none⟩ (.bool true)).heap[w.heap.size]? = some (.cells #[.int .i64 0, .bool false, .bool false, .bool false, .string ⟨#[]⟩, .string ⟨#[]⟩, .string ⟨#[]⟩, .string ⟨#[]⟩, .int .i64 0] 27 (0, 0))) := hid ((Below.heap_setCell _ _ _ _ (by simp)).trans BR1.out)
  have G1 : Hid (Fd (w1.setCell ⟨w.heap.size + 1, 3, none⟩ (.bool true)) F B rr _) := hid (H1.out.off (q := w.heap.size + 1) (by omega) (by omega) 3 (.bool true))
  have C1 : Hid (Chg F w (w1.setCell ⟨w.heap.size + 1, 3, none⟩ (.bool true))) := hid (O1.out.setNew (q := w.heap.size + 1) (by omega) 3 (.bool true))
  have P1 : Hid ((w1.setCell ⟨w.heap.size + 1, 3, none⟩ (.bool true)).heap[w.heap.size + 1]? = some (.cells #[.int .i64 0, .bool false, .bool false, .bool true, .string ⟨#[]⟩, .string ⟨#[]⟩, .string ⟨#[]⟩, .string ⟨#[]⟩, .int .i64 0] 27 (0, 0))) := hid Ps0.out
  have Q1 : Hid ((w1.setCell ⟨w.heap.size + 1, 3, none⟩ (.bool true)).heap[w.heap.size]? = some (.cells #[.int .i64 0, .bool false, .bool false, .bool false, .string ⟨#[]⟩, .string ⟨#[]⟩, .string ⟨#[]⟩, .string ⟨#[]⟩, .int .i64 0] 27 (0, 0))) := hid Qs0.out
  go_wp2_with fail
  refine (text_is G1.out ntx).mono ?_
  rintro e w2 ⟨rfl, h2, o2⟩
  generalize hT1 : ofNats (unT (hdF rr)) = t1
  have HT1 := hid hT1
  clear hT1
  have H2 := hid h2
  have O2 := hid (C1.out.trans o2)
  have BO2 := hid (keep_blk o2 P1.out (by omega))
  have BR2 := hid (keep_blk o2 Q1.out (by omega))
  clear h2 o2 G1 C1 P1 Q1
  have G2 : Hid (Fd w2 F B rr.tail _) := hid H2.out
  have C2 : Hid (Chg F w w2) := hid O2.out
  have P2 : Hid (w2.heap[w.heap.size + 1]? = some (.cells #[.int .i64 0, .bool false, .bool false, .bool true, .string ⟨#[]⟩, .string ⟨#[]⟩, .string ⟨#[]⟩, .string ⟨#[]⟩, .int .i64 0] 27 (0, 0))) := hid BO2.out
  have Q2 : Hid (w2.heap[w.heap.size]? = some (.cells #[.int .i64 0, .bool false, .bool false, .bool false, .string ⟨#[]⟩, .string ⟨#[]⟩, .string ⟨#[]⟩, .string ⟨#[]⟩, .int .i64 0] 27 (0, 0))) := hid BR2.out
  go_wp2_with fail
  refine (text_is G2.out ntx.tl).mono ?_
  rintro e w3 ⟨rfl, h3, o3⟩
  generalize hT2 : ofNats (unT (hdF rr.tail)) = t2
  have HT2 := hid hT2
  clear hT2
  have H3 := hid h3
  have O3 := hid (C2.out.trans o3)
  have BO3 := hid (keep_blk o3 P2.out (by omega))
  have BR3 := hid (keep_blk o3 Q2.out (by omega))
  clear h3 o3 G2 C2 P2 Q2
  have G3 : Hid (Fd w3 F B rr.tail.tail _) := hid H3.out
  have C3 : Hid (Chg F w w3) := hid O3.out
  have P3 : Hid (w3.heap[w.heap.size + 1]? = some (.cells #[.int .i64 0, .bool false, .bool false, .bool true, .string ⟨#[]⟩, .string ⟨#[]⟩, .string ⟨#[]⟩, .string ⟨#[]⟩, .int .i64 0] 27 (0, 0))) := hid BO3.out
  have Q3 : Hid (w3.heap[w.heap.size]? = some (.cells #[.int .i64 0, .bool false, .bool false, .bool false, .string ⟨#[]⟩, .string ⟨#[]⟩, .string ⟨#[]⟩, .string ⟨#[]⟩, .int .i64 0] 27 (0, 0))) := hid BR3.out
  go_wp2_with fail
  refine (limit_is hv (C3.out.bel h0 hF) hF G3.out ntx.tl.tl).mono ?_
  rintro e w4 ⟨⟨n, n0, n1, hlim, rfl⟩, h4, o4⟩
  have HLM := hid hlim
  clear hlim
  have H4 := hid h4
  have O4 := hid (C3.out.trans o4)
  have BO4 := hid (keep_blk o4 P3.out (by omega))
  have BR4 := hid (keep_blk o4 Q3.out (by omega))
  clear h4 o4 G3 C3 P3 Q3
  have f4_0 : w4.frozen? ⟨w.heap.size + 1, 0, none⟩ = false := Lib.frozen_of_heap BO4.out 0
  have c4_0 : w4.cell? ⟨w.heap.size + 1, 0, none⟩ = some (.int .i64 0) := by rw [Lib.cell_of_heap BO4.out]; rfl
  have f4_5 : w4.frozen? ⟨w.heap.size + 1, 5, none⟩ = false := Lib.frozen_of_heap BO4.out 5
  have c4_5 : w4.cell? ⟨w.heap.size + 1, 5, none⟩ = some (.string ⟨#[]⟩) := by rw [Lib.cell_of_heap BO4.out]; rfl
  have f4_6 : w4.frozen? ⟨w.heap.size + 1, 6, none⟩ = false := Lib.frozen_of_heap BO4.out 6
  have c4_6 : w4.cell? ⟨w.heap.size + 1, 6, none⟩ = some (.string ⟨#[]⟩) := by rw [Lib.cell_of_heap BO4.out]; rfl
  have f4_8 : w4.frozen? ⟨w.heap.size + 1, 8, none⟩ = false := Lib.frozen_of_heap BO4.out 8
  have c4_8 : w4.cell? ⟨w.heap.size + 1, 8, none⟩ = some (.int .i64 0) := by rw [Lib.cell_of_heap BO4.out]; rfl
  have Ps4 : Hid ((w4.setCell ⟨w.heap.size + 1, 0, none⟩ (.int .i64 3)).heap[w.heap.size + 1]? = some (.cells #[.int .i64 3, .bool false, .bool false, .bool true, .string ⟨#[]⟩, .string ⟨#[]⟩, .string ⟨#[]⟩, .string ⟨#[]⟩, .int .i64 0] 27 (0, 0))) := hid (heap_setCell_same _ _ 0 _ _ _ BO4.out)
  have Qs4 : Hid ((w4.setCell ⟨w.heap.size + 1, 0, none⟩ (.int .i64 3)).heap[w.heap.size]? = some (.cells #[.int .i64 0, .bool false, .bool false, .bool false, .string ⟨#[]⟩, .string ⟨#[]⟩, .string ⟨#[]⟩, .string ⟨#[]⟩, .int .i64 0] 27 (0, 0))) := hid ((Below.heap_setCell _ _ _ _ (by simp)).trans BR4.out)
  have Ps5 : Hid (((w4.setCell ⟨w.heap.size + 1, 0, none⟩ (.int .i64 3)).setCell ⟨w.heap.size + 1, 5, none⟩ (.string t1)).heap[w.heap.size + 1]? = some (.cells #[.int .i64 3, .bool false, .bool false, .bool true, .string ⟨#[]⟩, .string t1, .string ⟨#[]⟩, .string ⟨#[]⟩, .int .i64 0] 27 (0, 0))) := hid (heap_setCell_same _ _ 5 _ _ _ Ps4.out)
  have Qs5 : Hid (((w4.setCell ⟨w.heap.size + 1, 0, none⟩ (.int .i64 3)).setCell ⟨w.heap.size + 1, 5, none⟩ (.string t1)).heap[w.heap.size]? = some (.cells #[.int .i64 0, .bool false, .bool false, .bool false, .string ⟨#[]⟩, .string ⟨#[]⟩, .string ⟨#[]⟩, .string ⟨#[]⟩, .int .i64 0] 27 (0, 0))) := hid ((Below.heap_setCell _ _ _ _ (by simp)).trans Qs4.out)
  have Ps6 : Hid ((((w4.setCell ⟨w.heap.size + 1, 0, none⟩ (.int .i64 3)).setCell ⟨w.heap.size + 1, 5, none⟩ (.string t1)).setCell ⟨w.heap.size + 1, 6, none⟩ (.string t2)).heap[w.heap.size + 1]? = some (.cells #[.int .i64 3, .bool false, .bool false, .bool true, .string ⟨#[]⟩, .string t1, .string t2, .string ⟨#[]⟩, .int .i64 0] 27 (0, 0))) := hid (heap_setCell_same _ _ 6 _ _ _ Ps5.out)
  have Qs6 : Hid ((((w4.setCell ⟨w.heap.size + 1, 0, none⟩ (.int .i64 3)).setCell ⟨w.heap.size + 1, 5, none⟩ (.string t1)).setCell ⟨w.heap.size + 1, 6, none⟩ (.string t2)).heap[w.heap.size]? = some (.cells #[.int .i64 0, .bool false, .bool false, .bool false, .string ⟨#[]⟩, .string ⟨#[]⟩, .string ⟨#[]⟩, .string ⟨#[]⟩, .int .i64 0] 27 (0, 0))) := hid ((Below.heap_setCell _ _ _ _ (by simp)).trans Qs5.out)
  have Ps7 : Hid (((((w4.setCell ⟨w.heap.size + 1, 0, none⟩ (.int .i64 3)).setCell ⟨w.heap.size + 1, 5, none⟩ (.string t1)).setCell ⟨w.heap.size + 1, 6, none⟩ (.string t2)).setCell ⟨w.heap.size + 1, 8, none⟩ (.int .i64 n)).heap[w.heap.size + 1]? = some (.cells #[.int .i64 3, .bool false, .bool false, .bool true, .string ⟨#[]⟩, .string t1, .string t2, .string ⟨#[]⟩, .int .i64 n] 27 (0, 0))) := hid (heap_setCell_same _ _ 8 _ _ _ Ps6.out)
  have Qs7 : Hid (((((w4.setCell ⟨w.heap.size + 1, 0, none⟩ (.int .i64 3)).setCell ⟨w.heap.size + 1, 5, none⟩ (.string t1)).setCell ⟨w.heap.size + 1, 6, none⟩ (.string t2)).setCell ⟨w.heap.size + 1, 8, none⟩ (.int .i64 n)).heap[w.heap.size]? = some (.cells #[.int .i64 0, .bool false, .bool false, .bool false, .string ⟨#[]⟩, .string ⟨#[]⟩, .string ⟨#[]⟩, .string ⟨#[]⟩, .int .i64 0] 27 (0, 0))) := hid ((Below.heap_setCell _ _ _ _ (by simp)).trans Qs6.out)
  have GZ : Hid (Fd ((((w4.setCell ⟨w.heap.size + 1, 0, none⟩ (.int .i64 3)).setCell ⟨w.heap.size + 1, 5, none⟩ (.string t1)).setCell ⟨w.heap.size + 1, 6, none⟩ (.string t2)).setCell ⟨w.heap.size + 1, 8, none⟩ (.int .i64 n)) F B rr.tail.tail.tail _) := hid ((((H4.out.off (q := w.heap.size + 1) (by omega) (by omega) 0 (.int .i64 3)).off (q := w.heap.size + 1) (by omega) (by omega) 5 (.string t1)).off (q := w.heap.size + 1) (by omega) (by omega) 6 (.string t2)).off (q := w.heap.size + 1) (by omega) (by omega) 8 (.int .i64 n))
  have CZ : Hid (Chg F w ((((w4.setCell ⟨w.heap.size + 1, 0, none⟩ (.int .i64 3)).setCell ⟨w.heap.size + 1, 5, none⟩ (.string t1)).setCell ⟨w.heap.size + 1, 6, none⟩ (.string t2)).setCell ⟨w.heap.size + 1, 8, none⟩ (.int .i64 n))) := hid ((((O4.out.setNew (q := w.heap.size + 1) (by omega) 0 (.int .i64 3)).setNew (q := w.heap.size + 1) (by omega) 5 (.string t1)).setNew (q := w.heap.size + 1) (by omega) 6 (.string t2)).setNew (q := w.heap.size + 1) (by omega) 8 (.int .i64 n))
  have PZ : Hid (((((w4.setCell ⟨w.heap.size + 1, 0, none⟩ (.int .i64 3)).setCell ⟨w.heap.size + 1, 5, none⟩ (.string t1)).setCell ⟨w.heap.size + 1, 6, none⟩ (.string t2)).setCell ⟨w.heap.size + 1, 8, none⟩ (.int .i64 n)).heap[w.heap.size + 1]? = some (.cells #[.int .i64 3, .bool false, .bool false, .bool true, .string ⟨#[]⟩, .string t1, .string t2, .string ⟨#[]⟩, .int .i64 n] 27 (0, 0))) := hid Ps7.out
  have QZ : Hid (((((w4.setCell ⟨w.heap.size + 1, 0, none⟩ (.int .i64 3)).setCell ⟨w.heap.size + 1, 5, none⟩ (.string t1)).setCell ⟨w.heap.size + 1, 6, none⟩ (.string t2)).setCell ⟨w.heap.size + 1, 8, none⟩ (.int .i64 n)).heap[w.heap.size]? = some (.cells #[.int .i64 0, .bool false, .bool false, .bool false, .string ⟨#[]⟩, .string ⟨#[]⟩, .string ⟨#[]⟩, .string ⟨#[]⟩, .int .i64 0] 27 (0, 0))) := hid Qs7.out
  have RZ : Hid ((((((w4.setCell ⟨w.heap.size + 1, 0, none⟩ (.int .i64 3)).setCell ⟨w.heap.size + 1, 5, none⟩ (.string t1)).setCell ⟨w.heap.size + 1, 6, none⟩ (.string t2)).setCell ⟨w.heap.size + 1, 8, none⟩ (.int .i64 n)).setRow w.heap.size #[.int .i64 3, .bool false, .bool false, .bool true, .string ⟨#[]⟩, .string t1, .string t2, .string ⟨#[]⟩, .int .i64 n]).heap[w.heap.size]? = some (.cells #[.int .i64 3, .bool false, .bool false, .bool true, .string ⟨#[]⟩, .string t1, .string t2, .string ⟨#[]⟩, .int .i64 n] 27 (0, 0))) := hid (setRow_heap _ _ _ _ _ _ QZ.out)
  have EZ := hid (end_op hFl hB GZ.out CZ.out #[.int .i64 3, .bool false, .bool false, .bool true, .string ⟨#[]⟩, .string t1, .string t2, .string ⟨#[]⟩, .int .i64 n])
  clear GZ CZ hs2
  go_upto_region 24 with fail
  go_wp2_with (first | (refine wpList_load_at (by rfl) 27 _ (by rfl) ⟨w.heap.size + 1, 0, none⟩ (by rfl) [.int .i64 3, .bool false, .bool false, .bool true, .string ⟨#[]⟩, .string t1, .string t2, .string ⟨#[]⟩, .int .i64 n] _ (cells_at PZ.out) Tryd.underlying27 (by rfl) infoOp ?_) | (refine wpList_store_row (by rfl) 27 _ _ (by rfl) w.heap.size #[.int .i64 3, .bool false, .bool false, .bool true, .string ⟨#[]⟩, .string t1, .string t2, .string ⟨#[]⟩, .int .i64 n] (by rfl) (by rfl) _ _ QZ.out infoOp rfl (one9 _ _ _ _ _ _ _ _ _) ?_) | fail)
  have LZ := hid (run_loadVar_at (P := Tryd.prog) _ ⟨w.heap.size, 0, none⟩ 27 [.int .i64 3, .bool false, .bool false, .bool true, .string ⟨#[]⟩, .string t1, .string t2, .string ⟨#[]⟩, .int .i64 n] _ (cells_at RZ.out) Tryd.underlying27 (by rfl) infoOp)
  refine bodyPost_ret (v := .agg #[.int .i64 3, .bool false, .bool false, .bool true, .string ⟨#[]⟩, .string t1, .string t2, .string ⟨#[]⟩, .int .i64 n]) (by simp [results, Tryd.results26, Act.put, asAddr, LZ.out]) rfl ?_
  have hlim := HLM.out
  have e : opF nRscan rr n = ⟨⟨3, false, false, true, [], unT (hdF rr), unT (hdF rr.tail), [], n⟩, badT (hdF rr) || badT (hdF rr.tail) || badN (hdF rr.tail.tail), rr.tail.tail.tail⟩ := by simp [opF]
  refine ⟨n, n0, n1, hlim, ?_, ?_, EZ.out.2⟩
  · rw [e]; rw [← HT1.out]; rw [← HT2.out]; rfl
  · rw [e]
    have h := EZ.out.1
    try simp only [Bool.or_false, Bool.or_assoc] at h ⊢
    exact h
end Go.Proofs.YtggmhodogfngdaaDoor.Gt
