import Derived.Test.YtggmhodogfngdaaDoorGtOpA
import Derived.Test.YtggmhodogfngdaaDoorGtOpS
import Derived.Test.YtggmhodogfngdaaDoorGtOpR
/- An operation is read off the fields: a scan (written by mk_gtop.py). -/
namespace Go.Proofs.YtggmhodogfngdaaDoor.Gt
open Go.Proofs.YtggmhodogfngdaaDoor Go.Proofs.YtggmhodogfngdaaDoor.Rt Go.RowKit Go.Sort
set_option linter.unusedVariables false
set_option linter.unusedSimpArgs false

set_option maxHeartbeats 4000000 in
set_option maxRecDepth 100000 in
theorem op_none {w0 w : World} {F B : Nat} {r : List (List Nat)} {bad : Bool} (hv : Vars w0) (h0 : Below w0.heap.size w0 w) (hF : w0.heap.size ≤ F) (hB : B ≤ w.heap.size) (h : Fd w F B r bad) (hr : TxOk r) (x0 : (nameF r).1 ≠ bAt) (x1 : (nameF r).1 ≠ bRo) (x2 : (nameF r).1 ≠ bRw) (x3 : (nameF r).1 ≠ nGet) (x4 : (nameF r).1 ≠ nRscan) (x5 : (nameF r).1 ≠ nScan) (x6 : (nameF r).1 ≠ nPut) (x7 : (nameF r).1 ≠ nDel) (x8 : (nameF r).1 ≠ nCommit) (x9 : (nameF r).1 ≠ nAbort) :
    Calls Tryd.prog 26 #[.pointer (some ⟨F, 0, none⟩)] w (OpP w F B bad (nameF r).1 (nameF r).2) := by
  obtain ⟨w2, hw2⟩ : ∃ w2, w2 = (w.alloc (.cells #[.int .i64 0, .bool false, .bool false, .bool false, .string ⟨#[]⟩, .string ⟨#[]⟩, .string ⟨#[]⟩, .string ⟨#[]⟩, .int .i64 0] 27)).alloc (.cells #[.int .i64 0, .bool false, .bool false, .bool false, .string ⟨#[]⟩, .string ⟨#[]⟩, .string ⟨#[]⟩, .string ⟨#[]⟩, .int .i64 0] 27) := ⟨_, rfl⟩
  have hb2 : Below w.heap.size w w2 := by rw [hw2]; (repeat (first | with_reducible exact Below.refl _ _ | with_reducible assumption | with_reducible refine Below.drew ?_ | with_reducible refine Below.al ?_ _ | with_reducible refine Below.setCell ?_ (by first | exact Nat.le_refl _ | (simp; omega) | (simp; done)) _ | with_reducible refine Below.on ?_ (by assumption)))
  have hFl : F < w.heap.size := by obtain ⟨a, cap, hx⟩ := h; exact hx.lt
  have hs2 : w2.heap.size = w.heap.size + 2 := by rw [hw2]; simp
  have CN := hid (name_is (h.on hb2) hr)
  obtain ⟨n8, ntx⟩ := name_b8 hr
  have hso : w2.heap[w.heap.size + 1]? = some (.cells #[.int .i64 0, .bool false, .bool false, .bool false, .string ⟨#[]⟩, .string ⟨#[]⟩, .string ⟨#[]⟩, .string ⟨#[]⟩, .int .i64 0] 27 (0, 0)) := by
    rw [hw2]
    have := heap_alloc_new (w.alloc (.cells #[.int .i64 0, .bool false, .bool false, .bool false, .string ⟨#[]⟩, .string ⟨#[]⟩, .string ⟨#[]⟩, .string ⟨#[]⟩, .int .i64 0] 27)) (.cells #[.int .i64 0, .bool false, .bool false, .bool false, .string ⟨#[]⟩, .string ⟨#[]⟩, .string ⟨#[]⟩, .string ⟨#[]⟩, .int .i64 0] 27)
    simpa using this
  have hsr : w2.heap[w.heap.size]? = some (.cells #[.int .i64 0, .bool false, .bool false, .bool false, .string ⟨#[]⟩, .string ⟨#[]⟩, .string ⟨#[]⟩, .string ⟨#[]⟩, .int .i64 0] 27 (0, 0)) := by
    rw [hw2, Below.heap_alloc _ _ _ (by simp)]
    exact heap_alloc_new w _

  have hz : ∃ a cap, FdX w2 F B r bad a cap := h.on hb2
  generalize (nameF r).2 = rr at *
  generalize (nameF r).1 = nm at *
  have k0 : ((ofNats nm).toList == [98, 101, 103, 105, 110, 32, 97, 116]) = false := (lit_is n8 (c := bAt) (b8_lit (by decide)) rfl).trans (decide_eq_false x0)
  have k1 : ((ofNats nm).toList == [98, 101, 103, 105, 110, 32, 114, 111]) = false := (lit_is n8 (c := bRo) (b8_lit (by decide)) rfl).trans (decide_eq_false x1)
  have k2 : ((ofNats nm).toList == [98, 101, 103, 105, 110, 32, 114, 119]) = false := (lit_is n8 (c := bRw) (b8_lit (by decide)) rfl).trans (decide_eq_false x2)
  have k3 : ((ofNats nm).toList == [103, 101, 116]) = false := (lit_is n8 (c := nGet) (b8_lit (by decide)) rfl).trans (decide_eq_false x3)
  have k4 : ((ofNats nm).toList == [114, 115, 99, 97, 110]) = false := (lit_is n8 (c := nRscan) (b8_lit (by decide)) rfl).trans (decide_eq_false x4)
  have k5 : ((ofNats nm).toList == [115, 99, 97, 110]) = false := (lit_is n8 (c := nScan) (b8_lit (by decide)) rfl).trans (decide_eq_false x5)
  have k6 : ((ofNats nm).toList == [112, 117, 116]) = false := (lit_is n8 (c := nPut) (b8_lit (by decide)) rfl).trans (decide_eq_false x6)
  have k7 : ((ofNats nm).toList == [100, 101, 108]) = false := (lit_is n8 (c := nDel) (b8_lit (by decide)) rfl).trans (decide_eq_false x7)
  have k8 : ((ofNats nm).toList == [99, 111, 109, 109, 105, 116]) = false := (lit_is n8 (c := nCommit) (b8_lit (by decide)) rfl).trans (decide_eq_false x8)
  have k9 : ((ofNats nm).toList == [97, 98, 111, 114, 116]) = false := (lit_is n8 (c := nAbort) (b8_lit (by decide)) rfl).trans (decide_eq_false x9)
  have HX := hid (And.intro x0 (And.intro x1 (And.intro x2 (And.intro x3 (And.intro x4 (And.intro x5 (And.intro x6 (And.intro x7 (And.intro x8 x9)))))))))
  clear x0 x1 x2 x3 x4 x5 x6 x7 x8 x9
  generalize ofNats nm = s at *
  have O2 := hid (Onl.of_below (F := fun k => k = F) hb2)
  have HSO := hid hso
  have HSR := hid hsr
  clear hso hsr h
  go_enter Tryd.func26, Tryd.ntmps26
  go_wp2_with fail
  rw [← hw2]
  refine CN.out.mono ?_
  rintro e w1 ⟨rfl, h1, o1⟩
  obtain ⟨a1, cap1, hx1⟩ := h1
  have c1 : w1.cell? ⟨F, 1, none⟩ = some (.bool bad) := by rw [Lib.cell_of_heap hx1.box]; rfl
  have f1 : w1.frozen? ⟨F, 1, none⟩ = false := Lib.frozen_of_heap hx1.box 1
  have GZ : Hid (Fd (w1.setCell ⟨F, 1, none⟩ (.bool true)) F B rr true) := hid hx1.mark
  have CZ : Hid (Chg F w (w1.setCell ⟨F, 1, none⟩ (.bool true))) := hid ((O2.out.trans o1).trans chg_put)
  have PZ : Hid ((w1.setCell ⟨F, 1, none⟩ (.bool true)).heap[w.heap.size + 1]? = some (.cells #[.int .i64 0, .bool false, .bool false, .bool false, .string ⟨#[]⟩, .string ⟨#[]⟩, .string ⟨#[]⟩, .string ⟨#[]⟩, .int .i64 0] 27 (0, 0))) := hid ((Below.heap_setCell _ _ _ _ (by show w.heap.size + 1 ≠ F; omega)).trans (keep_blk o1 HSO.out (by omega)))
  have QZ : Hid ((w1.setCell ⟨F, 1, none⟩ (.bool true)).heap[w.heap.size]? = some (.cells #[.int .i64 0, .bool false, .bool false, .bool false, .string ⟨#[]⟩, .string ⟨#[]⟩, .string ⟨#[]⟩, .string ⟨#[]⟩, .int .i64 0] 27 (0, 0))) := hid ((Below.heap_setCell _ _ _ _ (by show w.heap.size ≠ F; omega)).trans (keep_blk o1 HSR.out (by omega)))
  clear hx1 o1 CN hw2 HSO HSR hz
  have RZ : Hid (((w1.setCell ⟨F, 1, none⟩ (.bool true)).setRow w.heap.size #[.int .i64 0, .bool false, .bool false, .bool false, .string ⟨#[]⟩, .string ⟨#[]⟩, .string ⟨#[]⟩, .string ⟨#[]⟩, .int .i64 0]).heap[w.heap.size]? = some (.cells #[.int .i64 0, .bool false, .bool false, .bool false, .string ⟨#[]⟩, .string ⟨#[]⟩, .string ⟨#[]⟩, .string ⟨#[]⟩, .int .i64 0] 27 (0, 0))) := hid (setRow_heap _ _ _ _ _ _ QZ.out)
  have EZ := hid (end_op hFl hB GZ.out CZ.out #[.int .i64 0, .bool false, .bool false, .bool false, .string ⟨#[]⟩, .string ⟨#[]⟩, .string ⟨#[]⟩, .string ⟨#[]⟩, .int .i64 0])
  clear GZ CZ hs2
  go_upto_region 24 with fail
  go_wp2_with (first | (refine wpList_load_at (by rfl) 27 _ (by rfl) ⟨w.heap.size + 1, 0, none⟩ (by rfl) [.int .i64 0, .bool false, .bool false, .bool false, .string ⟨#[]⟩, .string ⟨#[]⟩, .string ⟨#[]⟩, .string ⟨#[]⟩, .int .i64 0] _ (cells_at PZ.out) Tryd.underlying27 (by rfl) infoOp ?_) | (refine wpList_store_row (by rfl) 27 _ _ (by rfl) w.heap.size #[.int .i64 0, .bool false, .bool false, .bool false, .string ⟨#[]⟩, .string ⟨#[]⟩, .string ⟨#[]⟩, .string ⟨#[]⟩, .int .i64 0] (by rfl) (by rfl) _ _ QZ.out infoOp rfl (one9 _ _ _ _ _ _ _ _ _) ?_) | fail)
  have LZ := hid (run_loadVar_at (P := Tryd.prog) _ ⟨w.heap.size, 0, none⟩ 27 [.int .i64 0, .bool false, .bool false, .bool false, .string ⟨#[]⟩, .string ⟨#[]⟩, .string ⟨#[]⟩, .string ⟨#[]⟩, .int .i64 0] _ (cells_at RZ.out) Tryd.underlying27 (by rfl) infoOp)
  refine bodyPost_ret (v := .agg #[.int .i64 0, .bool false, .bool false, .bool false, .string ⟨#[]⟩, .string ⟨#[]⟩, .string ⟨#[]⟩, .string ⟨#[]⟩, .int .i64 0]) (by simp [results, Tryd.results26, Act.put, asAddr, LZ.out]) rfl ?_
  obtain ⟨n, n0, n1, hlim⟩ := lim_some (hdF rr.tail.tail)
  obtain ⟨x0, x1, x2, x3, x4, x5, x6, x7, x8, x9⟩ := HX.out
  have e : opF nm rr n = ⟨Og.zero, true, rr⟩ := by unfold opF; rw [if_neg x0, if_neg x1, if_neg x2, if_neg x3, if_neg x4, if_neg x5, if_neg x6, if_neg x7, if_neg x8, if_neg x9]
  refine ⟨n, n0, n1, hlim, ?_, ?_, EZ.out.2⟩
  · rw [e]; rfl
  · rw [e, Bool.or_true]; exact EZ.out.1
/-- op: what is read off the fields -/
theorem op_is {w0 w : World} {F B : Nat} {r : List (List Nat)} {bad : Bool} (hv : Vars w0) (h0 : Below w0.heap.size w0 w) (hF : w0.heap.size ≤ F) (hB : B ≤ w.heap.size) (h : Fd w F B r bad) (hr : TxOk r) :
    Calls Tryd.prog 26 #[.pointer (some ⟨F, 0, none⟩)] w (OpP w F B bad (nameF r).1 (nameF r).2) := by
  by_cases x0 : (nameF r).1 = bAt
  · exact op_at hv h0 hF hB h hr x0
  by_cases x1 : (nameF r).1 = bRo
  · exact op_ro hv h0 hF hB h hr x1
  by_cases x2 : (nameF r).1 = bRw
  · exact op_rw hv h0 hF hB h hr x2
  by_cases x3 : (nameF r).1 = nGet
  · exact op_get hv h0 hF hB h hr x3
  by_cases x4 : (nameF r).1 = nRscan
  · exact op_rscan hv h0 hF hB h hr x4
  by_cases x5 : (nameF r).1 = nScan
  · exact op_scan hv h0 hF hB h hr x5
  by_cases x6 : (nameF r).1 = nPut
  · exact op_put hv h0 hF hB h hr x6
  by_cases x7 : (nameF r).1 = nDel
  · exact op_del hv h0 hF hB h hr x7
  by_cases x8 : (nameF r).1 = nCommit
  · exact op_commit hv h0 hF hB h hr x8
  by_cases x9 : (nameF r).1 = nAbort
  · exact op_abort hv h0 hF hB h hr x9
  exact op_none hv h0 hF hB h hr x0 x1 x2 x3 x4 x5 x6 x7 x8 x9

end Go.Proofs.YtggmhodogfngdaaDoor.Gt
