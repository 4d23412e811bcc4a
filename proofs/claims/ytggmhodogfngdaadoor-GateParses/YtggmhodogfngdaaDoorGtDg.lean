import Derived.Test.YtggmhodogfngdaaDoorGtDu
import Derived.Test.YtggmhodogfngdaaDoorGtPar
/- The document's guess (written by mk_gtdg.py). -/
namespace Go.Proofs.YtggmhodogfngdaaDoor.Gt
open Go.Proofs.YtggmhodogfngdaaDoor Go.Proofs.YtggmhodogfngdaaDoor.Rt Go.RowKit Go.Sort
set_option linter.unusedVariables false
set_option linter.unusedSimpArgs false

theorem keep_bl {w w' : World} {k : Nat} {x : Obj} (hb : Below w.heap.size w w') (h : w.heap[k]? = some x) : w'.heap[k]? = some x := by
  have hl : k < w.heap.size := by
    rcases Nat.lt_or_ge k w.heap.size with h' | h'
    · exact h'
    · simp [Array.getElem?_eq_none h'] at h
  rw [hb.block k hl]; exact h
theorem hd_getD {A : List (List Nat)} : hdF A = A.getD 0 [] := by cases A <;> rfl
theorem txrow_cell {w : World} {a : Option Addr} {A : List (List Nat)} {g i : Nat} (hr : TxRow w a A) (ha : a = some ⟨g, 0, none⟩) (hi : i < A.length) : w.cell? ⟨g, i, none⟩ = some (.string (ofNats (A.getD i []))) := by
  obtain ⟨g', e, h⟩ := hr i hi
  rw [ha] at e
  injection e with e
  injection e with e
  rw [e]; exact h


set_option maxHeartbeats 4000000 in
set_option maxRecDepth 100000 in
theorem dg_commit {w : World} {A : List (List Nat)} {a : Option Addr} {c : Nat} (hA : TxOk A) (hL : A.length ≤ 401) (h0 : 0 < A.length) (hr : TxRow w a A) (hnm : hdF A = nCommit) :
    Calls Tryd.prog 27 #[.slice a A.length c] w fun e w' => e = .returned (.agg (guessO A).cells.toArray) ∧ Below w.heap.size w w' := by
  obtain ⟨wb, hwb⟩ : ∃ wb, wb = w.alloc (.cells #[.int .i64 0, .bool false, .bool false, .bool false, .string ⟨#[]⟩, .string ⟨#[]⟩, .string ⟨#[]⟩, .string ⟨#[]⟩, .int .i64 0] 27) := ⟨_, rfl⟩
  have hB : Below w.heap.size w wb := by rw [hwb]; (repeat (first | with_reducible exact Below.refl _ _ | with_reducible assumption | with_reducible refine Below.drew ?_ | with_reducible refine Below.al ?_ _ | with_reducible refine Below.setCell ?_ (by first | exact Nat.le_refl _ | (simp; omega) | (simp; done)) _ | with_reducible refine Below.on ?_ (by assumption)))
  have QZ : Hid (wb.heap[w.heap.size]? = some (.cells #[.int .i64 0, .bool false, .bool false, .bool false, .string ⟨#[]⟩, .string ⟨#[]⟩, .string ⟨#[]⟩, .string ⟨#[]⟩, .int .i64 0] 27 (0, 0))) := hid (by rw [hwb]; exact heap_alloc_new w _)
  obtain ⟨g, ha, hc0⟩ := hr 0 h0
  have hgl : g < w.heap.size := World.block_lt_of_cell? _ _ hc0
  clear hc0
  have HR := hid (fun W (hW : Below w.heap.size w W) i (hi : i < A.length) => txrow_cell (hr.later hW) ha hi)
  have CU := hid (fun W (hW : Below w.heap.size w W) i (hi : i ≤ 8) => dunw_is (c := c) hA hL hi (hr.later hW))
  have CN := hid (fun W (hW : Below w.heap.size w W) => dnum_is (c := c) hA hL (hr.later hW))
  have h8 := (hA.hd).1
  have HA8 := hid (fun l (hl : l ∈ A) => (hA l hl).1)
  have HB := hid hB
  clear hr hB hA
  have HE : Hid (guessO A = ⟨6, false, false, false, [], [], [], [], 0⟩) := hid (by unfold guessO; simp [hnm])
  have HNM := hid hnm
  have hx0 := HR.out wb HB.out 0 h0
  have C1 := hid (CU.out wb HB.out 1 (by decide))
  rw [← hd_getD, hnm] at hx0
  have k0 : ((ofNats nCommit).toList == [98, 101, 103, 105, 110]) = false := (lit_is (b8_lit (by decide)) (c := nBegin) (b8_lit (by decide)) rfl).trans (by decide)
  have k1 : ((ofNats nCommit).toList == [103, 101, 116]) = false := (lit_is (b8_lit (by decide)) (c := nGet) (b8_lit (by decide)) rfl).trans (by decide)
  have k2 : ((ofNats nCommit).toList == [100, 101, 108]) = false := (lit_is (b8_lit (by decide)) (c := nDel) (b8_lit (by decide)) rfl).trans (by decide)
  have k3 : ((ofNats nCommit).toList == [112, 117, 116]) = false := (lit_is (b8_lit (by decide)) (c := nPut) (b8_lit (by decide)) rfl).trans (by decide)
  have k4 : ((ofNats nCommit).toList == [115, 99, 97, 110]) = false := (lit_is (b8_lit (by decide)) (c := nScan) (b8_lit (by decide)) rfl).trans (by decide)
  have k5 : ((ofNats nCommit).toList == [114, 115, 99, 97, 110]) = false := (lit_is (b8_lit (by decide)) (c := nRscan) (b8_lit (by decide)) rfl).trans (by decide)
  have k6 : ((ofNats nCommit).toList == [99, 111, 109, 109, 105, 116]) = true := (lit_is (b8_lit (by decide)) (c := nCommit) (b8_lit (by decide)) rfl).trans (by decide)
  generalize hs0 : ofNats nCommit = s0 at *
  have hlt0 : (0 : Int) < (A.length : Int) := by omega
  obtain ⟨t1, ht1⟩ : ∃ t, t = ofNats (unI A 1) := ⟨_, rfl⟩
  rw [← ht1] at C1
  have HT1 := hid ht1.symm
  have hs0 := hid hs0
  subst ha
  clear h8 ht1
  try clear hnm
  go_enter Tryd.func27, Tryd.ntmps27
  go_upto_region 1 with fail
  try rw [← hwb]
  clear hwb
  go_wp2_with fail
  refine C1.out.mono ?_
  rintro e w1 ⟨rfl, hb1⟩
  have HB1 := hid (Below.on HB.out hb1)
  have QZ1 := hid (keep_bl hb1 QZ.out)
  have hx1 := HR.out w1 HB1.out 0 h0
  rw [← hd_getD, HNM.out, hs0.out] at hx1
  clear hb1 C1 hx0
  have RZ : Hid ((w1.setRow w.heap.size #[.int .i64 6, .bool false, .bool false, .bool false, .string ⟨#[]⟩, .string ⟨#[]⟩, .string ⟨#[]⟩, .string ⟨#[]⟩, .int .i64 0]).heap[w.heap.size]? = some (.cells #[.int .i64 6, .bool false, .bool false, .bool false, .string ⟨#[]⟩, .string ⟨#[]⟩, .string ⟨#[]⟩, .string ⟨#[]⟩, .int .i64 0] 27 (0, 0))) := hid (setRow_heap _ _ _ _ _ _ QZ1.out)
  have HBZ := hid (below_row HB1.out (g := w.heap.size) (Nat.le_refl _) #[.int .i64 6, .bool false, .bool false, .bool false, .string ⟨#[]⟩, .string ⟨#[]⟩, .string ⟨#[]⟩, .string ⟨#[]⟩, .int .i64 0])
  go_wp2_with (first | (refine wpList_store_row (by rfl) 27 _ _ (by rfl) w.heap.size #[.int .i64 6, .bool false, .bool false, .bool false, .string ⟨#[]⟩, .string ⟨#[]⟩, .string ⟨#[]⟩, .string ⟨#[]⟩, .int .i64 0] (by rfl) (by rfl) _ _ QZ1.out infoOp rfl (one9 _ _ _ _ _ _ _ _ _) ?_) | fail)
  have LZ := hid (run_loadVar_at (P := Tryd.prog) _ ⟨w.heap.size, 0, none⟩ 27 [.int .i64 6, .bool false, .bool false, .bool false, .string ⟨#[]⟩, .string ⟨#[]⟩, .string ⟨#[]⟩, .string ⟨#[]⟩, .int .i64 0] _ (cells_at RZ.out) Tryd.underlying27 (by rfl) infoOp)
  refine bodyPost_ret (v := .agg #[.int .i64 6, .bool false, .bool false, .bool false, .string ⟨#[]⟩, .string ⟨#[]⟩, .string ⟨#[]⟩, .string ⟨#[]⟩, .int .i64 0]) (by simp [results, Tryd.results27, Act.put, asAddr, LZ.out]) rfl ?_
  exact ⟨by rw [HE.out]; rfl, HBZ.out⟩

set_option maxHeartbeats 4000000 in
set_option maxRecDepth 100000 in
theorem dg_abort {w : World} {A : List (List Nat)} {a : Option Addr} {c : Nat} (hA : TxOk A) (hL : A.length ≤ 401) (h0 : 0 < A.length) (hr : TxRow w a A) (hnm : hdF A = nAbort) :
    Calls Tryd.prog 27 #[.slice a A.length c] w fun e w' => e = .returned (.agg (guessO A).cells.toArray) ∧ Below w.heap.size w w' := by
  obtain ⟨wb, hwb⟩ : ∃ wb, wb = w.alloc (.cells #[.int .i64 0, .bool false, .bool false, .bool false, .string ⟨#[]⟩, .string ⟨#[]⟩, .string ⟨#[]⟩, .string ⟨#[]⟩, .int .i64 0] 27) := ⟨_, rfl⟩
  have hB : Below w.heap.size w wb := by rw [hwb]; (repeat (first | with_reducible exact Below.refl _ _ | with_reducible assumption | with_reducible refine Below.drew ?_ | with_reducible refine Below.al ?_ _ | with_reducible refine Below.setCell ?_ (by first | exact Nat.le_refl _ | (simp; omega) | (simp; done)) _ | with_reducible refine Below.on ?_ (by assumption)))
  have QZ : Hid (wb.heap[w.heap.size]? = some (.cells #[.int .i64 0, .bool false, .bool false, .bool false, .string ⟨#[]⟩, .string ⟨#[]⟩, .string ⟨#[]⟩, .string ⟨#[]⟩, .int .i64 0] 27 (0, 0))) := hid (by rw [hwb]; exact heap_alloc_new w _)
  obtain ⟨g, ha, hc0⟩ := hr 0 h0
  have hgl : g < w.heap.size := World.block_lt_of_cell? _ _ hc0
  clear hc0
  have HR := hid (fun W (hW : Below w.heap.size w W) i (hi : i < A.length) => txrow_cell (hr.later hW) ha hi)
  have CU := hid (fun W (hW : Below w.heap.size w W) i (hi : i ≤ 8) => dunw_is (c := c) hA hL hi (hr.later hW))
  have CN := hid (fun W (hW : Below w.heap.size w W) => dnum_is (c := c) hA hL (hr.later hW))
  have h8 := (hA.hd).1
  have HA8 := hid (fun l (hl : l ∈ A) => (hA l hl).1)
  have HB := hid hB
  clear hr hB hA
  have HE : Hid (guessO A = ⟨7, false, false, false, [], [], [], [], 0⟩) := hid (by unfold guessO; simp [hnm])
  have HNM := hid hnm
  have hx0 := HR.out wb HB.out 0 h0
  have C1 := hid (CU.out wb HB.out 1 (by decide))
  rw [← hd_getD, hnm] at hx0
  have k0 : ((ofNats nAbort).toList == [98, 101, 103, 105, 110]) = false := (lit_is (b8_lit (by decide)) (c := nBegin) (b8_lit (by decide)) rfl).trans (by decide)
  have k1 : ((ofNats nAbort).toList == [103, 101, 116]) = false := (lit_is (b8_lit (by decide)) (c := nGet) (b8_lit (by decide)) rfl).trans (by decide)
  have k2 : ((ofNats nAbort).toList == [100, 101, 108]) = false := (lit_is (b8_lit (by decide)) (c := nDel) (b8_lit (by decide)) rfl).trans (by decide)
  have k3 : ((ofNats nAbort).toList == [112, 117, 116]) = false := (lit_is (b8_lit (by decide)) (c := nPut) (b8_lit (by decide)) rfl).trans (by decide)
  have k4 : ((ofNats nAbort).toList == [115, 99, 97, 110]) = false := (lit_is (b8_lit (by decide)) (c := nScan) (b8_lit (by decide)) rfl).trans (by decide)
  have k5 : ((ofNats nAbort).toList == [114, 115, 99, 97, 110]) = false := (lit_is (b8_lit (by decide)) (c := nRscan) (b8_lit (by decide)) rfl).trans (by decide)
  have k6 : ((ofNats nAbort).toList == [99, 111, 109, 109, 105, 116]) = false := (lit_is (b8_lit (by decide)) (c := nCommit) (b8_lit (by decide)) rfl).trans (by decide)
  have k7 : ((ofNats nAbort).toList == [97, 98, 111, 114, 116]) = true := (lit_is (b8_lit (by decide)) (c := nAbort) (b8_lit (by decide)) rfl).trans (by decide)
  generalize hs0 : ofNats nAbort = s0 at *
  have hlt0 : (0 : Int) < (A.length : Int) := by omega
  obtain ⟨t1, ht1⟩ : ∃ t, t = ofNats (unI A 1) := ⟨_, rfl⟩
  rw [← ht1] at C1
  have HT1 := hid ht1.symm
  have hs0 := hid hs0
  subst ha
  clear h8 ht1
  try clear hnm
  go_enter Tryd.func27, Tryd.ntmps27
  go_upto_region 1 with fail
  try rw [← hwb]
  clear hwb
  go_wp2_with fail
  refine C1.out.mono ?_
  rintro e w1 ⟨rfl, hb1⟩
  have HB1 := hid (Below.on HB.out hb1)
  have QZ1 := hid (keep_bl hb1 QZ.out)
  have hx1 := HR.out w1 HB1.out 0 h0
  rw [← hd_getD, HNM.out, hs0.out] at hx1
  clear hb1 C1 hx0
  have RZ : Hid ((w1.setRow w.heap.size #[.int .i64 7, .bool false, .bool false, .bool false, .string ⟨#[]⟩, .string ⟨#[]⟩, .string ⟨#[]⟩, .string ⟨#[]⟩, .int .i64 0]).heap[w.heap.size]? = some (.cells #[.int .i64 7, .bool false, .bool false, .bool false, .string ⟨#[]⟩, .string ⟨#[]⟩, .string ⟨#[]⟩, .string ⟨#[]⟩, .int .i64 0] 27 (0, 0))) := hid (setRow_heap _ _ _ _ _ _ QZ1.out)
  have HBZ := hid (below_row HB1.out (g := w.heap.size) (Nat.le_refl _) #[.int .i64 7, .bool false, .bool false, .bool false, .string ⟨#[]⟩, .string ⟨#[]⟩, .string ⟨#[]⟩, .string ⟨#[]⟩, .int .i64 0])
  go_wp2_with (first | (refine wpList_store_row (by rfl) 27 _ _ (by rfl) w.heap.size #[.int .i64 7, .bool false, .bool false, .bool false, .string ⟨#[]⟩, .string ⟨#[]⟩, .string ⟨#[]⟩, .string ⟨#[]⟩, .int .i64 0] (by rfl) (by rfl) _ _ QZ1.out infoOp rfl (one9 _ _ _ _ _ _ _ _ _) ?_) | fail)
  have LZ := hid (run_loadVar_at (P := Tryd.prog) _ ⟨w.heap.size, 0, none⟩ 27 [.int .i64 7, .bool false, .bool false, .bool false, .string ⟨#[]⟩, .string ⟨#[]⟩, .string ⟨#[]⟩, .string ⟨#[]⟩, .int .i64 0] _ (cells_at RZ.out) Tryd.underlying27 (by rfl) infoOp)
  refine bodyPost_ret (v := .agg #[.int .i64 7, .bool false, .bool false, .bool false, .string ⟨#[]⟩, .string ⟨#[]⟩, .string ⟨#[]⟩, .string ⟨#[]⟩, .int .i64 0]) (by simp [results, Tryd.results27, Act.put, asAddr, LZ.out]) rfl ?_
  exact ⟨by rw [HE.out]; rfl, HBZ.out⟩

set_option maxHeartbeats 4000000 in
set_option maxRecDepth 100000 in
theorem dg_get {w : World} {A : List (List Nat)} {a : Option Addr} {c : Nat} (hA : TxOk A) (hL : A.length ≤ 401) (h0 : 0 < A.length) (hr : TxRow w a A) (hnm : hdF A = nGet) :
    Calls Tryd.prog 27 #[.slice a A.length c] w fun e w' => e = .returned (.agg (guessO A).cells.toArray) ∧ Below w.heap.size w w' := by
  obtain ⟨wb, hwb⟩ : ∃ wb, wb = w.alloc (.cells #[.int .i64 0, .bool false, .bool false, .bool false, .string ⟨#[]⟩, .string ⟨#[]⟩, .string ⟨#[]⟩, .string ⟨#[]⟩, .int .i64 0] 27) := ⟨_, rfl⟩
  have hB : Below w.heap.size w wb := by rw [hwb]; (repeat (first | with_reducible exact Below.refl _ _ | with_reducible assumption | with_reducible refine Below.drew ?_ | with_reducible refine Below.al ?_ _ | with_reducible refine Below.setCell ?_ (by first | exact Nat.le_refl _ | (simp; omega) | (simp; done)) _ | with_reducible refine Below.on ?_ (by assumption)))
  have QZ : Hid (wb.heap[w.heap.size]? = some (.cells #[.int .i64 0, .bool false, .bool false, .bool false, .string ⟨#[]⟩, .string ⟨#[]⟩, .string ⟨#[]⟩, .string ⟨#[]⟩, .int .i64 0] 27 (0, 0))) := hid (by rw [hwb]; exact heap_alloc_new w _)
  obtain ⟨g, ha, hc0⟩ := hr 0 h0
  have hgl : g < w.heap.size := World.block_lt_of_cell? _ _ hc0
  clear hc0
  have HR := hid (fun W (hW : Below w.heap.size w W) i (hi : i < A.length) => txrow_cell (hr.later hW) ha hi)
  have CU := hid (fun W (hW : Below w.heap.size w W) i (hi : i ≤ 8) => dunw_is (c := c) hA hL hi (hr.later hW))
  have CN := hid (fun W (hW : Below w.heap.size w W) => dnum_is (c := c) hA hL (hr.later hW))
  have h8 := (hA.hd).1
  have HA8 := hid (fun l (hl : l ∈ A) => (hA l hl).1)
  have HB := hid hB
  clear hr hB hA
  have HE : Hid (guessO A = ⟨2, false, false, false, [], unI A 1, [], [], 0⟩) := hid (by unfold guessO; simp [hnm])
  have HNM := hid hnm
  have hx0 := HR.out wb HB.out 0 h0
  have C1 := hid (CU.out wb HB.out 1 (by decide))
  rw [← hd_getD, hnm] at hx0
  have k0 : ((ofNats nGet).toList == [98, 101, 103, 105, 110]) = false := (lit_is (b8_lit (by decide)) (c := nBegin) (b8_lit (by decide)) rfl).trans (by decide)
  have k1 : ((ofNats nGet).toList == [103, 101, 116]) = true := (lit_is (b8_lit (by decide)) (c := nGet) (b8_lit (by decide)) rfl).trans (by decide)
  generalize hs0 : ofNats nGet = s0 at *
  have hlt0 : (0 : Int) < (A.length : Int) := by omega
  obtain ⟨t1, ht1⟩ : ∃ t, t = ofNats (unI A 1) := ⟨_, rfl⟩
  rw [← ht1] at C1
  have HT1 := hid ht1.symm
  have hs0 := hid hs0
  subst ha
  clear h8 ht1
  try clear hnm
  go_enter Tryd.func27, Tryd.ntmps27
  go_upto_region 1 with fail
  try rw [← hwb]
  clear hwb
  go_wp2_with fail
  refine C1.out.mono ?_
  rintro e w1 ⟨rfl, hb1⟩
  have HB1 := hid (Below.on HB.out hb1)
  have QZ1 := hid (keep_bl hb1 QZ.out)
  have hx1 := HR.out w1 HB1.out 0 h0
  rw [← hd_getD, HNM.out, hs0.out] at hx1
  clear hb1 C1 hx0
  have RZ : Hid ((w1.setRow w.heap.size #[.int .i64 2, .bool false, .bool false, .bool false, .string ⟨#[]⟩, .string t1, .string ⟨#[]⟩, .string ⟨#[]⟩, .int .i64 0]).heap[w.heap.size]? = some (.cells #[.int .i64 2, .bool false, .bool false, .bool false, .string ⟨#[]⟩, .string t1, .string ⟨#[]⟩, .string ⟨#[]⟩, .int .i64 0] 27 (0, 0))) := hid (setRow_heap _ _ _ _ _ _ QZ1.out)
  have HBZ := hid (below_row HB1.out (g := w.heap.size) (Nat.le_refl _) #[.int .i64 2, .bool false, .bool false, .bool false, .string ⟨#[]⟩, .string t1, .string ⟨#[]⟩, .string ⟨#[]⟩, .int .i64 0])
  go_wp2_with (first | (refine wpList_store_row (by rfl) 27 _ _ (by rfl) w.heap.size #[.int .i64 2, .bool false, .bool false, .bool false, .string ⟨#[]⟩, .string t1, .string ⟨#[]⟩, .string ⟨#[]⟩, .int .i64 0] (by rfl) (by rfl) _ _ QZ1.out infoOp rfl (one9 _ _ _ _ _ _ _ _ _) ?_) | fail)
  have LZ := hid (run_loadVar_at (P := Tryd.prog) _ ⟨w.heap.size, 0, none⟩ 27 [.int .i64 2, .bool false, .bool false, .bool false, .string ⟨#[]⟩, .string t1, .string ⟨#[]⟩, .string ⟨#[]⟩, .int .i64 0] _ (cells_at RZ.out) Tryd.underlying27 (by rfl) infoOp)
  refine bodyPost_ret (v := .agg #[.int .i64 2, .bool false, .bool false, .bool false, .string ⟨#[]⟩, .string t1, .string ⟨#[]⟩, .string ⟨#[]⟩, .int .i64 0]) (by simp [results, Tryd.results27, Act.put, asAddr, LZ.out]) rfl ?_
  exact ⟨by rw [HE.out, ← HT1.out]; rfl, HBZ.out⟩

set_option maxHeartbeats 4000000 in
set_option maxRecDepth 100000 in
theorem dg_del {w : World} {A : List (List Nat)} {a : Option Addr} {c : Nat} (hA : TxOk A) (hL : A.length ≤ 401) (h0 : 0 < A.length) (hr : TxRow w a A) (hnm : hdF A = nDel) :
    Calls Tryd.prog 27 #[.slice a A.length c] w fun e w' => e = .returned (.agg (guessO A).cells.toArray) ∧ Below w.heap.size w w' := by
  obtain ⟨wb, hwb⟩ : ∃ wb, wb = w.alloc (.cells #[.int .i64 0, .bool false, .bool false, .bool false, .string ⟨#[]⟩, .string ⟨#[]⟩, .string ⟨#[]⟩, .string ⟨#[]⟩, .int .i64 0] 27) := ⟨_, rfl⟩
  have hB : Below w.heap.size w wb := by rw [hwb]; (repeat (first | with_reducible exact Below.refl _ _ | with_reducible assumption | with_reducible refine Below.drew ?_ | with_reducible refine Below.al ?_ _ | with_reducible refine Below.setCell ?_ (by first | exact Nat.le_refl _ | (simp; omega) | (simp; done)) _ | with_reducible refine Below.on ?_ (by assumption)))
  have QZ : Hid (wb.heap[w.heap.size]? = some (.cells #[.int .i64 0, .bool false, .bool false, .bool false, .string ⟨#[]⟩, .string ⟨#[]⟩, .string ⟨#[]⟩, .string ⟨#[]⟩, .int .i64 0] 27 (0, 0))) := hid (by rw [hwb]; exact heap_alloc_new w _)
  obtain ⟨g, ha, hc0⟩ := hr 0 h0
  have hgl : g < w.heap.size := World.block_lt_of_cell? _ _ hc0
  clear hc0
  have HR := hid (fun W (hW : Below w.heap.size w W) i (hi : i < A.length) => txrow_cell (hr.later hW) ha hi)
  have CU := hid (fun W (hW : Below w.heap.size w W) i (hi : i ≤ 8) => dunw_is (c := c) hA hL hi (hr.later hW))
  have CN := hid (fun W (hW : Below w.heap.size w W) => dnum_is (c := c) hA hL (hr.later hW))
  have h8 := (hA.hd).1
  have HA8 := hid (fun l (hl : l ∈ A) => (hA l hl).1)
  have HB := hid hB
  clear hr hB hA
  have HE : Hid (guessO A = ⟨5, false, false, false, [], unI A 1, [], [], 0⟩) := hid (by unfold guessO; simp [hnm])
  have HNM := hid hnm
  have hx0 := HR.out wb HB.out 0 h0
  have C1 := hid (CU.out wb HB.out 1 (by decide))
  rw [← hd_getD, hnm] at hx0
  have k0 : ((ofNats nDel).toList == [98, 101, 103, 105, 110]) = false := (lit_is (b8_lit (by decide)) (c := nBegin) (b8_lit (by decide)) rfl).trans (by decide)
  have k1 : ((ofNats nDel).toList == [103, 101, 116]) = false := (lit_is (b8_lit (by decide)) (c := nGet) (b8_lit (by decide)) rfl).trans (by decide)
  have k2 : ((ofNats nDel).toList == [100, 101, 108]) = true := (lit_is (b8_lit (by decide)) (c := nDel) (b8_lit (by decide)) rfl).trans (by decide)
  generalize hs0 : ofNats nDel = s0 at *
  have hlt0 : (0 : Int) < (A.length : Int) := by omega
  obtain ⟨t1, ht1⟩ : ∃ t, t = ofNats (unI A 1) := ⟨_, rfl⟩
  rw [← ht1] at C1
  have HT1 := hid ht1.symm
  have hs0 := hid hs0
  subst ha
  clear h8 ht1
  try clear hnm
  go_enter Tryd.func27, Tryd.ntmps27
  go_upto_region 1 with fail
  try rw [← hwb]
  clear hwb
  go_wp2_with fail
  refine C1.out.mono ?_
  rintro e w1 ⟨rfl, hb1⟩
  have HB1 := hid (Below.on HB.out hb1)
  have QZ1 := hid (keep_bl hb1 QZ.out)
  have hx1 := HR.out w1 HB1.out 0 h0
  rw [← hd_getD, HNM.out, hs0.out] at hx1
  clear hb1 C1 hx0
  have RZ : Hid ((w1.setRow w.heap.size #[.int .i64 5, .bool false, .bool false, .bool false, .string ⟨#[]⟩, .string t1, .string ⟨#[]⟩, .string ⟨#[]⟩, .int .i64 0]).heap[w.heap.size]? = some (.cells #[.int .i64 5, .bool false, .bool false, .bool false, .string ⟨#[]⟩, .string t1, .string ⟨#[]⟩, .string ⟨#[]⟩, .int .i64 0] 27 (0, 0))) := hid (setRow_heap _ _ _ _ _ _ QZ1.out)
  have HBZ := hid (below_row HB1.out (g := w.heap.size) (Nat.le_refl _) #[.int .i64 5, .bool false, .bool false, .bool false, .string ⟨#[]⟩, .string t1, .string ⟨#[]⟩, .string ⟨#[]⟩, .int .i64 0])
  go_wp2_with (first | (refine wpList_store_row (by rfl) 27 _ _ (by rfl) w.heap.size #[.int .i64 5, .bool false, .bool false, .bool false, .string ⟨#[]⟩, .string t1, .string ⟨#[]⟩, .string ⟨#[]⟩, .int .i64 0] (by rfl) (by rfl) _ _ QZ1.out infoOp rfl (one9 _ _ _ _ _ _ _ _ _) ?_) | fail)
  have LZ := hid (run_loadVar_at (P := Tryd.prog) _ ⟨w.heap.size, 0, none⟩ 27 [.int .i64 5, .bool false, .bool false, .bool false, .string ⟨#[]⟩, .string t1, .string ⟨#[]⟩, .string ⟨#[]⟩, .int .i64 0] _ (cells_at RZ.out) Tryd.underlying27 (by rfl) infoOp)
  refine bodyPost_ret (v := .agg #[.int .i64 5, .bool false, .bool false, .bool false, .string ⟨#[]⟩, .string t1, .string ⟨#[]⟩, .string ⟨#[]⟩, .int .i64 0]) (by simp [results, Tryd.results27, Act.put, asAddr, LZ.out]) rfl ?_
  exact ⟨by rw [HE.out, ← HT1.out]; rfl, HBZ.out⟩

set_option maxHeartbeats 4000000 in
set_option maxRecDepth 100000 in
theorem dg_put {w : World} {A : List (List Nat)} {a : Option Addr} {c : Nat} (hA : TxOk A) (hL : A.length ≤ 401) (h0 : 0 < A.length) (hr : TxRow w a A) (hnm : hdF A = nPut) :
    Calls Tryd.prog 27 #[.slice a A.length c] w fun e w' => e = .returned (.agg (guessO A).cells.toArray) ∧ Below w.heap.size w w' := by
  obtain ⟨wb, hwb⟩ : ∃ wb, wb = w.alloc (.cells #[.int .i64 0, .bool false, .bool false, .bool false, .string ⟨#[]⟩, .string ⟨#[]⟩, .string ⟨#[]⟩, .string ⟨#[]⟩, .int .i64 0] 27) := ⟨_, rfl⟩
  have hB : Below w.heap.size w wb := by rw [hwb]; (repeat (first | with_reducible exact Below.refl _ _ | with_reducible assumption | with_reducible refine Below.drew ?_ | with_reducible refine Below.al ?_ _ | with_reducible refine Below.setCell ?_ (by first | exact Nat.le_refl _ | (simp; omega) | (simp; done)) _ | with_reducible refine Below.on ?_ (by assumption)))
  have QZ : Hid (wb.heap[w.heap.size]? = some (.cells #[.int .i64 0, .bool false, .bool false, .bool false, .string ⟨#[]⟩, .string ⟨#[]⟩, .string ⟨#[]⟩, .string ⟨#[]⟩, .int .i64 0] 27 (0, 0))) := hid (by rw [hwb]; exact heap_alloc_new w _)
  obtain ⟨g, ha, hc0⟩ := hr 0 h0
  have hgl : g < w.heap.size := World.block_lt_of_cell? _ _ hc0
  clear hc0
  have HR := hid (fun W (hW : Below w.heap.size w W) i (hi : i < A.length) => txrow_cell (hr.later hW) ha hi)
  have CU := hid (fun W (hW : Below w.heap.size w W) i (hi : i ≤ 8) => dunw_is (c := c) hA hL hi (hr.later hW))
  have CN := hid (fun W (hW : Below w.heap.size w W) => dnum_is (c := c) hA hL (hr.later hW))
  have h8 := (hA.hd).1
  have HA8 := hid (fun l (hl : l ∈ A) => (hA l hl).1)
  have HB := hid hB
  clear hr hB hA
  have HE : Hid (guessO A = ⟨4, false, false, false, [], unI A 1, [], unI A 2, 0⟩) := hid (by unfold guessO; simp [hnm])
  have HNM := hid hnm
  have hx0 := HR.out wb HB.out 0 h0
  have C1 := hid (CU.out wb HB.out 1 (by decide))
  rw [← hd_getD, hnm] at hx0
  have k0 : ((ofNats nPut).toList == [98, 101, 103, 105, 110]) = false := (lit_is (b8_lit (by decide)) (c := nBegin) (b8_lit (by decide)) rfl).trans (by decide)
  have k1 : ((ofNats nPut).toList == [103, 101, 116]) = false := (lit_is (b8_lit (by decide)) (c := nGet) (b8_lit (by decide)) rfl).trans (by decide)
  have k2 : ((ofNats nPut).toList == [100, 101, 108]) = false := (lit_is (b8_lit (by decide)) (c := nDel) (b8_lit (by decide)) rfl).trans (by decide)
  have k3 : ((ofNats nPut).toList == [112, 117, 116]) = true := (lit_is (b8_lit (by decide)) (c := nPut) (b8_lit (by decide)) rfl).trans (by decide)
  generalize hs0 : ofNats nPut = s0 at *
  have hlt0 : (0 : Int) < (A.length : Int) := by omega
  obtain ⟨t1, ht1⟩ : ∃ t, t = ofNats (unI A 1) := ⟨_, rfl⟩
  rw [← ht1] at C1
  have HT1 := hid ht1.symm
  have hs0 := hid hs0
  subst ha
  clear h8 ht1
  try clear hnm
  go_enter Tryd.func27, Tryd.ntmps27
  go_upto_region 1 with fail
  try rw [← hwb]
  clear hwb
  go_wp2_with fail
  refine C1.out.mono ?_
  rintro e w1 ⟨rfl, hb1⟩
  have HB1 := hid (Below.on HB.out hb1)
  have QZ1 := hid (keep_bl hb1 QZ.out)
  have hx1 := HR.out w1 HB1.out 0 h0
  rw [← hd_getD, HNM.out, hs0.out] at hx1
  clear hb1 C1 hx0
  have C2 := hid (CU.out w1 HB1.out 2 (by decide))
  obtain ⟨t2, ht2⟩ : ∃ t, t = ofNats (unI A 2) := ⟨_, rfl⟩
  rw [← ht2] at C2
  have HT2 := hid ht2.symm
  clear ht2
  go_wp2_with fail
  refine C2.out.mono ?_
  rintro e w2 ⟨rfl, hb2⟩
  have HB2 := hid (Below.on HB1.out hb2)
  have QZ2 := hid (keep_bl hb2 QZ1.out)
  clear hb2 C2
  have RZ : Hid ((w2.setRow w.heap.size #[.int .i64 4, .bool false, .bool false, .bool false, .string ⟨#[]⟩, .string t1, .string ⟨#[]⟩, .string t2, .int .i64 0]).heap[w.heap.size]? = some (.cells #[.int .i64 4, .bool false, .bool false, .bool false, .string ⟨#[]⟩, .string t1, .string ⟨#[]⟩, .string t2, .int .i64 0] 27 (0, 0))) := hid (setRow_heap _ _ _ _ _ _ QZ2.out)
  have HBZ := hid (below_row HB2.out (g := w.heap.size) (Nat.le_refl _) #[.int .i64 4, .bool false, .bool false, .bool false, .string ⟨#[]⟩, .string t1, .string ⟨#[]⟩, .string t2, .int .i64 0])
  go_wp2_with (first | (refine wpList_store_row (by rfl) 27 _ _ (by rfl) w.heap.size #[.int .i64 4, .bool false, .bool false, .bool false, .string ⟨#[]⟩, .string t1, .string ⟨#[]⟩, .string t2, .int .i64 0] (by rfl) (by rfl) _ _ QZ2.out infoOp rfl (one9 _ _ _ _ _ _ _ _ _) ?_) | fail)
  have LZ := hid (run_loadVar_at (P := Tryd.prog) _ ⟨w.heap.size, 0, none⟩ 27 [.int .i64 4, .bool false, .bool false, .bool false, .string ⟨#[]⟩, .string t1, .string ⟨#[]⟩, .string t2, .int .i64 0] _ (cells_at RZ.out) Tryd.underlying27 (by rfl) infoOp)
  refine bodyPost_ret (v := .agg #[.int .i64 4, .bool false, .bool false, .bool false, .string ⟨#[]⟩, .string t1, .string ⟨#[]⟩, .string t2, .int .i64 0]) (by simp [results, Tryd.results27, Act.put, asAddr, LZ.out]) rfl ?_
  exact ⟨by rw [HE.out, ← HT1.out, ← HT2.out]; rfl, HBZ.out⟩

set_option maxHeartbeats 4000000 in
set_option maxRecDepth 100000 in
theorem dg_none {w : World} {A : List (List Nat)} {a : Option Addr} {c : Nat} (hA : TxOk A) (hL : A.length ≤ 401) (h0 : 0 < A.length) (hr : TxRow w a A) (n0 : hdF A ≠ nBegin) (n1 : hdF A ≠ nGet) (n2 : hdF A ≠ nDel) (n3 : hdF A ≠ nPut) (n4 : hdF A ≠ nScan) (n5 : hdF A ≠ nRscan) (n6 : hdF A ≠ nCommit) (n7 : hdF A ≠ nAbort) :
    Calls Tryd.prog 27 #[.slice a A.length c] w fun e w' => e = .returned (.agg (guessO A).cells.toArray) ∧ Below w.heap.size w w' := by
  obtain ⟨wb, hwb⟩ : ∃ wb, wb = w.alloc (.cells #[.int .i64 0, .bool false, .bool false, .bool false, .string ⟨#[]⟩, .string ⟨#[]⟩, .string ⟨#[]⟩, .string ⟨#[]⟩, .int .i64 0] 27) := ⟨_, rfl⟩
  have hB : Below w.heap.size w wb := by rw [hwb]; (repeat (first | with_reducible exact Below.refl _ _ | with_reducible assumption | with_reducible refine Below.drew ?_ | with_reducible refine Below.al ?_ _ | with_reducible refine Below.setCell ?_ (by first | exact Nat.le_refl _ | (simp; omega) | (simp; done)) _ | with_reducible refine Below.on ?_ (by assumption)))
  have QZ : Hid (wb.heap[w.heap.size]? = some (.cells #[.int .i64 0, .bool false, .bool false, .bool false, .string ⟨#[]⟩, .string ⟨#[]⟩, .string ⟨#[]⟩, .string ⟨#[]⟩, .int .i64 0] 27 (0, 0))) := hid (by rw [hwb]; exact heap_alloc_new w _)
  obtain ⟨g, ha, hc0⟩ := hr 0 h0
  have hgl : g < w.heap.size := World.block_lt_of_cell? _ _ hc0
  clear hc0
  have HR := hid (fun W (hW : Below w.heap.size w W) i (hi : i < A.length) => txrow_cell (hr.later hW) ha hi)
  have CU := hid (fun W (hW : Below w.heap.size w W) i (hi : i ≤ 8) => dunw_is (c := c) hA hL hi (hr.later hW))
  have CN := hid (fun W (hW : Below w.heap.size w W) => dnum_is (c := c) hA hL (hr.later hW))
  have h8 := (hA.hd).1
  have HA8 := hid (fun l (hl : l ∈ A) => (hA l hl).1)
  have HB := hid hB
  clear hr hB hA
  have HE : Hid (guessO A = Og.zero) := hid (by unfold guessO; simp [n0, n1, n2, n3, n4, n5, n6, n7])
  have hx0 := HR.out wb HB.out 0 h0
  have C1 := hid (CU.out wb HB.out 1 (by decide))
  rw [← hd_getD] at hx0
  have k0 : ((ofNats (hdF A)).toList == [98, 101, 103, 105, 110]) = false := (lit_is h8 (c := nBegin) (b8_lit (by decide)) rfl).trans (by simp [n0])
  have k1 : ((ofNats (hdF A)).toList == [103, 101, 116]) = false := (lit_is h8 (c := nGet) (b8_lit (by decide)) rfl).trans (by simp [n1])
  have k2 : ((ofNats (hdF A)).toList == [100, 101, 108]) = false := (lit_is h8 (c := nDel) (b8_lit (by decide)) rfl).trans (by simp [n2])
  have k3 : ((ofNats (hdF A)).toList == [112, 117, 116]) = false := (lit_is h8 (c := nPut) (b8_lit (by decide)) rfl).trans (by simp [n3])
  have k4 : ((ofNats (hdF A)).toList == [115, 99, 97, 110]) = false := (lit_is h8 (c := nScan) (b8_lit (by decide)) rfl).trans (by simp [n4])
  have k5 : ((ofNats (hdF A)).toList == [114, 115, 99, 97, 110]) = false := (lit_is h8 (c := nRscan) (b8_lit (by decide)) rfl).trans (by simp [n5])
  have k6 : ((ofNats (hdF A)).toList == [99, 111, 109, 109, 105, 116]) = false := (lit_is h8 (c := nCommit) (b8_lit (by decide)) rfl).trans (by simp [n6])
  have k7 : ((ofNats (hdF A)).toList == [97, 98, 111, 114, 116]) = false := (lit_is h8 (c := nAbort) (b8_lit (by decide)) rfl).trans (by simp [n7])
  generalize hs0 : ofNats (hdF A) = s0 at *
  have hlt0 : (0 : Int) < (A.length : Int) := by omega
  obtain ⟨t1, ht1⟩ : ∃ t, t = ofNats (unI A 1) := ⟨_, rfl⟩
  rw [← ht1] at C1
  have HT1 := hid ht1.symm
  have hs0 := hid hs0
  subst ha
  clear h8 ht1
  try clear hnm
  go_enter Tryd.func27, Tryd.ntmps27
  go_upto_region 1 with fail
  try rw [← hwb]
  clear hwb
  go_wp2_with fail
  refine C1.out.mono ?_
  rintro e w1 ⟨rfl, hb1⟩
  have HB1 := hid (Below.on HB.out hb1)
  have QZ1 := hid (keep_bl hb1 QZ.out)
  have hx1 := HR.out w1 HB1.out 0 h0
  rw [← hd_getD, hs0.out] at hx1
  clear hb1 C1 hx0
  have RZ : Hid ((w1.setRow w.heap.size #[.int .i64 0, .bool false, .bool false, .bool false, .string ⟨#[]⟩, .string ⟨#[]⟩, .string ⟨#[]⟩, .string ⟨#[]⟩, .int .i64 0]).heap[w.heap.size]? = some (.cells #[.int .i64 0, .bool false, .bool false, .bool false, .string ⟨#[]⟩, .string ⟨#[]⟩, .string ⟨#[]⟩, .string ⟨#[]⟩, .int .i64 0] 27 (0, 0))) := hid (setRow_heap _ _ _ _ _ _ QZ1.out)
  have HBZ := hid (below_row HB1.out (g := w.heap.size) (Nat.le_refl _) #[.int .i64 0, .bool false, .bool false, .bool false, .string ⟨#[]⟩, .string ⟨#[]⟩, .string ⟨#[]⟩, .string ⟨#[]⟩, .int .i64 0])
  go_wp2_with (first | (refine wpList_store_row (by rfl) 27 _ _ (by rfl) w.heap.size #[.int .i64 0, .bool false, .bool false, .bool false, .string ⟨#[]⟩, .string ⟨#[]⟩, .string ⟨#[]⟩, .string ⟨#[]⟩, .int .i64 0] (by rfl) (by rfl) _ _ QZ1.out infoOp rfl (one9 _ _ _ _ _ _ _ _ _) ?_) | fail)
  have LZ := hid (run_loadVar_at (P := Tryd.prog) _ ⟨w.heap.size, 0, none⟩ 27 [.int .i64 0, .bool false, .bool false, .bool false, .string ⟨#[]⟩, .string ⟨#[]⟩, .string ⟨#[]⟩, .string ⟨#[]⟩, .int .i64 0] _ (cells_at RZ.out) Tryd.underlying27 (by rfl) infoOp)
  refine bodyPost_ret (v := .agg #[.int .i64 0, .bool false, .bool false, .bool false, .string ⟨#[]⟩, .string ⟨#[]⟩, .string ⟨#[]⟩, .string ⟨#[]⟩, .int .i64 0]) (by simp [results, Tryd.results27, Act.put, asAddr, LZ.out]) rfl ?_
  exact ⟨by rw [HE.out]; rfl, HBZ.out⟩

set_option maxHeartbeats 4000000 in
set_option maxRecDepth 100000 in
theorem dg_begin {w : World} {A : List (List Nat)} {a : Option Addr} {c : Nat} (hA : TxOk A) (hL : A.length ≤ 401) (h0 : 0 < A.length) (hr : TxRow w a A) (hnm : hdF A = nBegin) :
    Calls Tryd.prog 27 #[.slice a A.length c] w fun e w' => e = .returned (.agg (guessO A).cells.toArray) ∧ Below w.heap.size w w' := by
  obtain ⟨wb, hwb⟩ : ∃ wb, wb = w.alloc (.cells #[.int .i64 0, .bool false, .bool false, .bool false, .string ⟨#[]⟩, .string ⟨#[]⟩, .string ⟨#[]⟩, .string ⟨#[]⟩, .int .i64 0] 27) := ⟨_, rfl⟩
  have hB : Below w.heap.size w wb := by rw [hwb]; (repeat (first | with_reducible exact Below.refl _ _ | with_reducible assumption | with_reducible refine Below.drew ?_ | with_reducible refine Below.al ?_ _ | with_reducible refine Below.setCell ?_ (by first | exact Nat.le_refl _ | (simp; omega) | (simp; done)) _ | with_reducible refine Below.on ?_ (by assumption)))
  have QZ : Hid (wb.heap[w.heap.size]? = some (.cells #[.int .i64 0, .bool false, .bool false, .bool false, .string ⟨#[]⟩, .string ⟨#[]⟩, .string ⟨#[]⟩, .string ⟨#[]⟩, .int .i64 0] 27 (0, 0))) := hid (by rw [hwb]; exact heap_alloc_new w _)
  obtain ⟨g, ha, hc0⟩ := hr 0 h0
  have hgl : g < w.heap.size := World.block_lt_of_cell? _ _ hc0
  clear hc0
  have HR := hid (fun W (hW : Below w.heap.size w W) i (hi : i < A.length) => txrow_cell (hr.later hW) ha hi)
  have CU := hid (fun W (hW : Below w.heap.size w W) i (hi : i ≤ 8) => dunw_is (c := c) hA hL hi (hr.later hW))
  have CN := hid (fun W (hW : Below w.heap.size w W) => dnum_is (c := c) hA hL (hr.later hW))
  have h8 := (hA.hd).1
  have HA8 := hid (fun l (hl : l ∈ A) => (hA l hl).1)
  have HB := hid hB
  clear hr hB hA
  have HNM := hid hnm
  have HE0 : Hid (guessO A = ⟨1, (A[1]? = some nAt) || (A[1]? = some nRo), A[1]? = some nAt, false, unI A 2, [], [], [], 0⟩) := hid (by unfold guessO; simp [hnm])
  have hx0 := HR.out wb HB.out 0 h0
  have C1 := hid (CU.out wb HB.out 1 (by decide))
  rw [← hd_getD, hnm] at hx0
  have k0 : ((ofNats nBegin).toList == [98, 101, 103, 105, 110]) = true := (lit_is (b8_lit (by decide)) (c := nBegin) (b8_lit (by decide)) rfl).trans (by decide)
  generalize hs0 : ofNats nBegin = s0 at *
  have hlt0 : (0 : Int) < (A.length : Int) := by omega
  obtain ⟨t1, ht1⟩ : ∃ t, t = ofNats (unI A 1) := ⟨_, rfl⟩
  rw [← ht1] at C1
  have HT1 := hid ht1.symm
  have hs0 := hid hs0
  subst ha
  clear h8 ht1
  try clear hnm
  go_enter Tryd.func27, Tryd.ntmps27
  go_upto_region 1 with fail
  try rw [← hwb]
  clear hwb
  go_wp2_with fail
  refine C1.out.mono ?_
  rintro e w1 ⟨rfl, hb1⟩
  have HB1 := hid (Below.on HB.out hb1)
  have QZ1 := hid (keep_bl hb1 QZ.out)
  have hx1 := HR.out w1 HB1.out 0 h0
  rw [← hd_getD, HNM.out, hs0.out] at hx1
  clear hb1 C1 hx0
  have C2 := hid (CU.out w1 HB1.out 2 (by decide))
  obtain ⟨t2, ht2⟩ : ∃ t, t = ofNats (unI A 2) := ⟨_, rfl⟩
  rw [← ht2] at C2
  have HT2 := hid ht2.symm
  clear ht2
  by_cases hl1 : 1 < A.length
  · have hlt1 : (1 : Int) < (A.length : Int) := by omega
    have hy := HR.out w1 HB1.out 1 hl1
    have e1 := getD_some hl1
    have h18 := HA8.out _ (getD_mem hl1)
    rw [e1] at HE0
    generalize A.getD 1 [] = l1 at *
    have hu := lit_is h18 (c := nAt) (b8_lit (by decide)) rfl
    have hv := lit_is h18 (c := nRo) (b8_lit (by decide)) rfl
    generalize ofNats l1 = s1 at *
    by_cases hat : l1 = nAt
    · have hu' : (s1.toList == [97, 116]) = true := hu.trans (by simp [hat])
      have hv' : (s1.toList == [114, 111]) = false := hv.trans (by rw [hat]; decide)
      have HE : Hid (guessO A = ⟨1, true, true, false, unI A 2, [], [], [], 0⟩) := hid (by rw [HE0.out, hat]; rfl)
      clear hu hv HE0 e1 h18 hat
      go_wp2_with fail
      refine C2.out.mono ?_
      rintro e w2 ⟨rfl, hb2⟩
      have HB2 := hid (Below.on HB1.out hb2)
      have QZ2 := hid (keep_bl hb2 QZ1.out)
      clear hb2 C2
      have RZ : Hid ((w2.setRow w.heap.size #[.int .i64 1, .bool true, .bool true, .bool false, .string t2, .string ⟨#[]⟩, .string ⟨#[]⟩, .string ⟨#[]⟩, .int .i64 0]).heap[w.heap.size]? = some (.cells #[.int .i64 1, .bool true, .bool true, .bool false, .string t2, .string ⟨#[]⟩, .string ⟨#[]⟩, .string ⟨#[]⟩, .int .i64 0] 27 (0, 0))) := hid (setRow_heap _ _ _ _ _ _ QZ2.out)
      have HBZ := hid (below_row HB2.out (g := w.heap.size) (Nat.le_refl _) #[.int .i64 1, .bool true, .bool true, .bool false, .string t2, .string ⟨#[]⟩, .string ⟨#[]⟩, .string ⟨#[]⟩, .int .i64 0])
      go_wp2_with (first | (refine wpList_store_row (by rfl) 27 _ _ (by rfl) w.heap.size #[.int .i64 1, .bool true, .bool true, .bool false, .string t2, .string ⟨#[]⟩, .string ⟨#[]⟩, .string ⟨#[]⟩, .int .i64 0] (by rfl) (by rfl) _ _ QZ2.out infoOp rfl (one9 _ _ _ _ _ _ _ _ _) ?_) | fail)
      have LZ := hid (run_loadVar_at (P := Tryd.prog) _ ⟨w.heap.size, 0, none⟩ 27 [.int .i64 1, .bool true, .bool true, .bool false, .string t2, .string ⟨#[]⟩, .string ⟨#[]⟩, .string ⟨#[]⟩, .int .i64 0] _ (cells_at RZ.out) Tryd.underlying27 (by rfl) infoOp)
      refine bodyPost_ret (v := .agg #[.int .i64 1, .bool true, .bool true, .bool false, .string t2, .string ⟨#[]⟩, .string ⟨#[]⟩, .string ⟨#[]⟩, .int .i64 0]) (by simp [results, Tryd.results27, Act.put, asAddr, LZ.out]) rfl ?_
      exact ⟨by rw [HE.out, ← HT2.out]; rfl, HBZ.out⟩
    · by_cases hro : l1 = nRo
      · have hu' : (s1.toList == [97, 116]) = false := hu.trans (by simp [hat])
        have hv' : (s1.toList == [114, 111]) = true := hv.trans (by simp [hro])
        have HE : Hid (guessO A = ⟨1, true, false, false, unI A 2, [], [], [], 0⟩) := hid (by rw [HE0.out, hro]; rfl)
        clear hu hv HE0 e1 h18 hat hro
        go_wp2_with fail
        refine C2.out.mono ?_
        rintro e w2 ⟨rfl, hb2⟩
        have HB2 := hid (Below.on HB1.out hb2)
        have QZ2 := hid (keep_bl hb2 QZ1.out)
        clear hb2 C2
        have RZ : Hid ((w2.setRow w.heap.size #[.int .i64 1, .bool true, .bool false, .bool false, .string t2, .string ⟨#[]⟩, .string ⟨#[]⟩, .string ⟨#[]⟩, .int .i64 0]).heap[w.heap.size]? = some (.cells #[.int .i64 1, .bool true, .bool false, .bool false, .string t2, .string ⟨#[]⟩, .string ⟨#[]⟩, .string ⟨#[]⟩, .int .i64 0] 27 (0, 0))) := hid (setRow_heap _ _ _ _ _ _ QZ2.out)
        have HBZ := hid (below_row HB2.out (g := w.heap.size) (Nat.le_refl _) #[.int .i64 1, .bool true, .bool false, .bool false, .string t2, .string ⟨#[]⟩, .string ⟨#[]⟩, .string ⟨#[]⟩, .int .i64 0])
        go_wp2_with (first | (refine wpList_store_row (by rfl) 27 _ _ (by rfl) w.heap.size #[.int .i64 1, .bool true, .bool false, .bool false, .string t2, .string ⟨#[]⟩, .string ⟨#[]⟩, .string ⟨#[]⟩, .int .i64 0] (by rfl) (by rfl) _ _ QZ2.out infoOp rfl (one9 _ _ _ _ _ _ _ _ _) ?_) | fail)
        have LZ := hid (run_loadVar_at (P := Tryd.prog) _ ⟨w.heap.size, 0, none⟩ 27 [.int .i64 1, .bool true, .bool false, .bool false, .string t2, .string ⟨#[]⟩, .string ⟨#[]⟩, .string ⟨#[]⟩, .int .i64 0] _ (cells_at RZ.out) Tryd.underlying27 (by rfl) infoOp)
        refine bodyPost_ret (v := .agg #[.int .i64 1, .bool true, .bool false, .bool false, .string t2, .string ⟨#[]⟩, .string ⟨#[]⟩, .string ⟨#[]⟩, .int .i64 0]) (by simp [results, Tryd.results27, Act.put, asAddr, LZ.out]) rfl ?_
        exact ⟨by rw [HE.out, ← HT2.out]; rfl, HBZ.out⟩
      · have hu' : (s1.toList == [97, 116]) = false := hu.trans (by simp [hat])
        have hv' : (s1.toList == [114, 111]) = false := hv.trans (by simp [hro])
        have HE : Hid (guessO A = ⟨1, false, false, false, unI A 2, [], [], [], 0⟩) := hid (by rw [HE0.out]; simp [hat, hro])
        clear hu hv HE0 e1 h18 hat hro
        go_wp2_with fail
        refine C2.out.mono ?_
        rintro e w2 ⟨rfl, hb2⟩
        have HB2 := hid (Below.on HB1.out hb2)
        have QZ2 := hid (keep_bl hb2 QZ1.out)
        clear hb2 C2
        have RZ : Hid ((w2.setRow w.heap.size #[.int .i64 1, .bool false, .bool false, .bool false, .string t2, .string ⟨#[]⟩, .string ⟨#[]⟩, .string ⟨#[]⟩, .int .i64 0]).heap[w.heap.size]? = some (.cells #[.int .i64 1, .bool false, .bool false, .bool false, .string t2, .string ⟨#[]⟩, .string ⟨#[]⟩, .string ⟨#[]⟩, .int .i64 0] 27 (0, 0))) := hid (setRow_heap _ _ _ _ _ _ QZ2.out)
        have HBZ := hid (below_row HB2.out (g := w.heap.size) (Nat.le_refl _) #[.int .i64 1, .bool false, .bool false, .bool false, .string t2, .string ⟨#[]⟩, .string ⟨#[]⟩, .string ⟨#[]⟩, .int .i64 0])
        go_wp2_with (first | (refine wpList_store_row (by rfl) 27 _ _ (by rfl) w.heap.size #[.int .i64 1, .bool false, .bool false, .bool false, .string t2, .string ⟨#[]⟩, .string ⟨#[]⟩, .string ⟨#[]⟩, .int .i64 0] (by rfl) (by rfl) _ _ QZ2.out infoOp rfl (one9 _ _ _ _ _ _ _ _ _) ?_) | fail)
        have LZ := hid (run_loadVar_at (P := Tryd.prog) _ ⟨w.heap.size, 0, none⟩ 27 [.int .i64 1, .bool false, .bool false, .bool false, .string t2, .string ⟨#[]⟩, .string ⟨#[]⟩, .string ⟨#[]⟩, .int .i64 0] _ (cells_at RZ.out) Tryd.underlying27 (by rfl) infoOp)
        refine bodyPost_ret (v := .agg #[.int .i64 1, .bool false, .bool false, .bool false, .string t2, .string ⟨#[]⟩, .string ⟨#[]⟩, .string ⟨#[]⟩, .int .i64 0]) (by simp [results, Tryd.results27, Act.put, asAddr, LZ.out]) rfl ?_
        exact ⟨by rw [HE.out, ← HT2.out]; rfl, HBZ.out⟩
  · have hlt1 : ¬ (1 : Int) < (A.length : Int) := by omega
    have HE : Hid (guessO A = ⟨1, false, false, false, unI A 2, [], [], [], 0⟩) := hid (by rw [HE0.out, List.getElem?_eq_none (by omega)]; rfl)
    clear HE0 hl1
    go_wp2_with fail
    refine C2.out.mono ?_
    rintro e w2 ⟨rfl, hb2⟩
    have HB2 := hid (Below.on HB1.out hb2)
    have QZ2 := hid (keep_bl hb2 QZ1.out)
    clear hb2 C2
    have RZ : Hid ((w2.setRow w.heap.size #[.int .i64 1, .bool false, .bool false, .bool false, .string t2, .string ⟨#[]⟩, .string ⟨#[]⟩, .string ⟨#[]⟩, .int .i64 0]).heap[w.heap.size]? = some (.cells #[.int .i64 1, .bool false, .bool false, .bool false, .string t2, .string ⟨#[]⟩, .string ⟨#[]⟩, .string ⟨#[]⟩, .int .i64 0] 27 (0, 0))) := hid (setRow_heap _ _ _ _ _ _ QZ2.out)
    have HBZ := hid (below_row HB2.out (g := w.heap.size) (Nat.le_refl _) #[.int .i64 1, .bool false, .bool false, .bool false, .string t2, .string ⟨#[]⟩, .string ⟨#[]⟩, .string ⟨#[]⟩, .int .i64 0])
    go_wp2_with (first | (refine wpList_store_row (by rfl) 27 _ _ (by rfl) w.heap.size #[.int .i64 1, .bool false, .bool false, .bool false, .string t2, .string ⟨#[]⟩, .string ⟨#[]⟩, .string ⟨#[]⟩, .int .i64 0] (by rfl) (by rfl) _ _ QZ2.out infoOp rfl (one9 _ _ _ _ _ _ _ _ _) ?_) | fail)
    have LZ := hid (run_loadVar_at (P := Tryd.prog) _ ⟨w.heap.size, 0, none⟩ 27 [.int .i64 1, .bool false, .bool false, .bool false, .string t2, .string ⟨#[]⟩, .string ⟨#[]⟩, .string ⟨#[]⟩, .int .i64 0] _ (cells_at RZ.out) Tryd.underlying27 (by rfl) infoOp)
    refine bodyPost_ret (v := .agg #[.int .i64 1, .bool false, .bool false, .bool false, .string t2, .string ⟨#[]⟩, .string ⟨#[]⟩, .string ⟨#[]⟩, .int .i64 0]) (by simp [results, Tryd.results27, Act.put, asAddr, LZ.out]) rfl ?_
    exact ⟨by rw [HE.out, ← HT2.out]; rfl, HBZ.out⟩

theorem scan_end {w w3 : World} (b : Bool) (t1 t2 : ByteArray) (n : Int) (h : w3.heap[w.heap.size]? = some (.cells #[.int .i64 0, .bool false, .bool false, .bool false, .string ⟨#[]⟩, .string ⟨#[]⟩, .string ⟨#[]⟩, .string ⟨#[]⟩, .int .i64 0] 27 (0, 0))) (hb : Below w.heap.size w w3) :
    (((((((((w3.setCell ⟨w.heap.size, 0, none⟩ (.int .i64 3)).setCell ⟨w.heap.size, 1, none⟩ (.bool false)).setCell ⟨w.heap.size, 2, none⟩ (.bool false)).setCell ⟨w.heap.size, 3, none⟩ (.bool b)).setCell ⟨w.heap.size, 4, none⟩ (.string ⟨#[]⟩)).setCell ⟨w.heap.size, 5, none⟩ (.string t1)).setCell ⟨w.heap.size, 6, none⟩ (.string t2)).setCell ⟨w.heap.size, 7, none⟩ (.string ⟨#[]⟩)).setCell ⟨w.heap.size, 8, none⟩ (.int .i64 n)).heap[w.heap.size]? = some (.cells #[.int .i64 3, .bool false, .bool false, .bool b, .string ⟨#[]⟩, .string t1, .string t2, .string ⟨#[]⟩, .int .i64 n] 27 (0, 0)) ∧ Below w.heap.size w (((((((((w3.setCell ⟨w.heap.size, 0, none⟩ (.int .i64 3)).setCell ⟨w.heap.size, 1, none⟩ (.bool false)).setCell ⟨w.heap.size, 2, none⟩ (.bool false)).setCell ⟨w.heap.size, 3, none⟩ (.bool b)).setCell ⟨w.heap.size, 4, none⟩ (.string ⟨#[]⟩)).setCell ⟨w.heap.size, 5, none⟩ (.string t1)).setCell ⟨w.heap.size, 6, none⟩ (.string t2)).setCell ⟨w.heap.size, 7, none⟩ (.string ⟨#[]⟩)).setCell ⟨w.heap.size, 8, none⟩ (.int .i64 n)) := by
  have p0 : (w3.setCell ⟨w.heap.size, 0, none⟩ (.int .i64 3)).heap[w.heap.size]? = some (.cells #[.int .i64 3, .bool false, .bool false, .bool false, .string ⟨#[]⟩, .string ⟨#[]⟩, .string ⟨#[]⟩, .string ⟨#[]⟩, .int .i64 0] 27 (0, 0)) := heap_setCell_same _ _ 0 _ _ _ h
  have p1 : ((w3.setCell ⟨w.heap.size, 0, none⟩ (.int .i64 3)).setCell ⟨w.heap.size, 1, none⟩ (.bool false)).heap[w.heap.size]? = some (.cells #[.int .i64 3, .bool false, .bool false, .bool false, .string ⟨#[]⟩, .string ⟨#[]⟩, .string ⟨#[]⟩, .string ⟨#[]⟩, .int .i64 0] 27 (0, 0)) := heap_setCell_same _ _ 1 _ _ _ p0
  have p2 : (((w3.setCell ⟨w.heap.size, 0, none⟩ (.int .i64 3)).setCell ⟨w.heap.size, 1, none⟩ (.bool false)).setCell ⟨w.heap.size, 2, none⟩ (.bool false)).heap[w.heap.size]? = some (.cells #[.int .i64 3, .bool false, .bool false, .bool false, .string ⟨#[]⟩, .string ⟨#[]⟩, .string ⟨#[]⟩, .string ⟨#[]⟩, .int .i64 0] 27 (0, 0)) := heap_setCell_same _ _ 2 _ _ _ p1
  have p3 : ((((w3.setCell ⟨w.heap.size, 0, none⟩ (.int .i64 3)).setCell ⟨w.heap.size, 1, none⟩ (.bool false)).setCell ⟨w.heap.size, 2, none⟩ (.bool false)).setCell ⟨w.heap.size, 3, none⟩ (.bool b)).heap[w.heap.size]? = some (.cells #[.int .i64 3, .bool false, .bool false, .bool b, .string ⟨#[]⟩, .string ⟨#[]⟩, .string ⟨#[]⟩, .string ⟨#[]⟩, .int .i64 0] 27 (0, 0)) := heap_setCell_same _ _ 3 _ _ _ p2
  have p4 : (((((w3.setCell ⟨w.heap.size, 0, none⟩ (.int .i64 3)).setCell ⟨w.heap.size, 1, none⟩ (.bool false)).setCell ⟨w.heap.size, 2, none⟩ (.bool false)).setCell ⟨w.heap.size, 3, none⟩ (.bool b)).setCell ⟨w.heap.size, 4, none⟩ (.string ⟨#[]⟩)).heap[w.heap.size]? = some (.cells #[.int .i64 3, .bool false, .bool false, .bool b, .string ⟨#[]⟩, .string ⟨#[]⟩, .string ⟨#[]⟩, .string ⟨#[]⟩, .int .i64 0] 27 (0, 0)) := heap_setCell_same _ _ 4 _ _ _ p3
  have p5 : ((((((w3.setCell ⟨w.heap.size, 0, none⟩ (.int .i64 3)).setCell ⟨w.heap.size, 1, none⟩ (.bool false)).setCell ⟨w.heap.size, 2, none⟩ (.bool false)).setCell ⟨w.heap.size, 3, none⟩ (.bool b)).setCell ⟨w.heap.size, 4, none⟩ (.string ⟨#[]⟩)).setCell ⟨w.heap.size, 5, none⟩ (.string t1)).heap[w.heap.size]? = some (.cells #[.int .i64 3, .bool false, .bool false, .bool b, .string ⟨#[]⟩, .string t1, .string ⟨#[]⟩, .string ⟨#[]⟩, .int .i64 0] 27 (0, 0)) := heap_setCell_same _ _ 5 _ _ _ p4
  have p6 : (((((((w3.setCell ⟨w.heap.size, 0, none⟩ (.int .i64 3)).setCell ⟨w.heap.size, 1, none⟩ (.bool false)).setCell ⟨w.heap.size, 2, none⟩ (.bool false)).setCell ⟨w.heap.size, 3, none⟩ (.bool b)).setCell ⟨w.heap.size, 4, none⟩ (.string ⟨#[]⟩)).setCell ⟨w.heap.size, 5, none⟩ (.string t1)).setCell ⟨w.heap.size, 6, none⟩ (.string t2)).heap[w.heap.size]? = some (.cells #[.int .i64 3, .bool false, .bool false, .bool b, .string ⟨#[]⟩, .string t1, .string t2, .string ⟨#[]⟩, .int .i64 0] 27 (0, 0)) := heap_setCell_same _ _ 6 _ _ _ p5
  have p7 : ((((((((w3.setCell ⟨w.heap.size, 0, none⟩ (.int .i64 3)).setCell ⟨w.heap.size, 1, none⟩ (.bool false)).setCell ⟨w.heap.size, 2, none⟩ (.bool false)).setCell ⟨w.heap.size, 3, none⟩ (.bool b)).setCell ⟨w.heap.size, 4, none⟩ (.string ⟨#[]⟩)).setCell ⟨w.heap.size, 5, none⟩ (.string t1)).setCell ⟨w.heap.size, 6, none⟩ (.string t2)).setCell ⟨w.heap.size, 7, none⟩ (.string ⟨#[]⟩)).heap[w.heap.size]? = some (.cells #[.int .i64 3, .bool false, .bool false, .bool b, .string ⟨#[]⟩, .string t1, .string t2, .string ⟨#[]⟩, .int .i64 0] 27 (0, 0)) := heap_setCell_same _ _ 7 _ _ _ p6
  have p8 : (((((((((w3.setCell ⟨w.heap.size, 0, none⟩ (.int .i64 3)).setCell ⟨w.heap.size, 1, none⟩ (.bool false)).setCell ⟨w.heap.size, 2, none⟩ (.bool false)).setCell ⟨w.heap.size, 3, none⟩ (.bool b)).setCell ⟨w.heap.size, 4, none⟩ (.string ⟨#[]⟩)).setCell ⟨w.heap.size, 5, none⟩ (.string t1)).setCell ⟨w.heap.size, 6, none⟩ (.string t2)).setCell ⟨w.heap.size, 7, none⟩ (.string ⟨#[]⟩)).setCell ⟨w.heap.size, 8, none⟩ (.int .i64 n)).heap[w.heap.size]? = some (.cells #[.int .i64 3, .bool false, .bool false, .bool b, .string ⟨#[]⟩, .string t1, .string t2, .string ⟨#[]⟩, .int .i64 n] 27 (0, 0)) := heap_setCell_same _ _ 8 _ _ _ p7
  exact ⟨p8, by (repeat (first | with_reducible exact Below.refl _ _ | with_reducible assumption | with_reducible refine Below.drew ?_ | with_reducible refine Below.al ?_ _ | with_reducible refine Below.setCell ?_ (by first | exact Nat.le_refl _ | (simp; omega) | (simp; done)) _ | with_reducible refine Below.on ?_ (by assumption)))⟩

set_option maxHeartbeats 4000000 in
set_option maxRecDepth 100000 in
theorem dg_scan {w : World} {A : List (List Nat)} {a : Option Addr} {c : Nat} (hA : TxOk A) (hL : A.length ≤ 401) (h0 : 0 < A.length) (hr : TxRow w a A) (hnm : hdF A = nScan) :
    Calls Tryd.prog 27 #[.slice a A.length c] w fun e w' => e = .returned (.agg (guessO A).cells.toArray) ∧ Below w.heap.size w w' := by
  obtain ⟨wb, hwb⟩ : ∃ wb, wb = w.alloc (.cells #[.int .i64 0, .bool false, .bool false, .bool false, .string ⟨#[]⟩, .string ⟨#[]⟩, .string ⟨#[]⟩, .string ⟨#[]⟩, .int .i64 0] 27) := ⟨_, rfl⟩
  have hB : Below w.heap.size w wb := by rw [hwb]; (repeat (first | with_reducible exact Below.refl _ _ | with_reducible assumption | with_reducible refine Below.drew ?_ | with_reducible refine Below.al ?_ _ | with_reducible refine Below.setCell ?_ (by first | exact Nat.le_refl _ | (simp; omega) | (simp; done)) _ | with_reducible refine Below.on ?_ (by assumption)))
  have QZ : Hid (wb.heap[w.heap.size]? = some (.cells #[.int .i64 0, .bool false, .bool false, .bool false, .string ⟨#[]⟩, .string ⟨#[]⟩, .string ⟨#[]⟩, .string ⟨#[]⟩, .int .i64 0] 27 (0, 0))) := hid (by rw [hwb]; exact heap_alloc_new w _)
  obtain ⟨g, ha, hc0⟩ := hr 0 h0
  have hgl : g < w.heap.size := World.block_lt_of_cell? _ _ hc0
  clear hc0
  have HR := hid (fun W (hW : Below w.heap.size w W) i (hi : i < A.length) => txrow_cell (hr.later hW) ha hi)
  have CU := hid (fun W (hW : Below w.heap.size w W) i (hi : i ≤ 8) => dunw_is (c := c) hA hL hi (hr.later hW))
  have CN := hid (fun W (hW : Below w.heap.size w W) => dnum_is (c := c) hA hL (hr.later hW))
  have h8 := (hA.hd).1
  have HA8 := hid (fun l (hl : l ∈ A) => (hA l hl).1)
  have HB := hid hB
  clear hr hB hA
  have HE : Hid (guessO A = ⟨3, false, false, false, [], unI A 1, unI A 2, [], numW A⟩) := hid (by unfold guessO; simp [hnm])
  have HNM := hid hnm
  have k5 : ((ofNats nScan).toList == [114, 115, 99, 97, 110]) = false := (lit_is (b8_lit (by decide)) (c := nRscan) (b8_lit (by decide)) rfl).trans (by decide)
  have hx0 := HR.out wb HB.out 0 h0
  have C1 := hid (CU.out wb HB.out 1 (by decide))
  rw [← hd_getD, hnm] at hx0
  have k0 : ((ofNats nScan).toList == [98, 101, 103, 105, 110]) = false := (lit_is (b8_lit (by decide)) (c := nBegin) (b8_lit (by decide)) rfl).trans (by decide)
  have k1 : ((ofNats nScan).toList == [103, 101, 116]) = false := (lit_is (b8_lit (by decide)) (c := nGet) (b8_lit (by decide)) rfl).trans (by decide)
  have k2 : ((ofNats nScan).toList == [100, 101, 108]) = false := (lit_is (b8_lit (by decide)) (c := nDel) (b8_lit (by decide)) rfl).trans (by decide)
  have k3 : ((ofNats nScan).toList == [112, 117, 116]) = false := (lit_is (b8_lit (by decide)) (c := nPut) (b8_lit (by decide)) rfl).trans (by decide)
  have k4 : ((ofNats nScan).toList == [115, 99, 97, 110]) = true := (lit_is (b8_lit (by decide)) (c := nScan) (b8_lit (by decide)) rfl).trans (by decide)
  generalize hs0 : ofNats nScan = s0 at *
  have hlt0 : (0 : Int) < (A.length : Int) := by omega
  obtain ⟨t1, ht1⟩ : ∃ t, t = ofNats (unI A 1) := ⟨_, rfl⟩
  rw [← ht1] at C1
  have HT1 := hid ht1.symm
  have hs0 := hid hs0
  subst ha
  clear h8 ht1
  try clear hnm
  go_enter Tryd.func27, Tryd.ntmps27
  go_upto_region 1 with fail
  try rw [← hwb]
  clear hwb
  go_wp2_with fail
  refine C1.out.mono ?_
  rintro e w1 ⟨rfl, hb1⟩
  have HB1 := hid (Below.on HB.out hb1)
  have QZ1 := hid (keep_bl hb1 QZ.out)
  have hx1 := HR.out w1 HB1.out 0 h0
  rw [← hd_getD, HNM.out, hs0.out] at hx1
  clear hb1 C1 hx0
  obtain ⟨t2, ht2⟩ : ∃ t, t = ofNats (unI A 2) := ⟨_, rfl⟩
  obtain ⟨n, hn⟩ : ∃ n, n = numW A := ⟨_, rfl⟩
  rw [← hn] at CN
  have CU2 : Hid (∀ W : World, Below w.heap.size w W → Calls Tryd.prog 44 #[.slice (some ⟨g, 0, none⟩) A.length c, .int .i64 2] W fun e w' => e = .returned (.string t2) ∧ Below W.heap.size W w') := hid (fun W hW => by rw [ht2]; exact CU.out W hW 2 (by decide))
  have HT2 := hid ht2.symm
  have HN2 := hid hn.symm
  have HX := hid (fun W (hW : Below w.heap.size w W) => (by have := HR.out W hW 0 h0; rw [← hd_getD, HNM.out, hs0.out] at this; exact this : W.cell? ⟨g, 0, none⟩ = some (.string s0)))
  clear ht2 hn CU HR
  go_upto_region 15 with fail
  go_region_with (first
    | (go_at_call 44; refine (CU2.out _ (Below.drew HB1.out)).mono ?_; rintro e w2 ⟨rfl, hb2⟩; have HB2 := hid (Below.on (Below.drew HB1.out) hb2); have QZ2 := hid (keep_bl hb2 (show w1.drew.heap[w.heap.size]? = _ from QZ1.out)); have hx2 := HX.out _ HB2.out; clear hb2)
    | (go_at_call 45; refine (CN.out _ (Below.drew HB1.out)).mono ?_; rintro e w2 ⟨rfl, hb2⟩; have HB2 := hid (Below.on (Below.drew HB1.out) hb2); have QZ2 := hid (keep_bl hb2 (show w1.drew.heap[w.heap.size]? = _ from QZ1.out)); have hx2 := HX.out _ HB2.out; clear hb2)
    | (go_at_call 44; refine (CU2.out _ HB2.out).mono ?_; rintro e w3 ⟨rfl, hb3⟩; have HB3 := hid (Below.on HB2.out hb3); have QZ3 := hid (keep_bl hb3 QZ2.out); have hx3 := HX.out _ HB3.out; clear hb3; have c30 : w3.cell? ⟨w.heap.size, 0, none⟩ = some (.int .i64 0) := (by rw [Lib.cell_of_heap QZ3.out]; rfl); have f30 : w3.frozen? ⟨w.heap.size, 0, none⟩ = false := Lib.frozen_of_heap QZ3.out 0; have c31 : w3.cell? ⟨w.heap.size, 1, none⟩ = some (.bool false) := (by rw [Lib.cell_of_heap QZ3.out]; rfl); have f31 : w3.frozen? ⟨w.heap.size, 1, none⟩ = false := Lib.frozen_of_heap QZ3.out 1; have c32 : w3.cell? ⟨w.heap.size, 2, none⟩ = some (.bool false) := (by rw [Lib.cell_of_heap QZ3.out]; rfl); have f32 : w3.frozen? ⟨w.heap.size, 2, none⟩ = false := Lib.frozen_of_heap QZ3.out 2; have c33 : w3.cell? ⟨w.heap.size, 3, none⟩ = some (.bool false) := (by rw [Lib.cell_of_heap QZ3.out]; rfl); have f33 : w3.frozen? ⟨w.heap.size, 3, none⟩ = false := Lib.frozen_of_heap QZ3.out 3; have c34 : w3.cell? ⟨w.heap.size, 4, none⟩ = some (.string ⟨#[]⟩) := (by rw [Lib.cell_of_heap QZ3.out]; rfl); have f34 : w3.frozen? ⟨w.heap.size, 4, none⟩ = false := Lib.frozen_of_heap QZ3.out 4; have c35 : w3.cell? ⟨w.heap.size, 5, none⟩ = some (.string ⟨#[]⟩) := (by rw [Lib.cell_of_heap QZ3.out]; rfl); have f35 : w3.frozen? ⟨w.heap.size, 5, none⟩ = false := Lib.frozen_of_heap QZ3.out 5; have c36 : w3.cell? ⟨w.heap.size, 6, none⟩ = some (.string ⟨#[]⟩) := (by rw [Lib.cell_of_heap QZ3.out]; rfl); have f36 : w3.frozen? ⟨w.heap.size, 6, none⟩ = false := Lib.frozen_of_heap QZ3.out 6; have c37 : w3.cell? ⟨w.heap.size, 7, none⟩ = some (.string ⟨#[]⟩) := (by rw [Lib.cell_of_heap QZ3.out]; rfl); have f37 : w3.frozen? ⟨w.heap.size, 7, none⟩ = false := Lib.frozen_of_heap QZ3.out 7; have c38 : w3.cell? ⟨w.heap.size, 8, none⟩ = some (.int .i64 0) := (by rw [Lib.cell_of_heap QZ3.out]; rfl); have f38 : w3.frozen? ⟨w.heap.size, 8, none⟩ = false := Lib.frozen_of_heap QZ3.out 8)
    | (go_at_call 45; refine (CN.out _ HB2.out).mono ?_; rintro e w3 ⟨rfl, hb3⟩; have HB3 := hid (Below.on HB2.out hb3); have QZ3 := hid (keep_bl hb3 QZ2.out); have hx3 := HX.out _ HB3.out; clear hb3; have c30 : w3.cell? ⟨w.heap.size, 0, none⟩ = some (.int .i64 0) := (by rw [Lib.cell_of_heap QZ3.out]; rfl); have f30 : w3.frozen? ⟨w.heap.size, 0, none⟩ = false := Lib.frozen_of_heap QZ3.out 0; have c31 : w3.cell? ⟨w.heap.size, 1, none⟩ = some (.bool false) := (by rw [Lib.cell_of_heap QZ3.out]; rfl); have f31 : w3.frozen? ⟨w.heap.size, 1, none⟩ = false := Lib.frozen_of_heap QZ3.out 1; have c32 : w3.cell? ⟨w.heap.size, 2, none⟩ = some (.bool false) := (by rw [Lib.cell_of_heap QZ3.out]; rfl); have f32 : w3.frozen? ⟨w.heap.size, 2, none⟩ = false := Lib.frozen_of_heap QZ3.out 2; have c33 : w3.cell? ⟨w.heap.size, 3, none⟩ = some (.bool false) := (by rw [Lib.cell_of_heap QZ3.out]; rfl); have f33 : w3.frozen? ⟨w.heap.size, 3, none⟩ = false := Lib.frozen_of_heap QZ3.out 3; have c34 : w3.cell? ⟨w.heap.size, 4, none⟩ = some (.string ⟨#[]⟩) := (by rw [Lib.cell_of_heap QZ3.out]; rfl); have f34 : w3.frozen? ⟨w.heap.size, 4, none⟩ = false := Lib.frozen_of_heap QZ3.out 4; have c35 : w3.cell? ⟨w.heap.size, 5, none⟩ = some (.string ⟨#[]⟩) := (by rw [Lib.cell_of_heap QZ3.out]; rfl); have f35 : w3.frozen? ⟨w.heap.size, 5, none⟩ = false := Lib.frozen_of_heap QZ3.out 5; have c36 : w3.cell? ⟨w.heap.size, 6, none⟩ = some (.string ⟨#[]⟩) := (by rw [Lib.cell_of_heap QZ3.out]; rfl); have f36 : w3.frozen? ⟨w.heap.size, 6, none⟩ = false := Lib.frozen_of_heap QZ3.out 6; have c37 : w3.cell? ⟨w.heap.size, 7, none⟩ = some (.string ⟨#[]⟩) := (by rw [Lib.cell_of_heap QZ3.out]; rfl); have f37 : w3.frozen? ⟨w.heap.size, 7, none⟩ = false := Lib.frozen_of_heap QZ3.out 7; have c38 : w3.cell? ⟨w.heap.size, 8, none⟩ = some (.int .i64 0) := (by rw [Lib.cell_of_heap QZ3.out]; rfl); have f38 : w3.frozen? ⟨w.heap.size, 8, none⟩ = false := Lib.frozen_of_heap QZ3.out 8))
  all_goals
    obtain ⟨e1, e2⟩ := scan_end false t1 t2 n QZ3.out HB3.out
    generalize (((((((((w3.setCell ⟨w.heap.size, 0, none⟩ (.int .i64 3)).setCell ⟨w.heap.size, 1, none⟩ (.bool false)).setCell ⟨w.heap.size, 2, none⟩ (.bool false)).setCell ⟨w.heap.size, 3, none⟩ (.bool false)).setCell ⟨w.heap.size, 4, none⟩ (.string ⟨#[]⟩)).setCell ⟨w.heap.size, 5, none⟩ (.string t1)).setCell ⟨w.heap.size, 6, none⟩ (.string t2)).setCell ⟨w.heap.size, 7, none⟩ (.string ⟨#[]⟩)).setCell ⟨w.heap.size, 8, none⟩ (.int .i64 n)) = W at e1 e2 ⊢
    have RZ := hid e1
    have HBZ := hid e2
    clear e1 e2
    go_wp2_with fail
    have LZ := hid (run_loadVar_at (P := Tryd.prog) _ ⟨w.heap.size, 0, none⟩ 27 [.int .i64 3, .bool false, .bool false, .bool false, .string ⟨#[]⟩, .string t1, .string t2, .string ⟨#[]⟩, .int .i64 n] _ (cells_at RZ.out) Tryd.underlying27 (by rfl) infoOp)
    refine bodyPost_ret (v := .agg #[.int .i64 3, .bool false, .bool false, .bool false, .string ⟨#[]⟩, .string t1, .string t2, .string ⟨#[]⟩, .int .i64 n]) (by simp [results, Tryd.results27, Act.put, asAddr, LZ.out]) rfl ?_
    exact ⟨by rw [HE.out, ← HT1.out, ← HT2.out, ← HN2.out]; rfl, HBZ.out⟩

set_option maxHeartbeats 4000000 in
set_option maxRecDepth 100000 in
theorem dg_rscan {w : World} {A : List (List Nat)} {a : Option Addr} {c : Nat} (hA : TxOk A) (hL : A.length ≤ 401) (h0 : 0 < A.length) (hr : TxRow w a A) (hnm : hdF A = nRscan) :
    Calls Tryd.prog 27 #[.slice a A.length c] w fun e w' => e = .returned (.agg (guessO A).cells.toArray) ∧ Below w.heap.size w w' := by
  obtain ⟨wb, hwb⟩ : ∃ wb, wb = w.alloc (.cells #[.int .i64 0, .bool false, .bool false, .bool false, .string ⟨#[]⟩, .string ⟨#[]⟩, .string ⟨#[]⟩, .string ⟨#[]⟩, .int .i64 0] 27) := ⟨_, rfl⟩
  have hB : Below w.heap.size w wb := by rw [hwb]; (repeat (first | with_reducible exact Below.refl _ _ | with_reducible assumption | with_reducible refine Below.drew ?_ | with_reducible refine Below.al ?_ _ | with_reducible refine Below.setCell ?_ (by first | exact Nat.le_refl _ | (simp; omega) | (simp; done)) _ | with_reducible refine Below.on ?_ (by assumption)))
  have QZ : Hid (wb.heap[w.heap.size]? = some (.cells #[.int .i64 0, .bool false, .bool false, .bool false, .string ⟨#[]⟩, .string ⟨#[]⟩, .string ⟨#[]⟩, .string ⟨#[]⟩, .int .i64 0] 27 (0, 0))) := hid (by rw [hwb]; exact heap_alloc_new w _)
  obtain ⟨g, ha, hc0⟩ := hr 0 h0
  have hgl : g < w.heap.size := World.block_lt_of_cell? _ _ hc0
  clear hc0
  have HR := hid (fun W (hW : Below w.heap.size w W) i (hi : i < A.length) => txrow_cell (hr.later hW) ha hi)
  have CU := hid (fun W (hW : Below w.heap.size w W) i (hi : i ≤ 8) => dunw_is (c := c) hA hL hi (hr.later hW))
  have CN := hid (fun W (hW : Below w.heap.size w W) => dnum_is (c := c) hA hL (hr.later hW))
  have h8 := (hA.hd).1
  have HA8 := hid (fun l (hl : l ∈ A) => (hA l hl).1)
  have HB := hid hB
  clear hr hB hA
  have HE : Hid (guessO A = ⟨3, false, false, true, [], unI A 1, unI A 2, [], numW A⟩) := hid (by unfold guessO; simp [hnm])
  have HNM := hid hnm
  have hx0 := HR.out wb HB.out 0 h0
  have C1 := hid (CU.out wb HB.out 1 (by decide))
  rw [← hd_getD, hnm] at hx0
  have k0 : ((ofNats nRscan).toList == [98, 101, 103, 105, 110]) = false := (lit_is (b8_lit (by decide)) (c := nBegin) (b8_lit (by decide)) rfl).trans (by decide)
  have k1 : ((ofNats nRscan).toList == [103, 101, 116]) = false := (lit_is (b8_lit (by decide)) (c := nGet) (b8_lit (by decide)) rfl).trans (by decide)
  have k2 : ((ofNats nRscan).toList == [100, 101, 108]) = false := (lit_is (b8_lit (by decide)) (c := nDel) (b8_lit (by decide)) rfl).trans (by decide)
  have k3 : ((ofNats nRscan).toList == [112, 117, 116]) = false := (lit_is (b8_lit (by decide)) (c := nPut) (b8_lit (by decide)) rfl).trans (by decide)
  have k4 : ((ofNats nRscan).toList == [115, 99, 97, 110]) = false := (lit_is (b8_lit (by decide)) (c := nScan) (b8_lit (by decide)) rfl).trans (by decide)
  have k5 : ((ofNats nRscan).toList == [114, 115, 99, 97, 110]) = true := (lit_is (b8_lit (by decide)) (c := nRscan) (b8_lit (by decide)) rfl).trans (by decide)
  generalize hs0 : ofNats nRscan = s0 at *
  have hlt0 : (0 : Int) < (A.length : Int) := by omega
  obtain ⟨t1, ht1⟩ : ∃ t, t = ofNats (unI A 1) := ⟨_, rfl⟩
  rw [← ht1] at C1
  have HT1 := hid ht1.symm
  have hs0 := hid hs0
  subst ha
  clear h8 ht1
  try clear hnm
  go_enter Tryd.func27, Tryd.ntmps27
  go_upto_region 1 with fail
  try rw [← hwb]
  clear hwb
  go_wp2_with fail
  refine C1.out.mono ?_
  rintro e w1 ⟨rfl, hb1⟩
  have HB1 := hid (Below.on HB.out hb1)
  have QZ1 := hid (keep_bl hb1 QZ.out)
  have hx1 := HR.out w1 HB1.out 0 h0
  rw [← hd_getD, HNM.out, hs0.out] at hx1
  clear hb1 C1 hx0
  obtain ⟨t2, ht2⟩ : ∃ t, t = ofNats (unI A 2) := ⟨_, rfl⟩
  obtain ⟨n, hn⟩ : ∃ n, n = numW A := ⟨_, rfl⟩
  rw [← hn] at CN
  have CU2 : Hid (∀ W : World, Below w.heap.size w W → Calls Tryd.prog 44 #[.slice (some ⟨g, 0, none⟩) A.length c, .int .i64 2] W fun e w' => e = .returned (.string t2) ∧ Below W.heap.size W w') := hid (fun W hW => by rw [ht2]; exact CU.out W hW 2 (by decide))
  have HT2 := hid ht2.symm
  have HN2 := hid hn.symm
  have HX := hid (fun W (hW : Below w.heap.size w W) => (by have := HR.out W hW 0 h0; rw [← hd_getD, HNM.out, hs0.out] at this; exact this : W.cell? ⟨g, 0, none⟩ = some (.string s0)))
  clear ht2 hn CU HR
  go_upto_region 15 with fail
  go_region_with (first
    | (go_at_call 44; refine (CU2.out _ (Below.drew HB1.out)).mono ?_; rintro e w2 ⟨rfl, hb2⟩; have HB2 := hid (Below.on (Below.drew HB1.out) hb2); have QZ2 := hid (keep_bl hb2 (show w1.drew.heap[w.heap.size]? = _ from QZ1.out)); have hx2 := HX.out _ HB2.out; clear hb2)
    | (go_at_call 45; refine (CN.out _ (Below.drew HB1.out)).mono ?_; rintro e w2 ⟨rfl, hb2⟩; have HB2 := hid (Below.on (Below.drew HB1.out) hb2); have QZ2 := hid (keep_bl hb2 (show w1.drew.heap[w.heap.size]? = _ from QZ1.out)); have hx2 := HX.out _ HB2.out; clear hb2)
    | (go_at_call 44; refine (CU2.out _ HB2.out).mono ?_; rintro e w3 ⟨rfl, hb3⟩; have HB3 := hid (Below.on HB2.out hb3); have QZ3 := hid (keep_bl hb3 QZ2.out); have hx3 := HX.out _ HB3.out; clear hb3; have c30 : w3.cell? ⟨w.heap.size, 0, none⟩ = some (.int .i64 0) := (by rw [Lib.cell_of_heap QZ3.out]; rfl); have f30 : w3.frozen? ⟨w.heap.size, 0, none⟩ = false := Lib.frozen_of_heap QZ3.out 0; have c31 : w3.cell? ⟨w.heap.size, 1, none⟩ = some (.bool false) := (by rw [Lib.cell_of_heap QZ3.out]; rfl); have f31 : w3.frozen? ⟨w.heap.size, 1, none⟩ = false := Lib.frozen_of_heap QZ3.out 1; have c32 : w3.cell? ⟨w.heap.size, 2, none⟩ = some (.bool false) := (by rw [Lib.cell_of_heap QZ3.out]; rfl); have f32 : w3.frozen? ⟨w.heap.size, 2, none⟩ = false := Lib.frozen_of_heap QZ3.out 2; have c33 : w3.cell? ⟨w.heap.size, 3, none⟩ = some (.bool false) := (by rw [Lib.cell_of_heap QZ3.out]; rfl); have f33 : w3.frozen? ⟨w.heap.size, 3, none⟩ = false := Lib.frozen_of_heap QZ3.out 3; have c34 : w3.cell? ⟨w.heap.size, 4, none⟩ = some (.string ⟨#[]⟩) := (by rw [Lib.cell_of_heap QZ3.out]; rfl); have f34 : w3.frozen? ⟨w.heap.size, 4, none⟩ = false := Lib.frozen_of_heap QZ3.out 4; have c35 : w3.cell? ⟨w.heap.size, 5, none⟩ = some (.string ⟨#[]⟩) := (by rw [Lib.cell_of_heap QZ3.out]; rfl); have f35 : w3.frozen? ⟨w.heap.size, 5, none⟩ = false := Lib.frozen_of_heap QZ3.out 5; have c36 : w3.cell? ⟨w.heap.size, 6, none⟩ = some (.string ⟨#[]⟩) := (by rw [Lib.cell_of_heap QZ3.out]; rfl); have f36 : w3.frozen? ⟨w.heap.size, 6, none⟩ = false := Lib.frozen_of_heap QZ3.out 6; have c37 : w3.cell? ⟨w.heap.size, 7, none⟩ = some (.string ⟨#[]⟩) := (by rw [Lib.cell_of_heap QZ3.out]; rfl); have f37 : w3.frozen? ⟨w.heap.size, 7, none⟩ = false := Lib.frozen_of_heap QZ3.out 7; have c38 : w3.cell? ⟨w.heap.size, 8, none⟩ = some (.int .i64 0) := (by rw [Lib.cell_of_heap QZ3.out]; rfl); have f38 : w3.frozen? ⟨w.heap.size, 8, none⟩ = false := Lib.frozen_of_heap QZ3.out 8)
    | (go_at_call 45; refine (CN.out _ HB2.out).mono ?_; rintro e w3 ⟨rfl, hb3⟩; have HB3 := hid (Below.on HB2.out hb3); have QZ3 := hid (keep_bl hb3 QZ2.out); have hx3 := HX.out _ HB3.out; clear hb3; have c30 : w3.cell? ⟨w.heap.size, 0, none⟩ = some (.int .i64 0) := (by rw [Lib.cell_of_heap QZ3.out]; rfl); have f30 : w3.frozen? ⟨w.heap.size, 0, none⟩ = false := Lib.frozen_of_heap QZ3.out 0; have c31 : w3.cell? ⟨w.heap.size, 1, none⟩ = some (.bool false) := (by rw [Lib.cell_of_heap QZ3.out]; rfl); have f31 : w3.frozen? ⟨w.heap.size, 1, none⟩ = false := Lib.frozen_of_heap QZ3.out 1; have c32 : w3.cell? ⟨w.heap.size, 2, none⟩ = some (.bool false) := (by rw [Lib.cell_of_heap QZ3.out]; rfl); have f32 : w3.frozen? ⟨w.heap.size, 2, none⟩ = false := Lib.frozen_of_heap QZ3.out 2; have c33 : w3.cell? ⟨w.heap.size, 3, none⟩ = some (.bool false) := (by rw [Lib.cell_of_heap QZ3.out]; rfl); have f33 : w3.frozen? ⟨w.heap.size, 3, none⟩ = false := Lib.frozen_of_heap QZ3.out 3; have c34 : w3.cell? ⟨w.heap.size, 4, none⟩ = some (.string ⟨#[]⟩) := (by rw [Lib.cell_of_heap QZ3.out]; rfl); have f34 : w3.frozen? ⟨w.heap.size, 4, none⟩ = false := Lib.frozen_of_heap QZ3.out 4; have c35 : w3.cell? ⟨w.heap.size, 5, none⟩ = some (.string ⟨#[]⟩) := (by rw [Lib.cell_of_heap QZ3.out]; rfl); have f35 : w3.frozen? ⟨w.heap.size, 5, none⟩ = false := Lib.frozen_of_heap QZ3.out 5; have c36 : w3.cell? ⟨w.heap.size, 6, none⟩ = some (.string ⟨#[]⟩) := (by rw [Lib.cell_of_heap QZ3.out]; rfl); have f36 : w3.frozen? ⟨w.heap.size, 6, none⟩ = false := Lib.frozen_of_heap QZ3.out 6; have c37 : w3.cell? ⟨w.heap.size, 7, none⟩ = some (.string ⟨#[]⟩) := (by rw [Lib.cell_of_heap QZ3.out]; rfl); have f37 : w3.frozen? ⟨w.heap.size, 7, none⟩ = false := Lib.frozen_of_heap QZ3.out 7; have c38 : w3.cell? ⟨w.heap.size, 8, none⟩ = some (.int .i64 0) := (by rw [Lib.cell_of_heap QZ3.out]; rfl); have f38 : w3.frozen? ⟨w.heap.size, 8, none⟩ = false := Lib.frozen_of_heap QZ3.out 8))
  all_goals
    obtain ⟨e1, e2⟩ := scan_end true t1 t2 n QZ3.out HB3.out
    generalize (((((((((w3.setCell ⟨w.heap.size, 0, none⟩ (.int .i64 3)).setCell ⟨w.heap.size, 1, none⟩ (.bool false)).setCell ⟨w.heap.size, 2, none⟩ (.bool false)).setCell ⟨w.heap.size, 3, none⟩ (.bool true)).setCell ⟨w.heap.size, 4, none⟩ (.string ⟨#[]⟩)).setCell ⟨w.heap.size, 5, none⟩ (.string t1)).setCell ⟨w.heap.size, 6, none⟩ (.string t2)).setCell ⟨w.heap.size, 7, none⟩ (.string ⟨#[]⟩)).setCell ⟨w.heap.size, 8, none⟩ (.int .i64 n)) = W at e1 e2 ⊢
    have RZ := hid e1
    have HBZ := hid e2
    clear e1 e2
    go_wp2_with fail
    have LZ := hid (run_loadVar_at (P := Tryd.prog) _ ⟨w.heap.size, 0, none⟩ 27 [.int .i64 3, .bool false, .bool false, .bool true, .string ⟨#[]⟩, .string t1, .string t2, .string ⟨#[]⟩, .int .i64 n] _ (cells_at RZ.out) Tryd.underlying27 (by rfl) infoOp)
    refine bodyPost_ret (v := .agg #[.int .i64 3, .bool false, .bool false, .bool true, .string ⟨#[]⟩, .string t1, .string t2, .string ⟨#[]⟩, .int .i64 n]) (by simp [results, Tryd.results27, Act.put, asAddr, LZ.out]) rfl ?_
    exact ⟨by rw [HE.out, ← HT1.out, ← HT2.out, ← HN2.out]; rfl, HBZ.out⟩

theorem dguess_is {w : World} {A : List (List Nat)} {a : Option Addr} {c : Nat} (hA : TxOk A) (hL : A.length ≤ 401) (h0 : 0 < A.length) (hr : TxRow w a A) :
    Calls Tryd.prog 27 #[.slice a A.length c] w fun e w' => e = .returned (.agg (guessO A).cells.toArray) ∧ Below w.heap.size w w' := by
  by_cases e0 : hdF A = nBegin
  · exact dg_begin hA hL h0 hr e0
  by_cases e1 : hdF A = nGet
  · exact dg_get hA hL h0 hr e1
  by_cases e2 : hdF A = nDel
  · exact dg_del hA hL h0 hr e2
  by_cases e3 : hdF A = nPut
  · exact dg_put hA hL h0 hr e3
  by_cases e4 : hdF A = nScan
  · exact dg_scan hA hL h0 hr e4
  by_cases e5 : hdF A = nRscan
  · exact dg_rscan hA hL h0 hr e5
  by_cases e6 : hdF A = nCommit
  · exact dg_commit hA hL h0 hr e6
  by_cases e7 : hdF A = nAbort
  · exact dg_abort hA hL h0 hr e7
  exact dg_none hA hL h0 hr e0 e1 e2 e3 e4 e5 e6 e7
end Go.Proofs.YtggmhodogfngdaaDoor.Gt
