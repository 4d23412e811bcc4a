import Derived.Test.YtggmhodogfngdaaDoorGtOp
import Derived.Test.YtggmhodogfngdaaDoorGtOpenO
import Derived.Test.YtggmhodogfngdaaDoorGtOps
/- An operation is read off the fields: by its name (written by mk_gtop.py). -/
namespace Go.Proofs.YtggmhodogfngdaaDoor.Gt
open Go.Proofs.YtggmhodogfngdaaDoor Go.Proofs.YtggmhodogfngdaaDoor.Rt Go.RowKit Go.Sort
set_option linter.unusedVariables false
set_option linter.unusedSimpArgs false

theorem b8_lit {l : List Nat} (h : l.all (fun b => decide (b < 256)) = true) : B8 l := fun b hb => by
  have := List.all_eq_true.1 h b hb
  simpa using this
theorem infoOp : (Tryd.prog.info? 27).map (·.size) = some 9 := by kernel_rfl
theorem cells_at {W : World} {b : Nat} {cs : List Value} {T : TypeId} (h : W.heap[b]? = some (.cells cs.toArray T (0, 0))) : ∀ j v, cs[j]? = some v → W.cell? ((⟨b, 0, none⟩ : Addr).add j) = some v := fun j v hj => by
  rw [Addr.add_lit, Nat.zero_add, Lib.cell_of_heap h]
  simpa using hj
theorem one9 (k l : Int) (b1 b2 b3 : Bool) (s1 s2 s3 s4 : ByteArray) : (#[.int .i64 k, .bool b1, .bool b2, .bool b3, .string s1, .string s2, .string s3, .string s4, .int .i64 l] : Array Value).all (·.oneCell') = true := by simp [Value.oneCell']
theorem keep_blk {F k : Nat} {W W' : World} {x : Obj} (o : Chg F W W') (h : W.heap[k]? = some x) (hk : k ≠ F) : W'.heap[k]? = some x := by
  have hl : k < W.heap.size := by
    rcases Nat.lt_or_ge k W.heap.size with h' | h'
    · exact h'
    · simp [Array.getElem?_eq_none h'] at h
  rw [o.block k hl hk]; exact h
/-- what op answers -/
def OpP (w : World) (F B : Nat) (bad : Bool) (nm : List Nat) (r : List (List Nat)) : Ending → World → Prop := fun e w' =>
  ∃ n : Int, -9223372036854775808 ≤ n ∧ n ≤ 9223372036854775807 ∧ LimOk (hdF r.tail.tail) n ∧ e = .returned (.agg (opF nm r n).op.cells.toArray) ∧ Fd w' F B (opF nm r n).left (bad || (opF nm r n).wrong) ∧ Chg F w w'
theorem lim_some (l : List Nat) : ∃ n : Int, -9223372036854775808 ≤ n ∧ n ≤ 9223372036854775807 ∧ LimOk l n := by
  cases h : undec l with
  | none => exact ⟨0, by omega, by omega, fun z hz => by rw [h] at hz; cases hz⟩
  | some z =>
    have := (dec_undec h).2
    exact ⟨z, by omega, by omega, fun z' hz => by rw [h] at hz; injection hz with hz; rw [hz]⟩
/-- what is left behind the answer's store -/
theorem end_op {w W : World} {F B : Nat} {rr : List (List Nat)} {b : Bool} (hF : F < w.heap.size) (hB : B ≤ w.heap.size) (h : Fd W F B rr b) (hc : Chg F w W) (cs : Array Value) : Fd (W.setRow w.heap.size cs) F B rr b ∧ Chg F w (W.setRow w.heap.size cs) :=
  ⟨h.far (setRow_other _ _ _ _ (by omega)) (fun k hk _ => setRow_other _ _ _ _ (by omega)),
    ⟨by simpa using hc.os, by simpa using hc.tape, by simpa using hc.output, by simpa using hc.size, fun k hk hn => by rw [setRow_other _ _ _ _ (by omega)]; exact hc.block k hk hn⟩⟩
/-- a store into a new block -/
theorem Fd.off {W : World} {F B q : Nat} {rr : List (List Nat)} {b : Bool} (h : Fd W F B rr b) (hq : q ≠ F) (hB : B ≤ q) (o : Nat) (v : Value) : Fd (W.setCell ⟨q, o, none⟩ v) F B rr b :=
  h.far (Below.heap_setCell _ _ _ _ (by show F ≠ q; omega)) (fun k hk _ => Below.heap_setCell _ _ _ _ (by show k ≠ q; omega))

set_option maxHeartbeats 4000000 in
set_option maxRecDepth 100000 in
theorem op_at {w0 w : World} {F B : Nat} {r : List (List Nat)} {bad : Bool} (hv : Vars w0) (h0 : Below w0.heap.size w0 w) (hF : w0.heap.size ≤ F) (hB : B ≤ w.heap.size) (h : Fd w F B r bad) (hr : TxOk r) (hnm : (nameF r).1 = bAt) :
    Calls Tryd.prog 26 #[.pointer (some ⟨F, 0, none⟩)] w (OpP w F B bad (nameF r).1 (nameF r).2) := by
  obtain ⟨w2, hw2⟩ : ∃ w2, w2 = (w.alloc (.cells #[.int .i64 0, .bool false, .bool false, .bool false, .string ⟨#[]⟩, .string ⟨#[]⟩, .string ⟨#[]⟩, .string ⟨#[]⟩, .int .i64 0] 27)).alloc (.cells #[.int .i64 0, .bool false, .bool false, .bool false, .string ⟨#[]⟩, .string ⟨#[]⟩, .string ⟨#[]⟩, .string ⟨#[]⟩, .int .i64 0] 27) := ⟨_, rfl⟩
  have hb2 : Below w.heap.size w w2 := by rw [hw2]; (repeat (first | with_reducible exact Below.refl _ _ | with_reducible assumption | with_reducible refine Below.drew ?_ | with_reducible refine Below.al ?_ _ | with_reducible refine Below.setCell ?_ (by first | exact Nat.le_refl _ | (simp; omega) | (simp; done)) _ | with_reducible refine Below.on ?_ (by assumption)))
  have hFl : F < w.heap.size := by obtain ⟨a, cap, hx⟩ := h; exact hx.lt
  have hs2 : w2.heap.size = w.heap.size + 2 := by rw [hw2]; simp
  have CN := hid (name_is (h.on hb2) hr)
  obtain ⟨n8, ntx⟩ := name_b8 hr
  have hso : w2.heap[w.heap.size + 1]? = some (.cells #[.int .i64 0, .bool false, .bool false, .bool false, .string ⟨#[]⟩, .string ⟨#[]⟩, .string ⟨#[]⟩, .string ⟨#[]⟩, .int .i64 0] 27 (0, 0)) := by
    rw [hw2]
    have := heap_alloc_new (w.alloc (.cells #[.int .i64 0, .bool false, .bool false, .bool false, .string ⟨#[]⟩, .string ⟨#[]⟩, .string ⟨#[]⟩, .string ⟨#[]⟩, .int .i64 0] 27)) (.cells #[.int .i64 0, .bool false, .bool false, .bool false, .string ⟨#[]⟩, .string ⟨#[]⟩, .string ⟨#[]⟩, .string ⟨#[]⟩, .int .i64 0] 27)
    simpa using this
  have hsr : w2.heap[w.heap.size]? = some (.cells #[.int .i64 0, .bool false, .bool false, .bool false, .string ⟨#[]⟩, .string ⟨#[]⟩, .string ⟨#[]⟩, .string ⟨#[]⟩, .int .i64 0] 27 (0, 0)) := by
    rw [hw2, Below.heap_alloc _ _ _ (by simp)]
    exact heap_alloc_new w _

  generalize (nameF r).2 = rr at *
  generalize (nameF r).1 = nm at *
  subst hnm
  have k0 : ((ofNats bAt).toList == [98, 101, 103, 105, 110, 32, 97, 116]) = true := (lit_is n8 (c := bAt) (b8_lit (by decide)) rfl).trans (by decide)
  generalize ofNats bAt = s at *
  have O2 := hid (Onl.of_below (F := fun k => k = F) hb2)
  have HSO := hid hso
  have HSR := hid hsr
  clear hso hsr h
  go_enter Tryd.func26, Tryd.ntmps26
  go_wp2_with fail
  rw [← hw2]
  refine CN.out.mono ?_
  rintro e w1 ⟨rfl, h1, o1⟩
  have H1 := hid h1
  have O1 := hid (O2.out.trans o1)
  have BO1 := hid (keep_blk o1 HSO.out (by omega))
  have BR1 := hid (keep_blk o1 HSR.out (by omega))
  clear h1 o1 CN hw2 HSO HSR
  have f1_2 : w1.frozen? ⟨w.heap.size + 1, 2, none⟩ = false := Lib.frozen_of_heap BO1.out 2
  have c1_2 : w1.cell? ⟨w.heap.size + 1, 2, none⟩ = some (.bool false) := by rw [Lib.cell_of_heap BO1.out]; rfl
  have f1_1 : w1.frozen? ⟨w.heap.size + 1, 1, none⟩ = false := Lib.frozen_of_heap BO1.out 1
  have c1_1 : w1.cell? ⟨w.heap.size + 1, 1, none⟩ = some (.bool false) := by rw [Lib.cell_of_heap BO1.out]; rfl
  have Ps0 : Hid ((w1.setCell ⟨w.heap.size + 1, 2, none⟩ (.bool true)).heap[w.heap.size + 1]? = some (.cells #[.int .i64 0, .bool false, .bool true, .bool false, .string ⟨#[]⟩, .string ⟨#[]⟩, .string ⟨#[]⟩, .string ⟨#[]⟩, .int .i64 0] 27 (0, 0))) := hid (heap_setCell_same _ _ 2 _ _ _ BO1.out)
  have Qs0 : Hid ((w1.setCell ⟨w.heap.size + 1, 2, none⟩ (.bool true)).heap[w.heap.size]? = some (.cells #[.int .i64 0, .bool false, .bool false, .bool false, .string ⟨#[]⟩, .string ⟨#[]⟩, .string ⟨#[]⟩, .string ⟨#[]⟩, .int .i64 0] 27 (0, 0))) := hid ((Below.heap_setCell _ _ _ _ (by simp)).trans BR1.out)
  have Ps1 : Hid (((w1.setCell ⟨w.heap.size + 1, 2, none⟩ (.bool true)).setCell ⟨w.heap.size + 1, 1, none⟩ (.bool true)).heap[w.heap.size + 1]? = some (.cells #[.int .i64 0, .bool true, .bool true, .bool false, .string ⟨#[]⟩, .string ⟨#[]⟩, .string ⟨#[]⟩, .string ⟨#[]⟩, .int .i64 0] 27 (0, 0))) := hid (heap_setCell_same _ _ 1 _ _ _ Ps0.out)
  have Qs1 : Hid (((w1.setCell ⟨w.heap.size + 1, 2, none⟩ (.bool true)).setCell ⟨w.heap.size + 1, 1, none⟩ (.bool true)).heap[w.heap.size]? = some (.cells #[.int .i64 0, .bool false, .bool false, .bool false, .string ⟨#[]⟩, .string ⟨#[]⟩, .string ⟨#[]⟩, .string ⟨#[]⟩, .int .i64 0] 27 (0, 0))) := hid ((Below.heap_setCell _ _ _ _ (by simp)).trans Qs0.out)
  have G2 : Hid (Fd ((w1.setCell ⟨w.heap.size + 1, 2, none⟩ (.bool true)).setCell ⟨w.heap.size + 1, 1, none⟩ (.bool true)) F B rr _) := hid ((H1.out.off (q := w.heap.size + 1) (by omega) (by omega) 2 (.bool true)).off (q := w.heap.size + 1) (by omega) (by omega) 1 (.bool true))
  have C2 : Hid (Chg F w ((w1.setCell ⟨w.heap.size + 1, 2, none⟩ (.bool true)).setCell ⟨w.heap.size + 1, 1, none⟩ (.bool true))) := hid ((O1.out.setNew (q := w.heap.size + 1) (by omega) 2 (.bool true)).setNew (q := w.heap.size + 1) (by omega) 1 (.bool true))
  have P2 : Hid (((w1.setCell ⟨w.heap.size + 1, 2, none⟩ (.bool true)).setCell ⟨w.heap.size + 1, 1, none⟩ (.bool true)).heap[w.heap.size + 1]? = some (.cells #[.int .i64 0, .bool true, .bool true, .bool false, .string ⟨#[]⟩, .string ⟨#[]⟩, .string ⟨#[]⟩, .string ⟨#[]⟩, .int .i64 0] 27 (0, 0))) := hid Ps1.out
  have Q2 : Hid (((w1.setCell ⟨w.heap.size + 1, 2, none⟩ (.bool true)).setCell ⟨w.heap.size + 1, 1, none⟩ (.bool true)).heap[w.heap.size]? = some (.cells #[.int .i64 0, .bool false, .bool false, .bool false, .string ⟨#[]⟩, .string ⟨#[]⟩, .string ⟨#[]⟩, .string ⟨#[]⟩, .int .i64 0] 27 (0, 0))) := hid Qs1.out
  go_wp2_with fail
  refine (text_is G2.out ntx).mono ?_
  rintro e w2 ⟨rfl, h2, o2⟩
  generalize hT1 : ofNats (unT (hdF rr)) = t1
  have HT1 := hid hT1
  clear hT1
  have H2 := hid h2
  have O2 := hid (C2.out.trans o2)
  have BO2 := hid (keep_blk o2 P2.out (by omega))
  have BR2 := hid (keep_blk o2 Q2.out (by omega))
  clear h2 o2 G2 C2 P2 Q2
  have f2_0 : w2.frozen? ⟨w.heap.size + 1, 0, none⟩ = false := Lib.frozen_of_heap BO2.out 0
  have c2_0 : w2.cell? ⟨w.heap.size + 1, 0, none⟩ = some (.int .i64 0) := by rw [Lib.cell_of_heap BO2.out]; rfl
  have f2_4 : w2.frozen? ⟨w.heap.size + 1, 4, none⟩ = false := Lib.frozen_of_heap BO2.out 4
  have c2_4 : w2.cell? ⟨w.heap.size + 1, 4, none⟩ = some (.string ⟨#[]⟩) := by rw [Lib.cell_of_heap BO2.out]; rfl
  have Ps3 : Hid ((w2.setCell ⟨w.heap.size + 1, 0, none⟩ (.int .i64 1)).heap[w.heap.size + 1]? = some (.cells #[.int .i64 1, .bool true, .bool true, .bool false, .string ⟨#[]⟩, .string ⟨#[]⟩, .string ⟨#[]⟩, .string ⟨#[]⟩, .int .i64 0] 27 (0, 0))) := hid (heap_setCell_same _ _ 0 _ _ _ BO2.out)
  have Qs3 : Hid ((w2.setCell ⟨w.heap.size + 1, 0, none⟩ (.int .i64 1)).heap[w.heap.size]? = some (.cells #[.int .i64 0, .bool false, .bool false, .bool false, .string ⟨#[]⟩, .string ⟨#[]⟩, .string ⟨#[]⟩, .string ⟨#[]⟩, .int .i64 0] 27 (0, 0))) := hid ((Below.heap_setCell _ _ _ _ (by simp)).trans BR2.out)
  have Ps4 : Hid (((w2.setCell ⟨w.heap.size + 1, 0, none⟩ (.int .i64 1)).setCell ⟨w.heap.size + 1, 4, none⟩ (.string t1)).heap[w.heap.size + 1]? = some (.cells #[.int .i64 1, .bool true, .bool true, .bool false, .string t1, .string ⟨#[]⟩, .string ⟨#[]⟩, .string ⟨#[]⟩, .int .i64 0] 27 (0, 0))) := hid (heap_setCell_same _ _ 4 _ _ _ Ps3.out)
  have Qs4 : Hid (((w2.setCell ⟨w.heap.size + 1, 0, none⟩ (.int .i64 1)).setCell ⟨w.heap.size + 1, 4, none⟩ (.string t1)).heap[w.heap.size]? = some (.cells #[.int .i64 0, .bool false, .bool false, .bool false, .string ⟨#[]⟩, .string ⟨#[]⟩, .string ⟨#[]⟩, .string ⟨#[]⟩, .int .i64 0] 27 (0, 0))) := hid ((Below.heap_setCell _ _ _ _ (by simp)).trans Qs3.out)
  have GZ : Hid (Fd ((w2.setCell ⟨w.heap.size + 1, 0, none⟩ (.int .i64 1)).setCell ⟨w.heap.size + 1, 4, none⟩ (.string t1)) F B rr.tail _) := hid ((H2.out.off (q := w.heap.size + 1) (by omega) (by omega) 0 (.int .i64 1)).off (q := w.heap.size + 1) (by omega) (by omega) 4 (.string t1))
  have CZ : Hid (Chg F w ((w2.setCell ⟨w.heap.size + 1, 0, none⟩ (.int .i64 1)).setCell ⟨w.heap.size + 1, 4, none⟩ (.string t1))) := hid ((O2.out.setNew (q := w.heap.size + 1) (by omega) 0 (.int .i64 1)).setNew (q := w.heap.size + 1) (by omega) 4 (.string t1))
  have PZ : Hid (((w2.setCell ⟨w.heap.size + 1, 0, none⟩ (.int .i64 1)).setCell ⟨w.heap.size + 1, 4, none⟩ (.string t1)).heap[w.heap.size + 1]? = some (.cells #[.int .i64 1, .bool true, .bool true, .bool false, .string t1, .string ⟨#[]⟩, .string ⟨#[]⟩, .string ⟨#[]⟩, .int .i64 0] 27 (0, 0))) := hid Ps4.out
  have QZ : Hid (((w2.setCell ⟨w.heap.size + 1, 0, none⟩ (.int .i64 1)).setCell ⟨w.heap.size + 1, 4, none⟩ (.string t1)).heap[w.heap.size]? = some (.cells #[.int .i64 0, .bool false, .bool false, .bool false, .string ⟨#[]⟩, .string ⟨#[]⟩, .string ⟨#[]⟩, .string ⟨#[]⟩, .int .i64 0] 27 (0, 0))) := hid Qs4.out
  have RZ : Hid ((((w2.setCell ⟨w.heap.size + 1, 0, none⟩ (.int .i64 1)).setCell ⟨w.heap.size + 1, 4, none⟩ (.string t1)).setRow w.heap.size #[.int .i64 1, .bool true, .bool true, .bool false, .string t1, .string ⟨#[]⟩, .string ⟨#[]⟩, .string ⟨#[]⟩, .int .i64 0]).heap[w.heap.size]? = some (.cells #[.int .i64 1, .bool true, .bool true, .bool false, .string t1, .string ⟨#[]⟩, .string ⟨#[]⟩, .string ⟨#[]⟩, .int .i64 0] 27 (0, 0))) := hid (setRow_heap _ _ _ _ _ _ QZ.out)
  have EZ := hid (end_op hFl hB GZ.out CZ.out #[.int .i64 1, .bool true, .bool true, .bool false, .string t1, .string ⟨#[]⟩, .string ⟨#[]⟩, .string ⟨#[]⟩, .int .i64 0])
  clear GZ CZ hs2
  go_upto_region 24 with fail
  go_wp2_with (first | (refine wpList_load_at (by rfl) 27 _ (by rfl) ⟨w.heap.size + 1, 0, none⟩ (by rfl) [.int .i64 1, .bool true, .bool true, .bool false, .string t1, .string ⟨#[]⟩, .string ⟨#[]⟩, .string ⟨#[]⟩, .int .i64 0] _ (cells_at PZ.out) Tryd.underlying27 (by rfl) infoOp ?_) | (refine wpList_store_row (by rfl) 27 _ _ (by rfl) w.heap.size #[.int .i64 1, .bool true, .bool true, .bool false, .string t1, .string ⟨#[]⟩, .string ⟨#[]⟩, .string ⟨#[]⟩, .int .i64 0] (by rfl) (by rfl) _ _ QZ.out infoOp rfl (one9 _ _ _ _ _ _ _ _ _) ?_) | fail)
  have LZ := hid (run_loadVar_at (P := Tryd.prog) _ ⟨w.heap.size, 0, none⟩ 27 [.int .i64 1, .bool true, .bool true, .bool false, .string t1, .string ⟨#[]⟩, .string ⟨#[]⟩, .string ⟨#[]⟩, .int .i64 0] _ (cells_at RZ.out) Tryd.underlying27 (by rfl) infoOp)
  refine bodyPost_ret (v := .agg #[.int .i64 1, .bool true, .bool true, .bool false, .string t1, .string ⟨#[]⟩, .string ⟨#[]⟩, .string ⟨#[]⟩, .int .i64 0]) (by simp [results, Tryd.results26, Act.put, asAddr, LZ.out]) rfl ?_
  obtain ⟨n, n0, n1, hlim⟩ := lim_some (hdF rr.tail.tail)
  have e : opF bAt rr n = ⟨⟨1, true, true, false, unT (hdF rr), [], [], [], 0⟩, badT (hdF rr), rr.tail⟩ := by simp [opF]
  refine ⟨n, n0, n1, hlim, ?_, ?_, EZ.out.2⟩
  · rw [e]; rw [← HT1.out]; rfl
  · rw [e]
    have h := EZ.out.1
    try simp only [Bool.or_false, Bool.or_assoc] at h ⊢
    exact h

set_option maxHeartbeats 4000000 in
set_option maxRecDepth 100000 in
theorem op_ro {w0 w : World} {F B : Nat} {r : List (List Nat)} {bad : Bool} (hv : Vars w0) (h0 : Below w0.heap.size w0 w) (hF : w0.heap.size ≤ F) (hB : B ≤ w.heap.size) (h : Fd w F B r bad) (hr : TxOk r) (hnm : (nameF r).1 = bRo) :
    Calls Tryd.prog 26 #[.pointer (some ⟨F, 0, none⟩)] w (OpP w F B bad (nameF r).1 (nameF r).2) := by
  obtain ⟨w2, hw2⟩ : ∃ w2, w2 = (w.alloc (.cells #[.int .i64 0, .bool false, .bool false, .bool false, .string ⟨#[]⟩, .string ⟨#[]⟩, .string ⟨#[]⟩, .string ⟨#[]⟩, .int .i64 0] 27)).alloc (.cells #[.int .i64 0, .bool false, .bool false, .bool false, .string ⟨#[]⟩, .string ⟨#[]⟩, .string ⟨#[]⟩, .string ⟨#[]⟩, .int .i64 0] 27) := ⟨_, rfl⟩
  have hb2 : Below w.heap.size w w2 := by rw [hw2]; (repeat (first | with_reducible exact Below.refl _ _ | with_reducible assumption | with_reducible refine Below.drew ?_ | with_reducible refine Below.al ?_ _ | with_reducible refine Below.setCell ?_ (by first | exact Nat.le_refl _ | (simp; omega) | (simp; done)) _ | with_reducible refine Below.on ?_ (by assumption)))
  have hFl : F < w.heap.size := by obtain ⟨a, cap, hx⟩ := h; exact hx.lt
  have hs2 : w2.heap.size = w.heap.size + 2 := by rw [hw2]; simp
  have CN := hid (name_is (h.on hb2) hr)
  obtain ⟨n8, ntx⟩ := name_b8 hr
  have hso : w2.heap[w.heap.size + 1]? = some (.cells #[.int .i64 0, .bool false, .bool false, .bool false, .string ⟨#[]⟩, .string ⟨#[]⟩, .string ⟨#[]⟩, .string ⟨#[]⟩, .int .i64 0] 27 (0, 0)) := by
    rw [hw2]
    have := heap_alloc_new (w.alloc (.cells #[.int .i64 0, .bool false, .bool false, .bool false, .string ⟨#[]⟩, .string ⟨#[]⟩, .string ⟨#[]⟩, .string ⟨#[]⟩, .int .i64 0] 27)) (.cells #[.int .i64 0, .bool false, .bool false, .bool false, .string ⟨#[]⟩, .string ⟨#[]⟩, .string ⟨#[]⟩, .string ⟨#[]⟩, .int .i64 0] 27)
    simpa using this
  have hsr : w2.heap[w.heap.size]? = some (.cells #[.int .i64 0, .bool false, .bool false, .bool false, .string ⟨#[]⟩, .string ⟨#[]⟩, .string ⟨#[]⟩, .string ⟨#[]⟩, .int .i64 0] 27 (0, 0)) := by
    rw [hw2, Below.heap_alloc _ _ _ (by simp)]
    exact heap_alloc_new w _

  generalize (nameF r).2 = rr at *
  generalize (nameF r).1 = nm at *
  subst hnm
  have k0 : ((ofNats bRo).toList == [98, 101, 103, 105, 110, 32, 97, 116]) = false := (lit_is n8 (c := bAt) (b8_lit (by decide)) rfl).trans (by decide)
  have k1 : ((ofNats bRo).toList == [98, 101, 103, 105, 110, 32, 114, 111]) = true := (lit_is n8 (c := bRo) (b8_lit (by decide)) rfl).trans (by decide)
  generalize ofNats bRo = s at *
  have O2 := hid (Onl.of_below (F := fun k => k = F) hb2)
  have HSO := hid hso
  have HSR := hid hsr
  clear hso hsr h
  go_enter Tryd.func26, Tryd.ntmps26
  go_wp2_with fail
  rw [← hw2]
  refine CN.out.mono ?_
  rintro e w1 ⟨rfl, h1, o1⟩
  have H1 := hid h1
  have O1 := hid (O2.out.trans o1)
  have BO1 := hid (keep_blk o1 HSO.out (by omega))
  have BR1 := hid (keep_blk o1 HSR.out (by omega))
  clear h1 o1 CN hw2 HSO HSR
  have f1_1 : w1.frozen? ⟨w.heap.size + 1, 1, none⟩ = false := Lib.frozen_of_heap BO1.out 1
  have c1_1 : w1.cell? ⟨w.heap.size + 1, 1, none⟩ = some (.bool false) := by rw [Lib.cell_of_heap BO1.out]; rfl
  have Ps0 : Hid ((w1.setCell ⟨w.heap.size + 1, 1, none⟩ (.bool true)).heap[w.heap.size + 1]? = some (.cells #[.int .i64 0, .bool true, .bool false, .bool false, .string ⟨#[]⟩, .string ⟨#[]⟩, .string ⟨#[]⟩, .string ⟨#[]⟩, .int .i64 0] 27 (0, 0))) := hid (heap_setCell_same _ _ 1 _ _ _ BO1.out)
  have Qs0 : Hid ((w1.setCell ⟨w.heap.size + 1, 1, none⟩ (.bool true)).heap[w.heap.size]? = some (.cells #[.int .i64 0, .bool false, .bool false, .bool false, .string ⟨#[]⟩, .string ⟨#[]⟩, .string ⟨#[]⟩, .string ⟨#[]⟩, .int .i64 0] 27 (0, 0))) := hid ((Below.heap_setCell _ _ _ _ (by simp)).trans BR1.out)
  have G1 : Hid (Fd (w1.setCell ⟨w.heap.size + 1, 1, none⟩ (.bool true)) F B rr _) := hid (H1.out.off (q := w.heap.size + 1) (by omega) (by omega) 1 (.bool true))
  have C1 : Hid (Chg F w (w1.setCell ⟨w.heap.size + 1, 1, none⟩ (.bool true))) := hid (O1.out.setNew (q := w.heap.size + 1) (by omega) 1 (.bool true))
  have P1 : Hid ((w1.setCell ⟨w.heap.size + 1, 1, none⟩ (.bool true)).heap[w.heap.size + 1]? = some (.cells #[.int .i64 0, .bool true, .bool false, .bool false, .string ⟨#[]⟩, .string ⟨#[]⟩, .string ⟨#[]⟩, .string ⟨#[]⟩, .int .i64 0] 27 (0, 0))) := hid Ps0.out
  have Q1 : Hid ((w1.setCell ⟨w.heap.size + 1, 1, none⟩ (.bool true)).heap[w.heap.size]? = some (.cells #[.int .i64 0, .bool false, .bool false, .bool false, .string ⟨#[]⟩, .string ⟨#[]⟩, .string ⟨#[]⟩, .string ⟨#[]⟩, .int .i64 0] 27 (0, 0))) := hid Qs0.out
  go_wp2_with fail
  refine (text_is G1.out ntx).mono ?_
  rintro e w2 ⟨rfl, h2, o2⟩
  generalize hT1 : ofNats (unT (hdF rr)) = t1
  have HT1 := hid hT1
  clear hT1
  have H2 := hid h2
  have O2 := hid (C1.out.trans o2)
  have BO2 := hid (keep_blk o2 P1.out (by omega))
  have BR2 := hid (keep_blk o2 Q1.out (by omega))
  clear h2 o2 G1 C1 P1 Q1
  have f2_0 : w2.frozen? ⟨w.heap.size + 1, 0, none⟩ = false := Lib.frozen_of_heap BO2.out 0
  have c2_0 : w2.cell? ⟨w.heap.size + 1, 0, none⟩ = some (.int .i64 0) := by rw [Lib.cell_of_heap BO2.out]; rfl
  have f2_4 : w2.frozen? ⟨w.heap.size + 1, 4, none⟩ = false := Lib.frozen_of_heap BO2.out 4
  have c2_4 : w2.cell? ⟨w.heap.size + 1, 4, none⟩ = some (.string ⟨#[]⟩) := by rw [Lib.cell_of_heap BO2.out]; rfl
  have Ps2 : Hid ((w2.setCell ⟨w.heap.size + 1, 0, none⟩ (.int .i64 1)).heap[w.heap.size + 1]? = some (.cells #[.int .i64 1, .bool true, .bool false, .bool false, .string ⟨#[]⟩, .string ⟨#[]⟩, .string ⟨#[]⟩, .string ⟨#[]⟩, .int .i64 0] 27 (0, 0))) := hid (heap_setCell_same _ _ 0 _ _ _ BO2.out)
  have Qs2 : Hid ((w2.setCell ⟨w.heap.size + 1, 0, none⟩ (.int .i64 1)).heap[w.heap.size]? = some (.cells #[.int .i64 0, .bool false, .bool false, .bool false, .string ⟨#[]⟩, .string ⟨#[]⟩, .string ⟨#[]⟩, .string ⟨#[]⟩, .int .i64 0] 27 (0, 0))) := hid ((Below.heap_setCell _ _ _ _ (by simp)).trans BR2.out)
  have Ps3 : Hid (((w2.setCell ⟨w.heap.size + 1, 0, none⟩ (.int .i64 1)).setCell ⟨w.heap.size + 1, 4, none⟩ (.string t1)).heap[w.heap.size + 1]? = some (.cells #[.int .i64 1, .bool true, .bool false, .bool false, .string t1, .string ⟨#[]⟩, .string ⟨#[]⟩, .string ⟨#[]⟩, .int .i64 0] 27 (0, 0))) := hid (heap_setCell_same _ _ 4 _ _ _ Ps2.out)
  have Qs3 : Hid (((w2.setCell ⟨w.heap.size + 1, 0, none⟩ (.int .i64 1)).setCell ⟨w.heap.size + 1, 4, none⟩ (.string t1)).heap[w.heap.size]? = some (.cells #[.int .i64 0, .bool false, .bool false, .bool false, .string ⟨#[]⟩, .string ⟨#[]⟩, .string ⟨#[]⟩, .string ⟨#[]⟩, .int .i64 0] 27 (0, 0))) := hid ((Below.heap_setCell _ _ _ _ (by simp)).trans Qs2.out)
  have GZ : Hid (Fd ((w2.setCell ⟨w.heap.size + 1, 0, none⟩ (.int .i64 1)).setCell ⟨w.heap.size + 1, 4, none⟩ (.string t1)) F B rr.tail _) := hid ((H2.out.off (q := w.heap.size + 1) (by omega) (by omega) 0 (.int .i64 1)).off (q := w.heap.size + 1) (by omega) (by omega) 4 (.string t1))
  have CZ : Hid (Chg F w ((w2.setCell ⟨w.heap.size + 1, 0, none⟩ (.int .i64 1)).setCell ⟨w.heap.size + 1, 4, none⟩ (.string t1))) := hid ((O2.out.setNew (q := w.heap.size + 1) (by omega) 0 (.int .i64 1)).setNew (q := w.heap.size + 1) (by omega) 4 (.string t1))
  have PZ : Hid (((w2.setCell ⟨w.heap.size + 1, 0, none⟩ (.int .i64 1)).setCell ⟨w.heap.size + 1, 4, none⟩ (.string t1)).heap[w.heap.size + 1]? = some (.cells #[.int .i64 1, .bool true, .bool false, .bool false, .string t1, .string ⟨#[]⟩, .string ⟨#[]⟩, .string ⟨#[]⟩, .int .i64 0] 27 (0, 0))) := hid Ps3.out
  have QZ : Hid (((w2.setCell ⟨w.heap.size + 1, 0, none⟩ (.int .i64 1)).setCell ⟨w.heap.size + 1, 4, none⟩ (.string t1)).heap[w.heap.size]? = some (.cells #[.int .i64 0, .bool false, .bool false, .bool false, .string ⟨#[]⟩, .string ⟨#[]⟩, .string ⟨#[]⟩, .string ⟨#[]⟩, .int .i64 0] 27 (0, 0))) := hid Qs3.out
  have RZ : Hid ((((w2.setCell ⟨w.heap.size + 1, 0, none⟩ (.int .i64 1)).setCell ⟨w.heap.size + 1, 4, none⟩ (.string t1)).setRow w.heap.size #[.int .i64 1, .bool true, .bool false, .bool false, .string t1, .string ⟨#[]⟩, .string ⟨#[]⟩, .string ⟨#[]⟩, .int .i64 0]).heap[w.heap.size]? = some (.cells #[.int .i64 1, .bool true, .bool false, .bool false, .string t1, .string ⟨#[]⟩, .string ⟨#[]⟩, .string ⟨#[]⟩, .int .i64 0] 27 (0, 0))) := hid (setRow_heap _ _ _ _ _ _ QZ.out)
  have EZ := hid (end_op hFl hB GZ.out CZ.out #[.int .i64 1, .bool true, .bool false, .bool false, .string t1, .string ⟨#[]⟩, .string ⟨#[]⟩, .string ⟨#[]⟩, .int .i64 0])
  clear GZ CZ hs2
  go_upto_region 24 with fail
  go_wp2_with (first | (refine wpList_load_at (by rfl) 27 _ (by rfl) ⟨w.heap.size + 1, 0, none⟩ (by rfl) [.int .i64 1, .bool true, .bool false, .bool false, .string t1, .string ⟨#[]⟩, .string ⟨#[]⟩, .string ⟨#[]⟩, .int .i64 0] _ (cells_at PZ.out) Tryd.underlying27 (by rfl) infoOp ?_) | (refine wpList_store_row (by rfl) 27 _ _ (by rfl) w.heap.size #[.int .i64 1, .bool true, .bool false, .bool false, .string t1, .string ⟨#[]⟩, .string ⟨#[]⟩, .string ⟨#[]⟩, .int .i64 0] (by rfl) (by rfl) _ _ QZ.out infoOp rfl (one9 _ _ _ _ _ _ _ _ _) ?_) | fail)
  have LZ := hid (run_loadVar_at (P := Tryd.prog) _ ⟨w.heap.size, 0, none⟩ 27 [.int .i64 1, .bool true, .bool false, .bool false, .string t1, .string ⟨#[]⟩, .string ⟨#[]⟩, .string ⟨#[]⟩, .int .i64 0] _ (cells_at RZ.out) Tryd.underlying27 (by rfl) infoOp)
  refine bodyPost_ret (v := .agg #[.int .i64 1, .bool true, .bool false, .bool false, .string t1, .string ⟨#[]⟩, .string ⟨#[]⟩, .string ⟨#[]⟩, .int .i64 0]) (by simp [results, Tryd.results26, Act.put, asAddr, LZ.out]) rfl ?_
  obtain ⟨n, n0, n1, hlim⟩ := lim_some (hdF rr.tail.tail)
  have e : opF bRo rr n = ⟨⟨1, true, false, false, unT (hdF rr), [], [], [], 0⟩, badT (hdF rr), rr.tail⟩ := by simp [opF]
  refine ⟨n, n0, n1, hlim, ?_, ?_, EZ.out.2⟩
  · rw [e]; rw [← HT1.out]; rfl
  · rw [e]
    have h := EZ.out.1
    try simp only [Bool.or_false, Bool.or_assoc] at h ⊢
    exact h

set_option maxHeartbeats 4000000 in
set_option maxRecDepth 100000 in
theorem op_rw {w0 w : World} {F B : Nat} {r : List (List Nat)} {bad : Bool} (hv : Vars w0) (h0 : Below w0.heap.size w0 w) (hF : w0.heap.size ≤ F) (hB : B ≤ w.heap.size) (h : Fd w F B r bad) (hr : TxOk r) (hnm : (nameF r).1 = bRw) :
    Calls Tryd.prog 26 #[.pointer (some ⟨F, 0, none⟩)] w (OpP w F B bad (nameF r).1 (nameF r).2) := by
  obtain ⟨w2, hw2⟩ : ∃ w2, w2 = (w.alloc (.cells #[.int .i64 0, .bool false, .bool false, .bool false, .string ⟨#[]⟩, .string ⟨#[]⟩, .string ⟨#[]⟩, .string ⟨#[]⟩, .int .i64 0] 27)).alloc (.cells #[.int .i64 0, .bool false, .bool false, .bool false, .string ⟨#[]⟩, .string ⟨#[]⟩, .string ⟨#[]⟩, .string ⟨#[]⟩, .int .i64 0] 27) := ⟨_, rfl⟩
  have hb2 : Below w.heap.size w w2 := by rw [hw2]; (repeat (first | with_reducible exact Below.refl _ _ | with_reducible assumption | with_reducible refine Below.drew ?_ | with_reducible refine Below.al ?_ _ | with_reducible refine Below.setCell ?_ (by first | exact Nat.le_refl _ | (simp; omega) | (simp; done)) _ | with_reducible refine Below.on ?_ (by assumption)))
  have hFl : F < w.heap.size := by obtain ⟨a, cap, hx⟩ := h; exact hx.lt
  have hs2 : w2.heap.size = w.heap.size + 2 := by rw [hw2]; simp
  have CN := hid (name_is (h.on hb2) hr)
  obtain ⟨n8, ntx⟩ := name_b8 hr
  have hso : w2.heap[w.heap.size + 1]? = some (.cells #[.int .i64 0, .bool false, .bool false, .bool false, .string ⟨#[]⟩, .string ⟨#[]⟩, .string ⟨#[]⟩, .string ⟨#[]⟩, .int .i64 0] 27 (0, 0)) := by
    rw [hw2]
    have := heap_alloc_new (w.alloc (.cells #[.int .i64 0, .bool false, .bool false, .bool false, .string ⟨#[]⟩, .string ⟨#[]⟩, .string ⟨#[]⟩, .string ⟨#[]⟩, .int .i64 0] 27)) (.cells #[.int .i64 0, .bool false, .bool false, .bool false, .string ⟨#[]⟩, .string ⟨#[]⟩, .string ⟨#[]⟩, .string ⟨#[]⟩, .int .i64 0] 27)
    simpa using this
  have hsr : w2.heap[w.heap.size]? = some (.cells #[.int .i64 0, .bool false, .bool false, .bool false, .string ⟨#[]⟩, .string ⟨#[]⟩, .string ⟨#[]⟩, .string ⟨#[]⟩, .int .i64 0] 27 (0, 0)) := by
    rw [hw2, Below.heap_alloc _ _ _ (by simp)]
    exact heap_alloc_new w _

  generalize (nameF r).2 = rr at *
  generalize (nameF r).1 = nm at *
  subst hnm
  have k0 : ((ofNats bRw).toList == [98, 101, 103, 105, 110, 32, 97, 116]) = false := (lit_is n8 (c := bAt) (b8_lit (by decide)) rfl).trans (by decide)
  have k1 : ((ofNats bRw).toList == [98, 101, 103, 105, 110, 32, 114, 111]) = false := (lit_is n8 (c := bRo) (b8_lit (by decide)) rfl).trans (by decide)
  have k2 : ((ofNats bRw).toList == [98, 101, 103, 105, 110, 32, 114, 119]) = true := (lit_is n8 (c := bRw) (b8_lit (by decide)) rfl).trans (by decide)
  generalize ofNats bRw = s at *
  have O2 := hid (Onl.of_below (F := fun k => k = F) hb2)
  have HSO := hid hso
  have HSR := hid hsr
  clear hso hsr h
  go_enter Tryd.func26, Tryd.ntmps26
  go_wp2_with fail
  rw [← hw2]
  refine CN.out.mono ?_
  rintro e w1 ⟨rfl, h1, o1⟩
  have H1 := hid h1
  have O1 := hid (O2.out.trans o1)
  have BO1 := hid (keep_blk o1 HSO.out (by omega))
  have BR1 := hid (keep_blk o1 HSR.out (by omega))
  clear h1 o1 CN hw2 HSO HSR
  have G0 : Hid (Fd w1 F B rr _) := hid H1.out
  have C0 : Hid (Chg F w w1) := hid O1.out
  have P0 : Hid (w1.heap[w.heap.size + 1]? = some (.cells #[.int .i64 0, .bool false, .bool false, .bool false, .string ⟨#[]⟩, .string ⟨#[]⟩, .string ⟨#[]⟩, .string ⟨#[]⟩, .int .i64 0] 27 (0, 0))) := hid BO1.out
  have Q0 : Hid (w1.heap[w.heap.size]? = some (.cells #[.int .i64 0, .bool false, .bool false, .bool false, .string ⟨#[]⟩, .string ⟨#[]⟩, .string ⟨#[]⟩, .string ⟨#[]⟩, .int .i64 0] 27 (0, 0))) := hid BR1.out
  go_wp2_with fail
  refine (text_is G0.out ntx).mono ?_
  rintro e w2 ⟨rfl, h2, o2⟩
  generalize hT1 : ofNats (unT (hdF rr)) = t1
  have HT1 := hid hT1
  clear hT1
  have H2 := hid h2
  have O2 := hid (C0.out.trans o2)
  have BO2 := hid (keep_blk o2 P0.out (by omega))
  have BR2 := hid (keep_blk o2 Q0.out (by omega))
  clear h2 o2 G0 C0 P0 Q0
  have f2_0 : w2.frozen? ⟨w.heap.size + 1, 0, none⟩ = false := Lib.frozen_of_heap BO2.out 0
  have c2_0 : w2.cell? ⟨w.heap.size + 1, 0, none⟩ = some (.int .i64 0) := by rw [Lib.cell_of_heap BO2.out]; rfl
  have f2_4 : w2.frozen? ⟨w.heap.size + 1, 4, none⟩ = false := Lib.frozen_of_heap BO2.out 4
  have c2_4 : w2.cell? ⟨w.heap.size + 1, 4, none⟩ = some (.string ⟨#[]⟩) := by rw [Lib.cell_of_heap BO2.out]; rfl
  have Ps1 : Hid ((w2.setCell ⟨w.heap.size + 1, 0, none⟩ (.int .i64 1)).heap[w.heap.size + 1]? = some (.cells #[.int .i64 1, .bool false, .bool false, .bool false, .string ⟨#[]⟩, .string ⟨#[]⟩, .string ⟨#[]⟩, .string ⟨#[]⟩, .int .i64 0] 27 (0, 0))) := hid (heap_setCell_same _ _ 0 _ _ _ BO2.out)
  have Qs1 : Hid ((w2.setCell ⟨w.heap.size + 1, 0, none⟩ (.int .i64 1)).heap[w.heap.size]? = some (.cells #[.int .i64 0, .bool false, .bool false, .bool false, .string ⟨#[]⟩, .string ⟨#[]⟩, .string ⟨#[]⟩, .string ⟨#[]⟩, .int .i64 0] 27 (0, 0))) := hid ((Below.heap_setCell _ _ _ _ (by simp)).trans BR2.out)
  have Ps2 : Hid (((w2.setCell ⟨w.heap.size + 1, 0, none⟩ (.int .i64 1)).setCell ⟨w.heap.size + 1, 4, none⟩ (.string t1)).heap[w.heap.size + 1]? = some (.cells #[.int .i64 1, .bool false, .bool false, .bool false, .string t1, .string ⟨#[]⟩, .string ⟨#[]⟩, .string ⟨#[]⟩, .int .i64 0] 27 (0, 0))) := hid (heap_setCell_same _ _ 4 _ _ _ Ps1.out)
  have Qs2 : Hid (((w2.setCell ⟨w.heap.size + 1, 0, none⟩ (.int .i64 1)).setCell ⟨w.heap.size + 1, 4, none⟩ (.string t1)).heap[w.heap.size]? = some (.cells #[.int .i64 0, .bool false, .bool false, .bool false, .string ⟨#[]⟩, .string ⟨#[]⟩, .string ⟨#[]⟩, .string ⟨#[]⟩, .int .i64 0] 27 (0, 0))) := hid ((Below.heap_setCell _ _ _ _ (by simp)).trans Qs1.out)
  have GZ : Hid (Fd ((w2.setCell ⟨w.heap.size + 1, 0, none⟩ (.int .i64 1)).setCell ⟨w.heap.size + 1, 4, none⟩ (.string t1)) F B rr.tail _) := hid ((H2.out.off (q := w.heap.size + 1) (by omega) (by omega) 0 (.int .i64 1)).off (q := w.heap.size + 1) (by omega) (by omega) 4 (.string t1))
  have CZ : Hid (Chg F w ((w2.setCell ⟨w.heap.size + 1, 0, none⟩ (.int .i64 1)).setCell ⟨w.heap.size + 1, 4, none⟩ (.string t1))) := hid ((O2.out.setNew (q := w.heap.size + 1) (by omega) 0 (.int .i64 1)).setNew (q := w.heap.size + 1) (by omega) 4 (.string t1))
  have PZ : Hid (((w2.setCell ⟨w.heap.size + 1, 0, none⟩ (.int .i64 1)).setCell ⟨w.heap.size + 1, 4, none⟩ (.string t1)).heap[w.heap.size + 1]? = some (.cells #[.int .i64 1, .bool false, .bool false, .bool false, .string t1, .string ⟨#[]⟩, .string ⟨#[]⟩, .string ⟨#[]⟩, .int .i64 0] 27 (0, 0))) := hid Ps2.out
  have QZ : Hid (((w2.setCell ⟨w.heap.size + 1, 0, none⟩ (.int .i64 1)).setCell ⟨w.heap.size + 1, 4, none⟩ (.string t1)).heap[w.heap.size]? = some (.cells #[.int .i64 0, .bool false, .bool false, .bool false, .string ⟨#[]⟩, .string ⟨#[]⟩, .string ⟨#[]⟩, .string ⟨#[]⟩, .int .i64 0] 27 (0, 0))) := hid Qs2.out
  have RZ : Hid ((((w2.setCell ⟨w.heap.size + 1, 0, none⟩ (.int .i64 1)).setCell ⟨w.heap.size + 1, 4, none⟩ (.string t1)).setRow w.heap.size #[.int .i64 1, .bool false, .bool false, .bool false, .string t1, .string ⟨#[]⟩, .string ⟨#[]⟩, .string ⟨#[]⟩, .int .i64 0]).heap[w.heap.size]? = some (.cells #[.int .i64 1, .bool false, .bool false, .bool false, .string t1, .string ⟨#[]⟩, .string ⟨#[]⟩, .string ⟨#[]⟩, .int .i64 0] 27 (0, 0))) := hid (setRow_heap _ _ _ _ _ _ QZ.out)
  have EZ := hid (end_op hFl hB GZ.out CZ.out #[.int .i64 1, .bool false, .bool false, .bool false, .string t1, .string ⟨#[]⟩, .string ⟨#[]⟩, .string ⟨#[]⟩, .int .i64 0])
  clear GZ CZ hs2
  go_upto_region 24 with fail
  go_wp2_with (first | (refine wpList_load_at (by rfl) 27 _ (by rfl) ⟨w.heap.size + 1, 0, none⟩ (by rfl) [.int .i64 1, .bool false, .bool false, .bool false, .string t1, .string ⟨#[]⟩, .string ⟨#[]⟩, .string ⟨#[]⟩, .int .i64 0] _ (cells_at PZ.out) Tryd.underlying27 (by rfl) infoOp ?_) | (refine wpList_store_row (by rfl) 27 _ _ (by rfl) w.heap.size #[.int .i64 1, .bool false, .bool false, .bool false, .string t1, .string ⟨#[]⟩, .string ⟨#[]⟩, .string ⟨#[]⟩, .int .i64 0] (by rfl) (by rfl) _ _ QZ.out infoOp rfl (one9 _ _ _ _ _ _ _ _ _) ?_) | fail)
  have LZ := hid (run_loadVar_at (P := Tryd.prog) _ ⟨w.heap.size, 0, none⟩ 27 [.int .i64 1, .bool false, .bool false, .bool false, .string t1, .string ⟨#[]⟩, .string ⟨#[]⟩, .string ⟨#[]⟩, .int .i64 0] _ (cells_at RZ.out) Tryd.underlying27 (by rfl) infoOp)
  refine bodyPost_ret (v := .agg #[.int .i64 1, .bool false, .bool false, .bool false, .string t1, .string ⟨#[]⟩, .string ⟨#[]⟩, .string ⟨#[]⟩, .int .i64 0]) (by simp [results, Tryd.results26, Act.put, asAddr, LZ.out]) rfl ?_
  obtain ⟨n, n0, n1, hlim⟩ := lim_some (hdF rr.tail.tail)
  have e : opF bRw rr n = ⟨⟨1, false, false, false, unT (hdF rr), [], [], [], 0⟩, badT (hdF rr), rr.tail⟩ := by simp [opF]
  refine ⟨n, n0, n1, hlim, ?_, ?_, EZ.out.2⟩
  · rw [e]; rw [← HT1.out]; rfl
  · rw [e]
    have h := EZ.out.1
    try simp only [Bool.or_false, Bool.or_assoc] at h ⊢
    exact h

set_option maxHeartbeats 4000000 in
set_option maxRecDepth 100000 in
theorem op_get {w0 w : World} {F B : Nat} {r : List (List Nat)} {bad : Bool} (hv : Vars w0) (h0 : Below w0.heap.size w0 w) (hF : w0.heap.size ≤ F) (hB : B ≤ w.heap.size) (h : Fd w F B r bad) (hr : TxOk r) (hnm : (nameF r).1 = nGet) :
    Calls Tryd.prog 26 #[.pointer (some ⟨F, 0, none⟩)] w (OpP w F B bad (nameF r).1 (nameF r).2) := by
  obtain ⟨w2, hw2⟩ : ∃ w2, w2 = (w.alloc (.cells #[.int .i64 0, .bool false, .bool false, .bool false, .string ⟨#[]⟩, .string ⟨#[]⟩, .string ⟨#[]⟩, .string ⟨#[]⟩, .int .i64 0] 27)).alloc (.cells #[.int .i64 0, .bool false, .bool false, .bool false, .string ⟨#[]⟩, .string ⟨#[]⟩, .string ⟨#[]⟩, .string ⟨#[]⟩, .int .i64 0] 27) := ⟨_, rfl⟩
  have hb2 : Below w.heap.size w w2 := by rw [hw2]; (repeat (first | with_reducible exact Below.refl _ _ | with_reducible assumption | with_reducible refine Below.drew ?_ | with_reducible refine Below.al ?_ _ | with_reducible refine Below.setCell ?_ (by first | exact Nat.le_refl _ | (simp; omega) | (simp; done)) _ | with_reducible refine Below.on ?_ (by assumption)))
  have hFl : F < w.heap.size := by obtain ⟨a, cap, hx⟩ := h; exact hx.lt
  have hs2 : w2.heap.size = w.heap.size + 2 := by rw [hw2]; simp
  have CN := hid (name_is (h.on hb2) hr)
  obtain ⟨n8, ntx⟩ := name_b8 hr
  have hso : w2.heap[w.heap.size + 1]? = some (.cells #[.int .i64 0, .bool false, .bool false, .bool false, .string ⟨#[]⟩, .string ⟨#[]⟩, .string ⟨#[]⟩, .string ⟨#[]⟩, .int .i64 0] 27 (0, 0)) := by
    rw [hw2]
    have := heap_alloc_new (w.alloc (.cells #[.int .i64 0, .bool false, .bool false, .bool false, .string ⟨#[]⟩, .string ⟨#[]⟩, .string ⟨#[]⟩, .string ⟨#[]⟩, .int .i64 0] 27)) (.cells #[.int .i64 0, .bool false, .bool false, .bool false, .string ⟨#[]⟩, .string ⟨#[]⟩, .string ⟨#[]⟩, .string ⟨#[]⟩, .int .i64 0] 27)
    simpa using this
  have hsr : w2.heap[w.heap.size]? = some (.cells #[.int .i64 0, .bool false, .bool false, .bool false, .string ⟨#[]⟩, .string ⟨#[]⟩, .string ⟨#[]⟩, .string ⟨#[]⟩, .int .i64 0] 27 (0, 0)) := by
    rw [hw2, Below.heap_alloc _ _ _ (by simp)]
    exact heap_alloc_new w _

  generalize (nameF r).2 = rr at *
  generalize (nameF r).1 = nm at *
  subst hnm
  have k0 : ((ofNats nGet).toList == [98, 101, 103, 105, 110, 32, 97, 116]) = false := (lit_is n8 (c := bAt) (b8_lit (by decide)) rfl).trans (by decide)
  have k1 : ((ofNats nGet).toList == [98, 101, 103, 105, 110, 32, 114, 111]) = false := (lit_is n8 (c := bRo) (b8_lit (by decide)) rfl).trans (by decide)
  have k2 : ((ofNats nGet).toList == [98, 101, 103, 105, 110, 32, 114, 119]) = false := (lit_is n8 (c := bRw) (b8_lit (by decide)) rfl).trans (by decide)
  have k3 : ((ofNats nGet).toList == [103, 101, 116]) = true := (lit_is n8 (c := nGet) (b8_lit (by decide)) rfl).trans (by decide)
  generalize ofNats nGet = s at *
  have O2 := hid (Onl.of_below (F := fun k => k = F) hb2)
  have HSO := hid hso
  have HSR := hid hsr
  clear hso hsr h
  go_enter Tryd.func26, Tryd.ntmps26
  go_wp2_with fail
  rw [← hw2]
  refine CN.out.mono ?_
  rintro e w1 ⟨rfl, h1, o1⟩
  have H1 := hid h1
  have O1 := hid (O2.out.trans o1)
  have BO1 := hid (keep_blk o1 HSO.out (by omega))
  have BR1 := hid (keep_blk o1 HSR.out (by omega))
  clear h1 o1 CN hw2 HSO HSR
  have G0 : Hid (Fd w1 F B rr _) := hid H1.out
  have C0 : Hid (Chg F w w1) := hid O1.out
  have P0 : Hid (w1.heap[w.heap.size + 1]? = some (.cells #[.int .i64 0, .bool false, .bool false, .bool false, .string ⟨#[]⟩, .string ⟨#[]⟩, .string ⟨#[]⟩, .string ⟨#[]⟩, .int .i64 0] 27 (0, 0))) := hid BO1.out
  have Q0 : Hid (w1.heap[w.heap.size]? = some (.cells #[.int .i64 0, .bool false, .bool false, .bool false, .string ⟨#[]⟩, .string ⟨#[]⟩, .string ⟨#[]⟩, .string ⟨#[]⟩, .int .i64 0] 27 (0, 0))) := hid BR1.out
  go_wp2_with fail
  refine (text_is G0.out ntx).mono ?_
  rintro e w2 ⟨rfl, h2, o2⟩
  generalize hT1 : ofNats (unT (hdF rr)) = t1
  have HT1 := hid hT1
  clear hT1
  have H2 := hid h2
  have O2 := hid (C0.out.trans o2)
  have BO2 := hid (keep_blk o2 P0.out (by omega))
  have BR2 := hid (keep_blk o2 Q0.out (by omega))
  clear h2 o2 G0 C0 P0 Q0
  have f2_0 : w2.frozen? ⟨w.heap.size + 1, 0, none⟩ = false := Lib.frozen_of_heap BO2.out 0
  have c2_0 : w2.cell? ⟨w.heap.size + 1, 0, none⟩ = some (.int .i64 0) := by rw [Lib.cell_of_heap BO2.out]; rfl
  have f2_5 : w2.frozen? ⟨w.heap.size + 1, 5, none⟩ = false := Lib.frozen_of_heap BO2.out 5
  have c2_5 : w2.cell? ⟨w.heap.size + 1, 5, none⟩ = some (.string ⟨#[]⟩) := by rw [Lib.cell_of_heap BO2.out]; rfl
  have Ps1 : Hid ((w2.setCell ⟨w.heap.size + 1, 0, none⟩ (.int .i64 2)).heap[w.heap.size + 1]? = some (.cells #[.int .i64 2, .bool false, .bool false, .bool false, .string ⟨#[]⟩, .string ⟨#[]⟩, .string ⟨#[]⟩, .string ⟨#[]⟩, .int .i64 0] 27 (0, 0))) := hid (heap_setCell_same _ _ 0 _ _ _ BO2.out)
  have Qs1 : Hid ((w2.setCell ⟨w.heap.size + 1, 0, none⟩ (.int .i64 2)).heap[w.heap.size]? = some (.cells #[.int .i64 0, .bool false, .bool false, .bool false, .string ⟨#[]⟩, .string ⟨#[]⟩, .string ⟨#[]⟩, .string ⟨#[]⟩, .int .i64 0] 27 (0, 0))) := hid ((Below.heap_setCell _ _ _ _ (by simp)).trans BR2.out)
  have Ps2 : Hid (((w2.setCell ⟨w.heap.size + 1, 0, none⟩ (.int .i64 2)).setCell ⟨w.heap.size + 1, 5, none⟩ (.string t1)).heap[w.heap.size + 1]? = some (.cells #[.int .i64 2, .bool false, .bool false, .bool false, .string ⟨#[]⟩, .string t1, .string ⟨#[]⟩, .string ⟨#[]⟩, .int .i64 0] 27 (0, 0))) := hid (heap_setCell_same _ _ 5 _ _ _ Ps1.out)
  have Qs2 : Hid (((w2.setCell ⟨w.heap.size + 1, 0, none⟩ (.int .i64 2)).setCell ⟨w.heap.size + 1, 5, none⟩ (.string t1)).heap[w.heap.size]? = some (.cells #[.int .i64 0, .bool false, .bool false, .bool false, .string ⟨#[]⟩, .string ⟨#[]⟩, .string ⟨#[]⟩, .string ⟨#[]⟩, .int .i64 0] 27 (0, 0))) := hid ((Below.heap_setCell _ _ _ _ (by simp)).trans Qs1.out)
  have GZ : Hid (Fd ((w2.setCell ⟨w.heap.size + 1, 0, none⟩ (.int .i64 2)).setCell ⟨w.heap.size + 1, 5, none⟩ (.string t1)) F B rr.tail _) := hid ((H2.out.off (q := w.heap.size + 1) (by omega) (by omega) 0 (.int .i64 2)).off (q := w.heap.size + 1) (by omega) (by omega) 5 (.string t1))
  have CZ : Hid (Chg F w ((w2.setCell ⟨w.heap.size + 1, 0, none⟩ (.int .i64 2)).setCell ⟨w.heap.size + 1, 5, none⟩ (.string t1))) := hid ((O2.out.setNew (q := w.heap.size + 1) (by omega) 0 (.int .i64 2)).setNew (q := w.heap.size + 1) (by omega) 5 (.string t1))
  have PZ : Hid (((w2.setCell ⟨w.heap.size + 1, 0, none⟩ (.int .i64 2)).setCell ⟨w.heap.size + 1, 5, none⟩ (.string t1)).heap[w.heap.size + 1]? = some (.cells #[.int .i64 2, .bool false, .bool false, .bool false, .string ⟨#[]⟩, .string t1, .string ⟨#[]⟩, .string ⟨#[]⟩, .int .i64 0] 27 (0, 0))) := hid Ps2.out
  have QZ : Hid (((w2.setCell ⟨w.heap.size + 1, 0, none⟩ (.int .i64 2)).setCell ⟨w.heap.size + 1, 5, none⟩ (.string t1)).heap[w.heap.size]? = some (.cells #[.int .i64 0, .bool false, .bool false, .bool false, .string ⟨#[]⟩, .string ⟨#[]⟩, .string ⟨#[]⟩, .string ⟨#[]⟩, .int .i64 0] 27 (0, 0))) := hid Qs2.out
  have RZ : Hid ((((w2.setCell ⟨w.heap.size + 1, 0, none⟩ (.int .i64 2)).setCell ⟨w.heap.size + 1, 5, none⟩ (.string t1)).setRow w.heap.size #[.int .i64 2, .bool false, .bool false, .bool false, .string ⟨#[]⟩, .string t1, .string ⟨#[]⟩, .string ⟨#[]⟩, .int .i64 0]).heap[w.heap.size]? = some (.cells #[.int .i64 2, .bool false, .bool false, .bool false, .string ⟨#[]⟩, .string t1, .string ⟨#[]⟩, .string ⟨#[]⟩, .int .i64 0] 27 (0, 0))) := hid (setRow_heap _ _ _ _ _ _ QZ.out)
  have EZ := hid (end_op hFl hB GZ.out CZ.out #[.int .i64 2, .bool false, .bool false, .bool false, .string ⟨#[]⟩, .string t1, .string ⟨#[]⟩, .string ⟨#[]⟩, .int .i64 0])
  clear GZ CZ hs2
  go_upto_region 24 with fail
  go_wp2_with (first | (refine wpList_load_at (by rfl) 27 _ (by rfl) ⟨w.heap.size + 1, 0, none⟩ (by rfl) [.int .i64 2, .bool false, .bool false, .bool false, .string ⟨#[]⟩, .string t1, .string ⟨#[]⟩, .string ⟨#[]⟩, .int .i64 0] _ (cells_at PZ.out) Tryd.underlying27 (by rfl) infoOp ?_) | (refine wpList_store_row (by rfl) 27 _ _ (by rfl) w.heap.size #[.int .i64 2, .bool false, .bool false, .bool false, .string ⟨#[]⟩, .string t1, .string ⟨#[]⟩, .string ⟨#[]⟩, .int .i64 0] (by rfl) (by rfl) _ _ QZ.out infoOp rfl (one9 _ _ _ _ _ _ _ _ _) ?_) | fail)
  have LZ := hid (run_loadVar_at (P := Tryd.prog) _ ⟨w.heap.size, 0, none⟩ 27 [.int .i64 2, .bool false, .bool false, .bool false, .string ⟨#[]⟩, .string t1, .string ⟨#[]⟩, .string ⟨#[]⟩, .int .i64 0] _ (cells_at RZ.out) Tryd.underlying27 (by rfl) infoOp)
  refine bodyPost_ret (v := .agg #[.int .i64 2, .bool false, .bool false, .bool false, .string ⟨#[]⟩, .string t1, .string ⟨#[]⟩, .string ⟨#[]⟩, .int .i64 0]) (by simp [results, Tryd.results26, Act.put, asAddr, LZ.out]) rfl ?_
  obtain ⟨n, n0, n1, hlim⟩ := lim_some (hdF rr.tail.tail)
  have e : opF nGet rr n = ⟨⟨2, false, false, false, [], unT (hdF rr), [], [], 0⟩, badT (hdF rr), rr.tail⟩ := by simp [opF]
  refine ⟨n, n0, n1, hlim, ?_, ?_, EZ.out.2⟩
  · rw [e]; rw [← HT1.out]; rfl
  · rw [e]
    have h := EZ.out.1
    try simp only [Bool.or_false, Bool.or_assoc] at h ⊢
    exact h

set_option maxHeartbeats 4000000 in
set_option maxRecDepth 100000 in
theorem op_put {w0 w : World} {F B : Nat} {r : List (List Nat)} {bad : Bool} (hv : Vars w0) (h0 : Below w0.heap.size w0 w) (hF : w0.heap.size ≤ F) (hB : B ≤ w.heap.size) (h : Fd w F B r bad) (hr : TxOk r) (hnm : (nameF r).1 = nPut) :
    Calls Tryd.prog 26 #[.pointer (some ⟨F, 0, none⟩)] w (OpP w F B bad (nameF r).1 (nameF r).2) := by
  obtain ⟨w2, hw2⟩ : ∃ w2, w2 = (w.alloc (.cells #[.int .i64 0, .bool false, .bool false, .bool false, .string ⟨#[]⟩, .string ⟨#[]⟩, .string ⟨#[]⟩, .string ⟨#[]⟩, .int .i64 0] 27)).alloc (.cells #[.int .i64 0, .bool false, .bool false, .bool false, .string ⟨#[]⟩, .string ⟨#[]⟩, .string ⟨#[]⟩, .string ⟨#[]⟩, .int .i64 0] 27) := ⟨_, rfl⟩
  have hb2 : Below w.heap.size w w2 := by rw [hw2]; (repeat (first | with_reducible exact Below.refl _ _ | with_reducible assumption | with_reducible refine Below.drew ?_ | with_reducible refine Below.al ?_ _ | with_reducible refine Below.setCell ?_ (by first | exact Nat.le_refl _ | (simp; omega) | (simp; done)) _ | with_reducible refine Below.on ?_ (by assumption)))
  have hFl : F < w.heap.size := by obtain ⟨a, cap, hx⟩ := h; exact hx.lt
  have hs2 : w2.heap.size = w.heap.size + 2 := by rw [hw2]; simp
  have CN := hid (name_is (h.on hb2) hr)
  obtain ⟨n8, ntx⟩ := name_b8 hr
  have hso : w2.heap[w.heap.size + 1]? = some (.cells #[.int .i64 0, .bool false, .bool false, .bool false, .string ⟨#[]⟩, .string ⟨#[]⟩, .string ⟨#[]⟩, .string ⟨#[]⟩, .int .i64 0] 27 (0, 0)) := by
    rw [hw2]
    have := heap_alloc_new (w.alloc (.cells #[.int .i64 0, .bool false, .bool false, .bool false, .string ⟨#[]⟩, .string ⟨#[]⟩, .string ⟨#[]⟩, .string ⟨#[]⟩, .int .i64 0] 27)) (.cells #[.int .i64 0, .bool false, .bool false, .bool false, .string ⟨#[]⟩, .string ⟨#[]⟩, .string ⟨#[]⟩, .string ⟨#[]⟩, .int .i64 0] 27)
    simpa using this
  have hsr : w2.heap[w.heap.size]? = some (.cells #[.int .i64 0, .bool false, .bool false, .bool false, .string ⟨#[]⟩, .string ⟨#[]⟩, .string ⟨#[]⟩, .string ⟨#[]⟩, .int .i64 0] 27 (0, 0)) := by
    rw [hw2, Below.heap_alloc _ _ _ (by simp)]
    exact heap_alloc_new w _

  generalize (nameF r).2 = rr at *
  generalize (nameF r).1 = nm at *
  subst hnm
  have k0 : ((ofNats nPut).toList == [98, 101, 103, 105, 110, 32, 97, 116]) = false := (lit_is n8 (c := bAt) (b8_lit (by decide)) rfl).trans (by decide)
  have k1 : ((ofNats nPut).toList == [98, 101, 103, 105, 110, 32, 114, 111]) = false := (lit_is n8 (c := bRo) (b8_lit (by decide)) rfl).trans (by decide)
  have k2 : ((ofNats nPut).toList == [98, 101, 103, 105, 110, 32, 114, 119]) = false := (lit_is n8 (c := bRw) (b8_lit (by decide)) rfl).trans (by decide)
  have k3 : ((ofNats nPut).toList == [103, 101, 116]) = false := (lit_is n8 (c := nGet) (b8_lit (by decide)) rfl).trans (by decide)
  have k4 : ((ofNats nPut).toList == [114, 115, 99, 97, 110]) = false := (lit_is n8 (c := nRscan) (b8_lit (by decide)) rfl).trans (by decide)
  have k5 : ((ofNats nPut).toList == [115, 99, 97, 110]) = false := (lit_is n8 (c := nScan) (b8_lit (by decide)) rfl).trans (by decide)
  have k6 : ((ofNats nPut).toList == [112, 117, 116]) = true := (lit_is n8 (c := nPut) (b8_lit (by decide)) rfl).trans (by decide)
  generalize ofNats nPut = s at *
  have O2 := hid (Onl.of_below (F := fun k => k = F) hb2)
  have HSO := hid hso
  have HSR := hid hsr
  clear hso hsr h
  go_enter Tryd.func26, Tryd.ntmps26
  go_wp2_with fail
  rw [← hw2]
  refine CN.out.mono ?_
  rintro e w1 ⟨rfl, h1, o1⟩
  have H1 := hid h1
  have O1 := hid (O2.out.trans o1)
  have BO1 := hid (keep_blk o1 HSO.out (by omega))
  have BR1 := hid (keep_blk o1 HSR.out (by omega))
  clear h1 o1 CN hw2 HSO HSR
  have G0 : Hid (Fd w1 F B rr _) := hid H1.out
  have C0 : Hid (Chg F w w1) := hid O1.out
  have P0 : Hid (w1.heap[w.heap.size + 1]? = some (.cells #[.int .i64 0, .bool false, .bool false, .bool false, .string ⟨#[]⟩, .string ⟨#[]⟩, .string ⟨#[]⟩, .string ⟨#[]⟩, .int .i64 0] 27 (0, 0))) := hid BO1.out
  have Q0 : Hid (w1.heap[w.heap.size]? = some (.cells #[.int .i64 0, .bool false, .bool false, .bool false, .string ⟨#[]⟩, .string ⟨#[]⟩, .string ⟨#[]⟩, .string ⟨#[]⟩, .int .i64 0] 27 (0, 0))) := hid BR1.out
  go_wp2_with fail
  refine (text_is G0.out ntx).mono ?_
  rintro e w2 ⟨rfl, h2, o2⟩
  generalize hT1 : ofNats (unT (hdF rr)) = t1
  have HT1 := hid hT1
  clear hT1
  have H2 := hid h2
  have O2 := hid (C0.out.trans o2)
  have BO2 := hid (keep_blk o2 P0.out (by omega))
  have BR2 := hid (keep_blk o2 Q0.out (by omega))
  clear h2 o2 G0 C0 P0 Q0
  have G1 : Hid (Fd w2 F B rr.tail _) := hid H2.out
  have C1 : Hid (Chg F w w2) := hid O2.out
  have P1 : Hid (w2.heap[w.heap.size + 1]? = some (.cells #[.int .i64 0, .bool false, .bool false, .bool false, .string ⟨#[]⟩, .string ⟨#[]⟩, .string ⟨#[]⟩, .string ⟨#[]⟩, .int .i64 0] 27 (0, 0))) := hid BO2.out
  have Q1 : Hid (w2.heap[w.heap.size]? = some (.cells #[.int .i64 0, .bool false, .bool false, .bool false, .string ⟨#[]⟩, .string ⟨#[]⟩, .string ⟨#[]⟩, .string ⟨#[]⟩, .int .i64 0] 27 (0, 0))) := hid BR2.out
  go_wp2_with fail
  refine (text_is G1.out ntx.tl).mono ?_
  rintro e w3 ⟨rfl, h3, o3⟩
  generalize hT2 : ofNats (unT (hdF rr.tail)) = t2
  have HT2 := hid hT2
  clear hT2
  have H3 := hid h3
  have O3 := hid (C1.out.trans o3)
  have BO3 := hid (keep_blk o3 P1.out (by omega))
  have BR3 := hid (keep_blk o3 Q1.out (by omega))
  clear h3 o3 G1 C1 P1 Q1
  have f3_0 : w3.frozen? ⟨w.heap.size + 1, 0, none⟩ = false := Lib.frozen_of_heap BO3.out 0
  have c3_0 : w3.cell? ⟨w.heap.size + 1, 0, none⟩ = some (.int .i64 0) := by rw [Lib.cell_of_heap BO3.out]; rfl
  have f3_5 : w3.frozen? ⟨w.heap.size + 1, 5, none⟩ = false := Lib.frozen_of_heap BO3.out 5
  have c3_5 : w3.cell? ⟨w.heap.size + 1, 5, none⟩ = some (.string ⟨#[]⟩) := by rw [Lib.cell_of_heap BO3.out]; rfl
  have f3_7 : w3.frozen? ⟨w.heap.size + 1, 7, none⟩ = false := Lib.frozen_of_heap BO3.out 7
  have c3_7 : w3.cell? ⟨w.heap.size + 1, 7, none⟩ = some (.string ⟨#[]⟩) := by rw [Lib.cell_of_heap BO3.out]; rfl
  have Ps2 : Hid ((w3.setCell ⟨w.heap.size + 1, 0, none⟩ (.int .i64 4)).heap[w.heap.size + 1]? = some (.cells #[.int .i64 4, .bool false, .bool false, .bool false, .string ⟨#[]⟩, .string ⟨#[]⟩, .string ⟨#[]⟩, .string ⟨#[]⟩, .int .i64 0] 27 (0, 0))) := hid (heap_setCell_same _ _ 0 _ _ _ BO3.out)
  have Qs2 : Hid ((w3.setCell ⟨w.heap.size + 1, 0, none⟩ (.int .i64 4)).heap[w.heap.size]? = some (.cells #[.int .i64 0, .bool false, .bool false, .bool false, .string ⟨#[]⟩, .string ⟨#[]⟩, .string ⟨#[]⟩, .string ⟨#[]⟩, .int .i64 0] 27 (0, 0))) := hid ((Below.heap_setCell _ _ _ _ (by simp)).trans BR3.out)
  have Ps3 : Hid (((w3.setCell ⟨w.heap.size + 1, 0, none⟩ (.int .i64 4)).setCell ⟨w.heap.size + 1, 5, none⟩ (.string t1)).heap[w.heap.size + 1]? = some (.cells #[.int .i64 4, .bool false, .bool false, .bool false, .string ⟨#[]⟩, .string t1, .string ⟨#[]⟩, .string ⟨#[]⟩, .int .i64 0] 27 (0, 0))) := hid (heap_setCell_same _ _ 5 _ _ _ Ps2.out)
  have Qs3 : Hid (((w3.setCell ⟨w.heap.size + 1, 0, none⟩ (.int .i64 4)).setCell ⟨w.heap.size + 1, 5, none⟩ (.string t1)).heap[w.heap.size]? = some (.cells #[.int .i64 0, .bool false, .bool false, .bool false, .string ⟨#[]⟩, .string ⟨#[]⟩, .string ⟨#[]⟩, .string ⟨#[]⟩, .int .i64 0] 27 (0, 0))) := hid ((Below.heap_setCell _ _ _ _ (by simp)).trans Qs2.out)
  have Ps4 : Hid ((((w3.setCell ⟨w.heap.size + 1, 0, none⟩ (.int .i64 4)).setCell ⟨w.heap.size + 1, 5, none⟩ (.string t1)).setCell ⟨w.heap.size + 1, 7, none⟩ (.string t2)).heap[w.heap.size + 1]? = some (.cells #[.int .i64 4, .bool false, .bool false, .bool false, .string ⟨#[]⟩, .string t1, .string ⟨#[]⟩, .string t2, .int .i64 0] 27 (0, 0))) := hid (heap_setCell_same _ _ 7 _ _ _ Ps3.out)
  have Qs4 : Hid ((((w3.setCell ⟨w.heap.size + 1, 0, none⟩ (.int .i64 4)).setCell ⟨w.heap.size + 1, 5, none⟩ (.string t1)).setCell ⟨w.heap.size + 1, 7, none⟩ (.string t2)).heap[w.heap.size]? = some (.cells #[.int .i64 0, .bool false, .bool false, .bool false, .string ⟨#[]⟩, .string ⟨#[]⟩, .string ⟨#[]⟩, .string ⟨#[]⟩, .int .i64 0] 27 (0, 0))) := hid ((Below.heap_setCell _ _ _ _ (by simp)).trans Qs3.out)
  have GZ : Hid (Fd (((w3.setCell ⟨w.heap.size + 1, 0, none⟩ (.int .i64 4)).setCell ⟨w.heap.size + 1, 5, none⟩ (.string t1)).setCell ⟨w.heap.size + 1, 7, none⟩ (.string t2)) F B rr.tail.tail _) := hid (((H3.out.off (q := w.heap.size + 1) (by omega) (by omega) 0 (.int .i64 4)).off (q := w.heap.size + 1) (by omega) (by omega) 5 (.string t1)).off (q := w.heap.size + 1) (by omega) (by omega) 7 (.string t2))
  have CZ : Hid (Chg F w (((w3.setCell ⟨w.heap.size + 1, 0, none⟩ (.int .i64 4)).setCell ⟨w.heap.size + 1, 5, none⟩ (.string t1)).setCell ⟨w.heap.size + 1, 7, none⟩ (.string t2))) := hid (((O3.out.setNew (q := w.heap.size + 1) (by omega) 0 (.int .i64 4)).setNew (q := w.heap.size + 1) (by omega) 5 (.string t1)).setNew (q := w.heap.size + 1) (by omega) 7 (.string t2))
  have PZ : Hid ((((w3.setCell ⟨w.heap.size + 1, 0, none⟩ (.int .i64 4)).setCell ⟨w.heap.size + 1, 5, none⟩ (.string t1)).setCell ⟨w.heap.size + 1, 7, none⟩ (.string t2)).heap[w.heap.size + 1]? = some (.cells #[.int .i64 4, .bool false, .bool false, .bool false, .string ⟨#[]⟩, .string t1, .string ⟨#[]⟩, .string t2, .int .i64 0] 27 (0, 0))) := hid Ps4.out
  have QZ : Hid ((((w3.setCell ⟨w.heap.size + 1, 0, none⟩ (.int .i64 4)).setCell ⟨w.heap.size + 1, 5, none⟩ (.string t1)).setCell ⟨w.heap.size + 1, 7, none⟩ (.string t2)).heap[w.heap.size]? = some (.cells #[.int .i64 0, .bool false, .bool false, .bool false, .string ⟨#[]⟩, .string ⟨#[]⟩, .string ⟨#[]⟩, .string ⟨#[]⟩, .int .i64 0] 27 (0, 0))) := hid Qs4.out
  have RZ : Hid (((((w3.setCell ⟨w.heap.size + 1, 0, none⟩ (.int .i64 4)).setCell ⟨w.heap.size + 1, 5, none⟩ (.string t1)).setCell ⟨w.heap.size + 1, 7, none⟩ (.string t2)).setRow w.heap.size #[.int .i64 4, .bool false, .bool false, .bool false, .string ⟨#[]⟩, .string t1, .string ⟨#[]⟩, .string t2, .int .i64 0]).heap[w.heap.size]? = some (.cells #[.int .i64 4, .bool false, .bool false, .bool false, .string ⟨#[]⟩, .string t1, .string ⟨#[]⟩, .string t2, .int .i64 0] 27 (0, 0))) := hid (setRow_heap _ _ _ _ _ _ QZ.out)
  have EZ := hid (end_op hFl hB GZ.out CZ.out #[.int .i64 4, .bool false, .bool false, .bool false, .string ⟨#[]⟩, .string t1, .string ⟨#[]⟩, .string t2, .int .i64 0])
  clear GZ CZ hs2
  go_upto_region 24 with fail
  go_wp2_with (first | (refine wpList_load_at (by rfl) 27 _ (by rfl) ⟨w.heap.size + 1, 0, none⟩ (by rfl) [.int .i64 4, .bool false, .bool false, .bool false, .string ⟨#[]⟩, .string t1, .string ⟨#[]⟩, .string t2, .int .i64 0] _ (cells_at PZ.out) Tryd.underlying27 (by rfl) infoOp ?_) | (refine wpList_store_row (by rfl) 27 _ _ (by rfl) w.heap.size #[.int .i64 4, .bool false, .bool false, .bool false, .string ⟨#[]⟩, .string t1, .string ⟨#[]⟩, .string t2, .int .i64 0] (by rfl) (by rfl) _ _ QZ.out infoOp rfl (one9 _ _ _ _ _ _ _ _ _) ?_) | fail)
  have LZ := hid (run_loadVar_at (P := Tryd.prog) _ ⟨w.heap.size, 0, none⟩ 27 [.int .i64 4, .bool false, .bool false, .bool false, .string ⟨#[]⟩, .string t1, .string ⟨#[]⟩, .string t2, .int .i64 0] _ (cells_at RZ.out) Tryd.underlying27 (by rfl) infoOp)
  refine bodyPost_ret (v := .agg #[.int .i64 4, .bool false, .bool false, .bool false, .string ⟨#[]⟩, .string t1, .string ⟨#[]⟩, .string t2, .int .i64 0]) (by simp [results, Tryd.results26, Act.put, asAddr, LZ.out]) rfl ?_
  obtain ⟨n, n0, n1, hlim⟩ := lim_some (hdF rr.tail.tail)
  have e : opF nPut rr n = ⟨⟨4, false, false, false, [], unT (hdF rr), [], unT (hdF rr.tail), 0⟩, badT (hdF rr) || badT (hdF rr.tail), rr.tail.tail⟩ := by simp [opF]
  refine ⟨n, n0, n1, hlim, ?_, ?_, EZ.out.2⟩
  · rw [e]; rw [← HT1.out]; rw [← HT2.out]; rfl
  · rw [e]
    have h := EZ.out.1
    try simp only [Bool.or_false, Bool.or_assoc] at h ⊢
    exact h

set_option maxHeartbeats 4000000 in
set_option maxRecDepth 100000 in
theorem op_del {w0 w : World} {F B : Nat} {r : List (List Nat)} {bad : Bool} (hv : Vars w0) (h0 : Below w0.heap.size w0 w) (hF : w0.heap.size ≤ F) (hB : B ≤ w.heap.size) (h : Fd w F B r bad) (hr : TxOk r) (hnm : (nameF r).1 = nDel) :
    Calls Tryd.prog 26 #[.pointer (some ⟨F, 0, none⟩)] w (OpP w F B bad (nameF r).1 (nameF r).2) := by
  obtain ⟨w2, hw2⟩ : ∃ w2, w2 = (w.alloc (.cells #[.int .i64 0, .bool false, .bool false, .bool false, .string ⟨#[]⟩, .string ⟨#[]⟩, .string ⟨#[]⟩, .string ⟨#[]⟩, .int .i64 0] 27)).alloc (.cells #[.int .i64 0, .bool false, .bool false, .bool false, .string ⟨#[]⟩, .string ⟨#[]⟩, .string ⟨#[]⟩, .string ⟨#[]⟩, .int .i64 0] 27) := ⟨_, rfl⟩
  have hb2 : Below w.heap.size w w2 := by rw [hw2]; (repeat (first | with_reducible exact Below.refl _ _ | with_reducible assumption | with_reducible refine Below.drew ?_ | with_reducible refine Below.al ?_ _ | with_reducible refine Below.setCell ?_ (by first | exact Nat.le_refl _ | (simp; omega) | (simp; done)) _ | with_reducible refine Below.on ?_ (by assumption)))
  have hFl : F < w.heap.size := by obtain ⟨a, cap, hx⟩ := h; exact hx.lt
  have hs2 : w2.heap.size = w.heap.size + 2 := by rw [hw2]; simp
  have CN := hid (name_is (h.on hb2) hr)
  obtain ⟨n8, ntx⟩ := name_b8 hr
  have hso : w2.heap[w.heap.size + 1]? = some (.cells #[.int .i64 0, .bool false, .bool false, .bool false, .string ⟨#[]⟩, .string ⟨#[]⟩, .string ⟨#[]⟩, .string ⟨#[]⟩, .int .i64 0] 27 (0, 0)) := by
    rw [hw2]
    have := heap_alloc_new (w.alloc (.cells #[.int .i64 0, .bool false, .bool false, .bool false, .string ⟨#[]⟩, .string ⟨#[]⟩, .string ⟨#[]⟩, .string ⟨#[]⟩, .int .i64 0] 27)) (.cells #[.int .i64 0, .bool false, .bool false, .bool false, .string ⟨#[]⟩, .string ⟨#[]⟩, .string ⟨#[]⟩, .string ⟨#[]⟩, .int .i64 0] 27)
    simpa using this
  have hsr : w2.heap[w.heap.size]? = some (.cells #[.int .i64 0, .bool false, .bool false, .bool false, .string ⟨#[]⟩, .string ⟨#[]⟩, .string ⟨#[]⟩, .string ⟨#[]⟩, .int .i64 0] 27 (0, 0)) := by
    rw [hw2, Below.heap_alloc _ _ _ (by simp)]
    exact heap_alloc_new w _

  generalize (nameF r).2 = rr at *
  generalize (nameF r).1 = nm at *
  subst hnm
  have k0 : ((ofNats nDel).toList == [98, 101, 103, 105, 110, 32, 97, 116]) = false := (lit_is n8 (c := bAt) (b8_lit (by decide)) rfl).trans (by decide)
  have k1 : ((ofNats nDel).toList == [98, 101, 103, 105, 110, 32, 114, 111]) = false := (lit_is n8 (c := bRo) (b8_lit (by decide)) rfl).trans (by decide)
  have k2 : ((ofNats nDel).toList == [98, 101, 103, 105, 110, 32, 114, 119]) = false := (lit_is n8 (c := bRw) (b8_lit (by decide)) rfl).trans (by decide)
  have k3 : ((ofNats nDel).toList == [103, 101, 116]) = false := (lit_is n8 (c := nGet) (b8_lit (by decide)) rfl).trans (by decide)
  have k4 : ((ofNats nDel).toList == [114, 115, 99, 97, 110]) = false := (lit_is n8 (c := nRscan) (b8_lit (by decide)) rfl).trans (by decide)
  have k5 : ((ofNats nDel).toList == [115, 99, 97, 110]) = false := (lit_is n8 (c := nScan) (b8_lit (by decide)) rfl).trans (by decide)
  have k6 : ((ofNats nDel).toList == [112, 117, 116]) = false := (lit_is n8 (c := nPut) (b8_lit (by decide)) rfl).trans (by decide)
  have k7 : ((ofNats nDel).toList == [100, 101, 108]) = true := (lit_is n8 (c := nDel) (b8_lit (by decide)) rfl).trans (by decide)
  generalize ofNats nDel = s at *
  have O2 := hid (Onl.of_below (F := fun k => k = F) hb2)
  have HSO := hid hso
  have HSR := hid hsr
  clear hso hsr h
  go_enter Tryd.func26, Tryd.ntmps26
  go_wp2_with fail
  rw [← hw2]
  refine CN.out.mono ?_
  rintro e w1 ⟨rfl, h1, o1⟩
  have H1 := hid h1
  have O1 := hid (O2.out.trans o1)
  have BO1 := hid (keep_blk o1 HSO.out (by omega))
  have BR1 := hid (keep_blk o1 HSR.out (by omega))
  clear h1 o1 CN hw2 HSO HSR
  have G0 : Hid (Fd w1 F B rr _) := hid H1.out
  have C0 : Hid (Chg F w w1) := hid O1.out
  have P0 : Hid (w1.heap[w.heap.size + 1]? = some (.cells #[.int .i64 0, .bool false, .bool false, .bool false, .string ⟨#[]⟩, .string ⟨#[]⟩, .string ⟨#[]⟩, .string ⟨#[]⟩, .int .i64 0] 27 (0, 0))) := hid BO1.out
  have Q0 : Hid (w1.heap[w.heap.size]? = some (.cells #[.int .i64 0, .bool false, .bool false, .bool false, .string ⟨#[]⟩, .string ⟨#[]⟩, .string ⟨#[]⟩, .string ⟨#[]⟩, .int .i64 0] 27 (0, 0))) := hid BR1.out
  go_wp2_with fail
  refine (text_is G0.out ntx).mono ?_
  rintro e w2 ⟨rfl, h2, o2⟩
  generalize hT1 : ofNats (unT (hdF rr)) = t1
  have HT1 := hid hT1
  clear hT1
  have H2 := hid h2
  have O2 := hid (C0.out.trans o2)
  have BO2 := hid (keep_blk o2 P0.out (by omega))
  have BR2 := hid (keep_blk o2 Q0.out (by omega))
  clear h2 o2 G0 C0 P0 Q0
  have f2_0 : w2.frozen? ⟨w.heap.size + 1, 0, none⟩ = false := Lib.frozen_of_heap BO2.out 0
  have c2_0 : w2.cell? ⟨w.heap.size + 1, 0, none⟩ = some (.int .i64 0) := by rw [Lib.cell_of_heap BO2.out]; rfl
  have f2_5 : w2.frozen? ⟨w.heap.size + 1, 5, none⟩ = false := Lib.frozen_of_heap BO2.out 5
  have c2_5 : w2.cell? ⟨w.heap.size + 1, 5, none⟩ = some (.string ⟨#[]⟩) := by rw [Lib.cell_of_heap BO2.out]; rfl
  have Ps1 : Hid ((w2.setCell ⟨w.heap.size + 1, 0, none⟩ (.int .i64 5)).heap[w.heap.size + 1]? = some (.cells #[.int .i64 5, .bool false, .bool false, .bool false, .string ⟨#[]⟩, .string ⟨#[]⟩, .string ⟨#[]⟩, .string ⟨#[]⟩, .int .i64 0] 27 (0, 0))) := hid (heap_setCell_same _ _ 0 _ _ _ BO2.out)
  have Qs1 : Hid ((w2.setCell ⟨w.heap.size + 1, 0, none⟩ (.int .i64 5)).heap[w.heap.size]? = some (.cells #[.int .i64 0, .bool false, .bool false, .bool false, .string ⟨#[]⟩, .string ⟨#[]⟩, .string ⟨#[]⟩, .string ⟨#[]⟩, .int .i64 0] 27 (0, 0))) := hid ((Below.heap_setCell _ _ _ _ (by simp)).trans BR2.out)
  have Ps2 : Hid (((w2.setCell ⟨w.heap.size + 1, 0, none⟩ (.int .i64 5)).setCell ⟨w.heap.size + 1, 5, none⟩ (.string t1)).heap[w.heap.size + 1]? = some (.cells #[.int .i64 5, .bool false, .bool false, .bool false, .string ⟨#[]⟩, .string t1, .string ⟨#[]⟩, .string ⟨#[]⟩, .int .i64 0] 27 (0, 0))) := hid (heap_setCell_same _ _ 5 _ _ _ Ps1.out)
  have Qs2 : Hid (((w2.setCell ⟨w.heap.size + 1, 0, none⟩ (.int .i64 5)).setCell ⟨w.heap.size + 1, 5, none⟩ (.string t1)).heap[w.heap.size]? = some (.cells #[.int .i64 0, .bool false, .bool false, .bool false, .string ⟨#[]⟩, .string ⟨#[]⟩, .string ⟨#[]⟩, .string ⟨#[]⟩, .int .i64 0] 27 (0, 0))) := hid ((Below.heap_setCell _ _ _ _ (by simp)).trans Qs1.out)
  have GZ : Hid (Fd ((w2.setCell ⟨w.heap.size + 1, 0, none⟩ (.int .i64 5)).setCell ⟨w.heap.size + 1, 5, none⟩ (.string t1)) F B rr.tail _) := hid ((H2.out.off (q := w.heap.size + 1) (by omega) (by omega) 0 (.int .i64 5)).off (q := w.heap.size + 1) (by omega) (by omega) 5 (.string t1))
  have CZ : Hid (Chg F w ((w2.setCell ⟨w.heap.size + 1, 0, none⟩ (.int .i64 5)).setCell ⟨w.heap.size + 1, 5, none⟩ (.string t1))) := hid ((O2.out.setNew (q := w.heap.size + 1) (by omega) 0 (.int .i64 5)).setNew (q := w.heap.size + 1) (by omega) 5 (.string t1))
  have PZ : Hid (((w2.setCell ⟨w.heap.size + 1, 0, none⟩ (.int .i64 5)).setCell ⟨w.heap.size + 1, 5, none⟩ (.string t1)).heap[w.heap.size + 1]? = some (.cells #[.int .i64 5, .bool false, .bool false, .bool false, .string ⟨#[]⟩, .string t1, .string ⟨#[]⟩, .string ⟨#[]⟩, .int .i64 0] 27 (0, 0))) := hid Ps2.out
  have QZ : Hid (((w2.setCell ⟨w.heap.size + 1, 0, none⟩ (.int .i64 5)).setCell ⟨w.heap.size + 1, 5, none⟩ (.string t1)).heap[w.heap.size]? = some (.cells #[.int .i64 0, .bool false, .bool false, .bool false, .string ⟨#[]⟩, .string ⟨#[]⟩, .string ⟨#[]⟩, .string ⟨#[]⟩, .int .i64 0] 27 (0, 0))) := hid Qs2.out
  have RZ : Hid ((((w2.setCell ⟨w.heap.size + 1, 0, none⟩ (.int .i64 5)).setCell ⟨w.heap.size + 1, 5, none⟩ (.string t1)).setRow w.heap.size #[.int .i64 5, .bool false, .bool false, .bool false, .string ⟨#[]⟩, .string t1, .string ⟨#[]⟩, .string ⟨#[]⟩, .int .i64 0]).heap[w.heap.size]? = some (.cells #[.int .i64 5, .bool false, .bool false, .bool false, .string ⟨#[]⟩, .string t1, .string ⟨#[]⟩, .string ⟨#[]⟩, .int .i64 0] 27 (0, 0))) := hid (setRow_heap _ _ _ _ _ _ QZ.out)
  have EZ := hid (end_op hFl hB GZ.out CZ.out #[.int .i64 5, .bool false, .bool false, .bool false, .string ⟨#[]⟩, .string t1, .string ⟨#[]⟩, .string ⟨#[]⟩, .int .i64 0])
  clear GZ CZ hs2
  go_upto_region 24 with fail
  go_wp2_with (first | (refine wpList_load_at (by rfl) 27 _ (by rfl) ⟨w.heap.size + 1, 0, none⟩ (by rfl) [.int .i64 5, .bool false, .bool false, .bool false, .string ⟨#[]⟩, .string t1, .string ⟨#[]⟩, .string ⟨#[]⟩, .int .i64 0] _ (cells_at PZ.out) Tryd.underlying27 (by rfl) infoOp ?_) | (refine wpList_store_row (by rfl) 27 _ _ (by rfl) w.heap.size #[.int .i64 5, .bool false, .bool false, .bool false, .string ⟨#[]⟩, .string t1, .string ⟨#[]⟩, .string ⟨#[]⟩, .int .i64 0] (by rfl) (by rfl) _ _ QZ.out infoOp rfl (one9 _ _ _ _ _ _ _ _ _) ?_) | fail)
  have LZ := hid (run_loadVar_at (P := Tryd.prog) _ ⟨w.heap.size, 0, none⟩ 27 [.int .i64 5, .bool false, .bool false, .bool false, .string ⟨#[]⟩, .string t1, .string ⟨#[]⟩, .string ⟨#[]⟩, .int .i64 0] _ (cells_at RZ.out) Tryd.underlying27 (by rfl) infoOp)
  refine bodyPost_ret (v := .agg #[.int .i64 5, .bool false, .bool false, .bool false, .string ⟨#[]⟩, .string t1, .string ⟨#[]⟩, .string ⟨#[]⟩, .int .i64 0]) (by simp [results, Tryd.results26, Act.put, asAddr, LZ.out]) rfl ?_
  obtain ⟨n, n0, n1, hlim⟩ := lim_some (hdF rr.tail.tail)
  have e : opF nDel rr n = ⟨⟨5, false, false, false, [], unT (hdF rr), [], [], 0⟩, badT (hdF rr), rr.tail⟩ := by simp [opF]
  refine ⟨n, n0, n1, hlim, ?_, ?_, EZ.out.2⟩
  · rw [e]; rw [← HT1.out]; rfl
  · rw [e]
    have h := EZ.out.1
    try simp only [Bool.or_false, Bool.or_assoc] at h ⊢
    exact h

set_option maxHeartbeats 4000000 in
set_option maxRecDepth 100000 in
theorem op_commit {w0 w : World} {F B : Nat} {r : List (List Nat)} {bad : Bool} (hv : Vars w0) (h0 : Below w0.heap.size w0 w) (hF : w0.heap.size ≤ F) (hB : B ≤ w.heap.size) (h : Fd w F B r bad) (hr : TxOk r) (hnm : (nameF r).1 = nCommit) :
    Calls Tryd.prog 26 #[.pointer (some ⟨F, 0, none⟩)] w (OpP w F B bad (nameF r).1 (nameF r).2) := by
  obtain ⟨w2, hw2⟩ : ∃ w2, w2 = (w.alloc (.cells #[.int .i64 0, .bool false, .bool false, .bool false, .string ⟨#[]⟩, .string ⟨#[]⟩, .string ⟨#[]⟩, .string ⟨#[]⟩, .int .i64 0] 27)).alloc (.cells #[.int .i64 0, .bool false, .bool false, .bool false, .string ⟨#[]⟩, .string ⟨#[]⟩, .string ⟨#[]⟩, .string ⟨#[]⟩, .int .i64 0] 27) := ⟨_, rfl⟩
  have hb2 : Below w.heap.size w w2 := by rw [hw2]; (repeat (first | with_reducible exact Below.refl _ _ | with_reducible assumption | with_reducible refine Below.drew ?_ | with_reducible refine Below.al ?_ _ | with_reducible refine Below.setCell ?_ (by first | exact Nat.le_refl _ | (simp; omega) | (simp; done)) _ | with_reducible refine Below.on ?_ (by assumption)))
  have hFl : F < w.heap.size := by obtain ⟨a, cap, hx⟩ := h; exact hx.lt
  have hs2 : w2.heap.size = w.heap.size + 2 := by rw [hw2]; simp
  have CN := hid (name_is (h.on hb2) hr)
  obtain ⟨n8, ntx⟩ := name_b8 hr
  have hso : w2.heap[w.heap.size + 1]? = some (.cells #[.int .i64 0, .bool false, .bool false, .bool false, .string ⟨#[]⟩, .string ⟨#[]⟩, .string ⟨#[]⟩, .string ⟨#[]⟩, .int .i64 0] 27 (0, 0)) := by
    rw [hw2]
    have := heap_alloc_new (w.alloc (.cells #[.int .i64 0, .bool false, .bool false, .bool false, .string ⟨#[]⟩, .string ⟨#[]⟩, .string ⟨#[]⟩, .string ⟨#[]⟩, .int .i64 0] 27)) (.cells #[.int .i64 0, .bool false, .bool false, .bool false, .string ⟨#[]⟩, .string ⟨#[]⟩, .string ⟨#[]⟩, .string ⟨#[]⟩, .int .i64 0] 27)
    simpa using this
  have hsr : w2.heap[w.heap.size]? = some (.cells #[.int .i64 0, .bool false, .bool false, .bool false, .string ⟨#[]⟩, .string ⟨#[]⟩, .string ⟨#[]⟩, .string ⟨#[]⟩, .int .i64 0] 27 (0, 0)) := by
    rw [hw2, Below.heap_alloc _ _ _ (by simp)]
    exact heap_alloc_new w _

  generalize (nameF r).2 = rr at *
  generalize (nameF r).1 = nm at *
  subst hnm
  have k0 : ((ofNats nCommit).toList == [98, 101, 103, 105, 110, 32, 97, 116]) = false := (lit_is n8 (c := bAt) (b8_lit (by decide)) rfl).trans (by decide)
  have k1 : ((ofNats nCommit).toList == [98, 101, 103, 105, 110, 32, 114, 111]) = false := (lit_is n8 (c := bRo) (b8_lit (by decide)) rfl).trans (by decide)
  have k2 : ((ofNats nCommit).toList == [98, 101, 103, 105, 110, 32, 114, 119]) = false := (lit_is n8 (c := bRw) (b8_lit (by decide)) rfl).trans (by decide)
  have k3 : ((ofNats nCommit).toList == [103, 101, 116]) = false := (lit_is n8 (c := nGet) (b8_lit (by decide)) rfl).trans (by decide)
  have k4 : ((ofNats nCommit).toList == [114, 115, 99, 97, 110]) = false := (lit_is n8 (c := nRscan) (b8_lit (by decide)) rfl).trans (by decide)
  have k5 : ((ofNats nCommit).toList == [115, 99, 97, 110]) = false := (lit_is n8 (c := nScan) (b8_lit (by decide)) rfl).trans (by decide)
  have k6 : ((ofNats nCommit).toList == [112, 117, 116]) = false := (lit_is n8 (c := nPut) (b8_lit (by decide)) rfl).trans (by decide)
  have k7 : ((ofNats nCommit).toList == [100, 101, 108]) = false := (lit_is n8 (c := nDel) (b8_lit (by decide)) rfl).trans (by decide)
  have k8 : ((ofNats nCommit).toList == [99, 111, 109, 109, 105, 116]) = true := (lit_is n8 (c := nCommit) (b8_lit (by decide)) rfl).trans (by decide)
  generalize ofNats nCommit = s at *
  have O2 := hid (Onl.of_below (F := fun k => k = F) hb2)
  have HSO := hid hso
  have HSR := hid hsr
  clear hso hsr h
  go_enter Tryd.func26, Tryd.ntmps26
  go_wp2_with fail
  rw [← hw2]
  refine CN.out.mono ?_
  rintro e w1 ⟨rfl, h1, o1⟩
  have H1 := hid h1
  have O1 := hid (O2.out.trans o1)
  have BO1 := hid (keep_blk o1 HSO.out (by omega))
  have BR1 := hid (keep_blk o1 HSR.out (by omega))
  clear h1 o1 CN hw2 HSO HSR
  have f1_0 : w1.frozen? ⟨w.heap.size + 1, 0, none⟩ = false := Lib.frozen_of_heap BO1.out 0
  have c1_0 : w1.cell? ⟨w.heap.size + 1, 0, none⟩ = some (.int .i64 0) := by rw [Lib.cell_of_heap BO1.out]; rfl
  have Ps0 : Hid ((w1.setCell ⟨w.heap.size + 1, 0, none⟩ (.int .i64 6)).heap[w.heap.size + 1]? = some (.cells #[.int .i64 6, .bool false, .bool false, .bool false, .string ⟨#[]⟩, .string ⟨#[]⟩, .string ⟨#[]⟩, .string ⟨#[]⟩, .int .i64 0] 27 (0, 0))) := hid (heap_setCell_same _ _ 0 _ _ _ BO1.out)
  have Qs0 : Hid ((w1.setCell ⟨w.heap.size + 1, 0, none⟩ (.int .i64 6)).heap[w.heap.size]? = some (.cells #[.int .i64 0, .bool false, .bool false, .bool false, .string ⟨#[]⟩, .string ⟨#[]⟩, .string ⟨#[]⟩, .string ⟨#[]⟩, .int .i64 0] 27 (0, 0))) := hid ((Below.heap_setCell _ _ _ _ (by simp)).trans BR1.out)
  have GZ : Hid (Fd (w1.setCell ⟨w.heap.size + 1, 0, none⟩ (.int .i64 6)) F B rr _) := hid (H1.out.off (q := w.heap.size + 1) (by omega) (by omega) 0 (.int .i64 6))
  have CZ : Hid (Chg F w (w1.setCell ⟨w.heap.size + 1, 0, none⟩ (.int .i64 6))) := hid (O1.out.setNew (q := w.heap.size + 1) (by omega) 0 (.int .i64 6))
  have PZ : Hid ((w1.setCell ⟨w.heap.size + 1, 0, none⟩ (.int .i64 6)).heap[w.heap.size + 1]? = some (.cells #[.int .i64 6, .bool false, .bool false, .bool false, .string ⟨#[]⟩, .string ⟨#[]⟩, .string ⟨#[]⟩, .string ⟨#[]⟩, .int .i64 0] 27 (0, 0))) := hid Ps0.out
  have QZ : Hid ((w1.setCell ⟨w.heap.size + 1, 0, none⟩ (.int .i64 6)).heap[w.heap.size]? = some (.cells #[.int .i64 0, .bool false, .bool false, .bool false, .string ⟨#[]⟩, .string ⟨#[]⟩, .string ⟨#[]⟩, .string ⟨#[]⟩, .int .i64 0] 27 (0, 0))) := hid Qs0.out
  have RZ : Hid (((w1.setCell ⟨w.heap.size + 1, 0, none⟩ (.int .i64 6)).setRow w.heap.size #[.int .i64 6, .bool false, .bool false, .bool false, .string ⟨#[]⟩, .string ⟨#[]⟩, .string ⟨#[]⟩, .string ⟨#[]⟩, .int .i64 0]).heap[w.heap.size]? = some (.cells #[.int .i64 6, .bool false, .bool false, .bool false, .string ⟨#[]⟩, .string ⟨#[]⟩, .string ⟨#[]⟩, .string ⟨#[]⟩, .int .i64 0] 27 (0, 0))) := hid (setRow_heap _ _ _ _ _ _ QZ.out)
  have EZ := hid (end_op hFl hB GZ.out CZ.out #[.int .i64 6, .bool false, .bool false, .bool false, .string ⟨#[]⟩, .string ⟨#[]⟩, .string ⟨#[]⟩, .string ⟨#[]⟩, .int .i64 0])
  clear GZ CZ hs2
  go_upto_region 24 with fail
  go_wp2_with (first | (refine wpList_load_at (by rfl) 27 _ (by rfl) ⟨w.heap.size + 1, 0, none⟩ (by rfl) [.int .i64 6, .bool false, .bool false, .bool false, .string ⟨#[]⟩, .string ⟨#[]⟩, .string ⟨#[]⟩, .string ⟨#[]⟩, .int .i64 0] _ (cells_at PZ.out) Tryd.underlying27 (by rfl) infoOp ?_) | (refine wpList_store_row (by rfl) 27 _ _ (by rfl) w.heap.size #[.int .i64 6, .bool false, .bool false, .bool false, .string ⟨#[]⟩, .string ⟨#[]⟩, .string ⟨#[]⟩, .string ⟨#[]⟩, .int .i64 0] (by rfl) (by rfl) _ _ QZ.out infoOp rfl (one9 _ _ _ _ _ _ _ _ _) ?_) | fail)
  have LZ := hid (run_loadVar_at (P := Tryd.prog) _ ⟨w.heap.size, 0, none⟩ 27 [.int .i64 6, .bool false, .bool false, .bool false, .string ⟨#[]⟩, .string ⟨#[]⟩, .string ⟨#[]⟩, .string ⟨#[]⟩, .int .i64 0] _ (cells_at RZ.out) Tryd.underlying27 (by rfl) infoOp)
  refine bodyPost_ret (v := .agg #[.int .i64 6, .bool false, .bool false, .bool false, .string ⟨#[]⟩, .string ⟨#[]⟩, .string ⟨#[]⟩, .string ⟨#[]⟩, .int .i64 0]) (by simp [results, Tryd.results26, Act.put, asAddr, LZ.out]) rfl ?_
  obtain ⟨n, n0, n1, hlim⟩ := lim_some (hdF rr.tail.tail)
  have e : opF nCommit rr n = ⟨⟨6, false, false, false, [], [], [], [], 0⟩, false, rr⟩ := by simp [opF]
  refine ⟨n, n0, n1, hlim, ?_, ?_, EZ.out.2⟩
  · rw [e]; rfl
  · rw [e]
    have h := EZ.out.1
    try simp only [Bool.or_false, Bool.or_assoc] at h ⊢
    exact h

set_option maxHeartbeats 4000000 in
set_option maxRecDepth 100000 in
theorem op_abort {w0 w : World} {F B : Nat} {r : List (List Nat)} {bad : Bool} (hv : Vars w0) (h0 : Below w0.heap.size w0 w) (hF : w0.heap.size ≤ F) (hB : B ≤ w.heap.size) (h : Fd w F B r bad) (hr : TxOk r) (hnm : (nameF r).1 = nAbort) :
    Calls Tryd.prog 26 #[.pointer (some ⟨F, 0, none⟩)] w (OpP w F B bad (nameF r).1 (nameF r).2) := by
  obtain ⟨w2, hw2⟩ : ∃ w2, w2 = (w.alloc (.cells #[.int .i64 0, .bool false, .bool false, .bool false, .string ⟨#[]⟩, .string ⟨#[]⟩, .string ⟨#[]⟩, .string ⟨#[]⟩, .int .i64 0] 27)).alloc (.cells #[.int .i64 0, .bool false, .bool false, .bool false, .string ⟨#[]⟩, .string ⟨#[]⟩, .string ⟨#[]⟩, .string ⟨#[]⟩, .int .i64 0] 27) := ⟨_, rfl⟩
  have hb2 : Below w.heap.size w w2 := by rw [hw2]; (repeat (first | with_reducible exact Below.refl _ _ | with_reducible assumption | with_reducible refine Below.drew ?_ | with_reducible refine Below.al ?_ _ | with_reducible refine Below.setCell ?_ (by first | exact Nat.le_refl _ | (simp; omega) | (simp; done)) _ | with_reducible refine Below.on ?_ (by assumption)))
  have hFl : F < w.heap.size := by obtain ⟨a, cap, hx⟩ := h; exact hx.lt
  have hs2 : w2.heap.size = w.heap.size + 2 := by rw [hw2]; simp
  have CN := hid (name_is (h.on hb2) hr)
  obtain ⟨n8, ntx⟩ := name_b8 hr
  have hso : w2.heap[w.heap.size + 1]? = some (.cells #[.int .i64 0, .bool false, .bool false, .bool false, .string ⟨#[]⟩, .string ⟨#[]⟩, .string ⟨#[]⟩, .string ⟨#[]⟩, .int .i64 0] 27 (0, 0)) := by
    rw [hw2]
    have := heap_alloc_new (w.alloc (.cells #[.int .i64 0, .bool false, .bool false, .bool false, .string ⟨#[]⟩, .string ⟨#[]⟩, .string ⟨#[]⟩, .string ⟨#[]⟩, .int .i64 0] 27)) (.cells #[.int .i64 0, .bool false, .bool false, .bool false, .string ⟨#[]⟩, .string ⟨#[]⟩, .string ⟨#[]⟩, .string ⟨#[]⟩, .int .i64 0] 27)
    simpa using this
  have hsr : w2.heap[w.heap.size]? = some (.cells #[.int .i64 0, .bool false, .bool false, .bool false, .string ⟨#[]⟩, .string ⟨#[]⟩, .string ⟨#[]⟩, .string ⟨#[]⟩, .int .i64 0] 27 (0, 0)) := by
    rw [hw2, Below.heap_alloc _ _ _ (by simp)]
    exact heap_alloc_new w _

  generalize (nameF r).2 = rr at *
  generalize (nameF r).1 = nm at *
  subst hnm
  have k0 : ((ofNats nAbort).toList == [98, 101, 103, 105, 110, 32, 97, 116]) = false := (lit_is n8 (c := bAt) (b8_lit (by decide)) rfl).trans (by decide)
  have k1 : ((ofNats nAbort).toList == [98, 101, 103, 105, 110, 32, 114, 111]) = false := (lit_is n8 (c := bRo) (b8_lit (by decide)) rfl).trans (by decide)
  have k2 : ((ofNats nAbort).toList == [98, 101, 103, 105, 110, 32, 114, 119]) = false := (lit_is n8 (c := bRw) (b8_lit (by decide)) rfl).trans (by decide)
  have k3 : ((ofNats nAbort).toList == [103, 101, 116]) = false := (lit_is n8 (c := nGet) (b8_lit (by decide)) rfl).trans (by decide)
  have k4 : ((ofNats nAbort).toList == [114, 115, 99, 97, 110]) = false := (lit_is n8 (c := nRscan) (b8_lit (by decide)) rfl).trans (by decide)
  have k5 : ((ofNats nAbort).toList == [115, 99, 97, 110]) = false := (lit_is n8 (c := nScan) (b8_lit (by decide)) rfl).trans (by decide)
  have k6 : ((ofNats nAbort).toList == [112, 117, 116]) = false := (lit_is n8 (c := nPut) (b8_lit (by decide)) rfl).trans (by decide)
  have k7 : ((ofNats nAbort).toList == [100, 101, 108]) = false := (lit_is n8 (c := nDel) (b8_lit (by decide)) rfl).trans (by decide)
  have k8 : ((ofNats nAbort).toList == [99, 111, 109, 109, 105, 116]) = false := (lit_is n8 (c := nCommit) (b8_lit (by decide)) rfl).trans (by decide)
  have k9 : ((ofNats nAbort).toList == [97, 98, 111, 114, 116]) = true := (lit_is n8 (c := nAbort) (b8_lit (by decide)) rfl).trans (by decide)
  generalize ofNats nAbort = s at *
  have O2 := hid (Onl.of_below (F := fun k => k = F) hb2)
  have HSO := hid hso
  have HSR := hid hsr
  clear hso hsr h
  go_enter Tryd.func26, Tryd.ntmps26
  go_wp2_with fail
  rw [← hw2]
  refine CN.out.mono ?_
  rintro e w1 ⟨rfl, h1, o1⟩
  have H1 := hid h1
  have O1 := hid (O2.out.trans o1)
  have BO1 := hid (keep_blk o1 HSO.out (by omega))
  have BR1 := hid (keep_blk o1 HSR.out (by omega))
  clear h1 o1 CN hw2 HSO HSR
  have f1_0 : w1.frozen? ⟨w.heap.size + 1, 0, none⟩ = false := Lib.frozen_of_heap BO1.out 0
  have c1_0 : w1.cell? ⟨w.heap.size + 1, 0, none⟩ = some (.int .i64 0) := by rw [Lib.cell_of_heap BO1.out]; rfl
  have Ps0 : Hid ((w1.setCell ⟨w.heap.size + 1, 0, none⟩ (.int .i64 7)).heap[w.heap.size + 1]? = some (.cells #[.int .i64 7, .bool false, .bool false, .bool false, .string ⟨#[]⟩, .string ⟨#[]⟩, .string ⟨#[]⟩, .string ⟨#[]⟩, .int .i64 0] 27 (0, 0))) := hid (heap_setCell_same _ _ 0 _ _ _ BO1.out)
  have Qs0 : Hid ((w1.setCell ⟨w.heap.size + 1, 0, none⟩ (.int .i64 7)).heap[w.heap.size]? = some (.cells #[.int .i64 0, .bool false, .bool false, .bool false, .string ⟨#[]⟩, .string ⟨#[]⟩, .string ⟨#[]⟩, .string ⟨#[]⟩, .int .i64 0] 27 (0, 0))) := hid ((Below.heap_setCell _ _ _ _ (by simp)).trans BR1.out)
  have GZ : Hid (Fd (w1.setCell ⟨w.heap.size + 1, 0, none⟩ (.int .i64 7)) F B rr _) := hid (H1.out.off (q := w.heap.size + 1) (by omega) (by omega) 0 (.int .i64 7))
  have CZ : Hid (Chg F w (w1.setCell ⟨w.heap.size + 1, 0, none⟩ (.int .i64 7))) := hid (O1.out.setNew (q := w.heap.size + 1) (by omega) 0 (.int .i64 7))
  have PZ : Hid ((w1.setCell ⟨w.heap.size + 1, 0, none⟩ (.int .i64 7)).heap[w.heap.size + 1]? = some (.cells #[.int .i64 7, .bool false, .bool false, .bool false, .string ⟨#[]⟩, .string ⟨#[]⟩, .string ⟨#[]⟩, .string ⟨#[]⟩, .int .i64 0] 27 (0, 0))) := hid Ps0.out
  have QZ : Hid ((w1.setCell ⟨w.heap.size + 1, 0, none⟩ (.int .i64 7)).heap[w.heap.size]? = some (.cells #[.int .i64 0, .bool false, .bool false, .bool false, .string ⟨#[]⟩, .string ⟨#[]⟩, .string ⟨#[]⟩, .string ⟨#[]⟩, .int .i64 0] 27 (0, 0))) := hid Qs0.out
  have RZ : Hid (((w1.setCell ⟨w.heap.size + 1, 0, none⟩ (.int .i64 7)).setRow w.heap.size #[.int .i64 7, .bool false, .bool false, .bool false, .string ⟨#[]⟩, .string ⟨#[]⟩, .string ⟨#[]⟩, .string ⟨#[]⟩, .int .i64 0]).heap[w.heap.size]? = some (.cells #[.int .i64 7, .bool false, .bool false, .bool false, .string ⟨#[]⟩, .string ⟨#[]⟩, .string ⟨#[]⟩, .string ⟨#[]⟩, .int .i64 0] 27 (0, 0))) := hid (setRow_heap _ _ _ _ _ _ QZ.out)
  have EZ := hid (end_op hFl hB GZ.out CZ.out #[.int .i64 7, .bool false, .bool false, .bool false, .string ⟨#[]⟩, .string ⟨#[]⟩, .string ⟨#[]⟩, .string ⟨#[]⟩, .int .i64 0])
  clear GZ CZ hs2
  go_upto_region 24 with fail
  go_wp2_with (first | (refine wpList_load_at (by rfl) 27 _ (by rfl) ⟨w.heap.size + 1, 0, none⟩ (by rfl) [.int .i64 7, .bool false, .bool false, .bool false, .string ⟨#[]⟩, .string ⟨#[]⟩, .string ⟨#[]⟩, .string ⟨#[]⟩, .int .i64 0] _ (cells_at PZ.out) Tryd.underlying27 (by rfl) infoOp ?_) | (refine wpList_store_row (by rfl) 27 _ _ (by rfl) w.heap.size #[.int .i64 7, .bool false, .bool false, .bool false, .string ⟨#[]⟩, .string ⟨#[]⟩, .string ⟨#[]⟩, .string ⟨#[]⟩, .int .i64 0] (by rfl) (by rfl) _ _ QZ.out infoOp rfl (one9 _ _ _ _ _ _ _ _ _) ?_) | fail)
  have LZ := hid (run_loadVar_at (P := Tryd.prog) _ ⟨w.heap.size, 0, none⟩ 27 [.int .i64 7, .bool false, .bool false, .bool false, .string ⟨#[]⟩, .string ⟨#[]⟩, .string ⟨#[]⟩, .string ⟨#[]⟩, .int .i64 0] _ (cells_at RZ.out) Tryd.underlying27 (by rfl) infoOp)
  refine bodyPost_ret (v := .agg #[.int .i64 7, .bool false, .bool false, .bool false, .string ⟨#[]⟩, .string ⟨#[]⟩, .string ⟨#[]⟩, .string ⟨#[]⟩, .int .i64 0]) (by simp [results, Tryd.results26, Act.put, asAddr, LZ.out]) rfl ?_
  obtain ⟨n, n0, n1, hlim⟩ := lim_some (hdF rr.tail.tail)
  have e : opF nAbort rr n = ⟨⟨7, false, false, false, [], [], [], [], 0⟩, false, rr⟩ := by simp [opF]
  refine ⟨n, n0, n1, hlim, ?_, ?_, EZ.out.2⟩
  · rw [e]; rfl
  · rw [e]
    have h := EZ.out.1
    try simp only [Bool.or_false, Bool.or_assoc] at h ⊢
    exact h
end Go.Proofs.YtggmhodogfngdaaDoor.Gt
