import Derived.Test.YtggmhodogfngdaaDoorGtDl
import Derived.BigQuiet
/- The document's bare and Request (written by mk_gtdr.py). -/
namespace Go.Proofs.YtggmhodogfngdaaDoor.Gt
open Go.Proofs.YtggmhodogfngdaaDoor Go.Proofs.YtggmhodogfngdaaDoor.Rt Go.RowKit Go.Sort
set_option linter.unusedVariables false
set_option linter.unusedSimpArgs false

theorem bare_ok {o : Og} {N : Nat} (hk : o.Ok N) : (bareO o).Ok N := by
  obtain ⟨h1, h2, h3, h4, h5, h6, h7, h8, h9⟩ := hk
  unfold bareO
  repeat' split
  all_goals exact ⟨by first | exact h1 | exact b8_nil, by first | exact h2 | exact b8_nil, by first | exact h3 | exact b8_nil, by first | exact h4 | exact b8_nil, by first | (simp; done) | (simp; omega), by first | exact h6 | (show (-9223372036854775808 : Int) ≤ 0; omega), by first | exact h7 | (show (0 : Int) ≤ 9223372036854775807; omega), h8, h9⟩


set_option maxHeartbeats 2000000 in
set_option maxRecDepth 100000 in
theorem bare_begin {o : Og} (h1 : o.kd = 1) (w : World) :
    Calls Tryd.prog 24 #[.agg o.cells.toArray] w fun r w' => r = .returned (.agg (bareO o).cells.toArray) ∧ Below w.heap.size w w' := by
  obtain ⟨kd, ro, asof, back, tok, key, hi, val, lim⟩ := o
  simp only at h1
  subst h1
  have HE : Hid (bareO ⟨1, ro, asof, back, tok, key, hi, val, lim⟩ = ⟨1, ro, asof, false, tok, [], [], [], 0⟩) := hid (by unfold bareO; simp)
  rw [HE.out]
  simp only [Og.cells]
  have hn : ofNats [] = ⟨#[]⟩ := rfl
  rw [hn]
  clear hn HE
  generalize ofNats tok = tokB at *
  generalize ofNats key = keyB at *
  generalize ofNats hi = hiB at *
  generalize ofNats val = valB at *
  obtain ⟨wb, hwb⟩ : ∃ wb, wb = (w.alloc (.cells #[.int .i64 1, .bool ro, .bool asof, .bool back, .string tokB, .string keyB, .string hiB, .string valB, .int .i64 lim] 27)).alloc (.cells #[.int .i64 0, .bool false, .bool false, .bool false, .string ⟨#[]⟩, .string ⟨#[]⟩, .string ⟨#[]⟩, .string ⟨#[]⟩, .int .i64 0] 27) := ⟨_, rfl⟩
  have hB : Below w.heap.size w wb := by rw [hwb]; (repeat (first | with_reducible exact Below.refl _ _ | with_reducible assumption | with_reducible refine Below.drew ?_ | with_reducible refine Below.al ?_ _ | with_reducible refine Below.setCell ?_ (by first | exact Nat.le_refl _ | (simp; omega) | (simp; done)) _ | with_reducible refine Below.on ?_ (by assumption)))
  have hx : wb.heap[w.heap.size]? = some (.cells #[.int .i64 1, .bool ro, .bool asof, .bool back, .string tokB, .string keyB, .string hiB, .string valB, .int .i64 lim] 27 (0, 0)) := by rw [hwb, Below.heap_alloc _ _ _ (by simp)]; exact heap_alloc_new w _
  have QZ : Hid (wb.heap[w.heap.size + 1]? = some (.cells #[.int .i64 0, .bool false, .bool false, .bool false, .string ⟨#[]⟩, .string ⟨#[]⟩, .string ⟨#[]⟩, .string ⟨#[]⟩, .int .i64 0] 27 (0, 0))) := hid (by
    rw [hwb]
    have := heap_alloc_new (w.alloc (.cells #[.int .i64 1, .bool ro, .bool asof, .bool back, .string tokB, .string keyB, .string hiB, .string valB, .int .i64 lim] 27)) (.cells #[.int .i64 0, .bool false, .bool false, .bool false, .string ⟨#[]⟩, .string ⟨#[]⟩, .string ⟨#[]⟩, .string ⟨#[]⟩, .int .i64 0] 27)
    simpa using this)
  have q0 : wb.cell? ⟨w.heap.size, 0, none⟩ = some (.int .i64 1) := by rw [Lib.cell_of_heap hx]; rfl
  have q1 : wb.cell? ⟨w.heap.size, 1, none⟩ = some (.bool ro) := by rw [Lib.cell_of_heap hx]; rfl
  have q2 : wb.cell? ⟨w.heap.size, 2, none⟩ = some (.bool asof) := by rw [Lib.cell_of_heap hx]; rfl
  have q3 : wb.cell? ⟨w.heap.size, 3, none⟩ = some (.bool back) := by rw [Lib.cell_of_heap hx]; rfl
  have q4 : wb.cell? ⟨w.heap.size, 4, none⟩ = some (.string tokB) := by rw [Lib.cell_of_heap hx]; rfl
  have q5 : wb.cell? ⟨w.heap.size, 5, none⟩ = some (.string keyB) := by rw [Lib.cell_of_heap hx]; rfl
  have q6 : wb.cell? ⟨w.heap.size, 6, none⟩ = some (.string hiB) := by rw [Lib.cell_of_heap hx]; rfl
  have q7 : wb.cell? ⟨w.heap.size, 7, none⟩ = some (.string valB) := by rw [Lib.cell_of_heap hx]; rfl
  have q8 : wb.cell? ⟨w.heap.size, 8, none⟩ = some (.int .i64 lim) := by rw [Lib.cell_of_heap hx]; rfl
  have RZ : Hid ((wb.setRow (w.heap.size + 1) #[.int .i64 1, .bool ro, .bool asof, .bool false, .string tokB, .string ⟨#[]⟩, .string ⟨#[]⟩, .string ⟨#[]⟩, .int .i64 0]).heap[w.heap.size + 1]? = some (.cells #[.int .i64 1, .bool ro, .bool asof, .bool false, .string tokB, .string ⟨#[]⟩, .string ⟨#[]⟩, .string ⟨#[]⟩, .int .i64 0] 27 (0, 0))) := hid (setRow_heap _ _ _ _ _ _ QZ.out)
  have HB := hid (below_row hB (g := w.heap.size + 1) (by omega) #[.int .i64 1, .bool ro, .bool asof, .bool false, .string tokB, .string ⟨#[]⟩, .string ⟨#[]⟩, .string ⟨#[]⟩, .int .i64 0])
  clear hB hx
  go_enter Tryd.func24, Tryd.ntmps24
  go_upto_region 1 with fail
  rw [← hwb]
  clear hwb
  go_wp2_with (first | (refine wpList_store_row (by rfl) 27 _ _ (by rfl) (w.heap.size + 1) #[.int .i64 1, .bool ro, .bool asof, .bool false, .string tokB, .string ⟨#[]⟩, .string ⟨#[]⟩, .string ⟨#[]⟩, .int .i64 0] (by rfl) (by rfl) _ _ QZ.out infoOp rfl (one9 _ _ _ _ _ _ _ _ _) ?_) | fail)
  have LZ := hid (run_loadVar_at (P := Tryd.prog) _ ⟨w.heap.size + 1, 0, none⟩ 27 [.int .i64 1, .bool ro, .bool asof, .bool false, .string tokB, .string ⟨#[]⟩, .string ⟨#[]⟩, .string ⟨#[]⟩, .int .i64 0] _ (cells_at RZ.out) Tryd.underlying27 (by rfl) infoOp)
  refine bodyPost_ret (v := .agg #[.int .i64 1, .bool ro, .bool asof, .bool false, .string tokB, .string ⟨#[]⟩, .string ⟨#[]⟩, .string ⟨#[]⟩, .int .i64 0]) (by simp [results, Tryd.results24, Act.put, asAddr, LZ.out]) rfl ?_
  exact ⟨rfl, HB.out⟩


set_option maxHeartbeats 2000000 in
set_option maxRecDepth 100000 in
theorem bare_get {o : Og} (h1 : o.kd = 2) (w : World) :
    Calls Tryd.prog 24 #[.agg o.cells.toArray] w fun r w' => r = .returned (.agg (bareO o).cells.toArray) ∧ Below w.heap.size w w' := by
  obtain ⟨kd, ro, asof, back, tok, key, hi, val, lim⟩ := o
  simp only at h1
  subst h1
  have HE : Hid (bareO ⟨2, ro, asof, back, tok, key, hi, val, lim⟩ = ⟨2, false, false, false, [], key, [], [], 0⟩) := hid (by unfold bareO; simp)
  rw [HE.out]
  simp only [Og.cells]
  have hn : ofNats [] = ⟨#[]⟩ := rfl
  rw [hn]
  clear hn HE
  generalize ofNats tok = tokB at *
  generalize ofNats key = keyB at *
  generalize ofNats hi = hiB at *
  generalize ofNats val = valB at *
  obtain ⟨wb, hwb⟩ : ∃ wb, wb = (w.alloc (.cells #[.int .i64 2, .bool ro, .bool asof, .bool back, .string tokB, .string keyB, .string hiB, .string valB, .int .i64 lim] 27)).alloc (.cells #[.int .i64 0, .bool false, .bool false, .bool false, .string ⟨#[]⟩, .string ⟨#[]⟩, .string ⟨#[]⟩, .string ⟨#[]⟩, .int .i64 0] 27) := ⟨_, rfl⟩
  have hB : Below w.heap.size w wb := by rw [hwb]; (repeat (first | with_reducible exact Below.refl _ _ | with_reducible assumption | with_reducible refine Below.drew ?_ | with_reducible refine Below.al ?_ _ | with_reducible refine Below.setCell ?_ (by first | exact Nat.le_refl _ | (simp; omega) | (simp; done)) _ | with_reducible refine Below.on ?_ (by assumption)))
  have hx : wb.heap[w.heap.size]? = some (.cells #[.int .i64 2, .bool ro, .bool asof, .bool back, .string tokB, .string keyB, .string hiB, .string valB, .int .i64 lim] 27 (0, 0)) := by rw [hwb, Below.heap_alloc _ _ _ (by simp)]; exact heap_alloc_new w _
  have QZ : Hid (wb.heap[w.heap.size + 1]? = some (.cells #[.int .i64 0, .bool false, .bool false, .bool false, .string ⟨#[]⟩, .string ⟨#[]⟩, .string ⟨#[]⟩, .string ⟨#[]⟩, .int .i64 0] 27 (0, 0))) := hid (by
    rw [hwb]
    have := heap_alloc_new (w.alloc (.cells #[.int .i64 2, .bool ro, .bool asof, .bool back, .string tokB, .string keyB, .string hiB, .string valB, .int .i64 lim] 27)) (.cells #[.int .i64 0, .bool false, .bool false, .bool false, .string ⟨#[]⟩, .string ⟨#[]⟩, .string ⟨#[]⟩, .string ⟨#[]⟩, .int .i64 0] 27)
    simpa using this)
  have q0 : wb.cell? ⟨w.heap.size, 0, none⟩ = some (.int .i64 2) := by rw [Lib.cell_of_heap hx]; rfl
  have q1 : wb.cell? ⟨w.heap.size, 1, none⟩ = some (.bool ro) := by rw [Lib.cell_of_heap hx]; rfl
  have q2 : wb.cell? ⟨w.heap.size, 2, none⟩ = some (.bool asof) := by rw [Lib.cell_of_heap hx]; rfl
  have q3 : wb.cell? ⟨w.heap.size, 3, none⟩ = some (.bool back) := by rw [Lib.cell_of_heap hx]; rfl
  have q4 : wb.cell? ⟨w.heap.size, 4, none⟩ = some (.string tokB) := by rw [Lib.cell_of_heap hx]; rfl
  have q5 : wb.cell? ⟨w.heap.size, 5, none⟩ = some (.string keyB) := by rw [Lib.cell_of_heap hx]; rfl
  have q6 : wb.cell? ⟨w.heap.size, 6, none⟩ = some (.string hiB) := by rw [Lib.cell_of_heap hx]; rfl
  have q7 : wb.cell? ⟨w.heap.size, 7, none⟩ = some (.string valB) := by rw [Lib.cell_of_heap hx]; rfl
  have q8 : wb.cell? ⟨w.heap.size, 8, none⟩ = some (.int .i64 lim) := by rw [Lib.cell_of_heap hx]; rfl
  have RZ : Hid ((wb.setRow (w.heap.size + 1) #[.int .i64 2, .bool false, .bool false, .bool false, .string ⟨#[]⟩, .string keyB, .string ⟨#[]⟩, .string ⟨#[]⟩, .int .i64 0]).heap[w.heap.size + 1]? = some (.cells #[.int .i64 2, .bool false, .bool false, .bool false, .string ⟨#[]⟩, .string keyB, .string ⟨#[]⟩, .string ⟨#[]⟩, .int .i64 0] 27 (0, 0))) := hid (setRow_heap _ _ _ _ _ _ QZ.out)
  have HB := hid (below_row hB (g := w.heap.size + 1) (by omega) #[.int .i64 2, .bool false, .bool false, .bool false, .string ⟨#[]⟩, .string keyB, .string ⟨#[]⟩, .string ⟨#[]⟩, .int .i64 0])
  clear hB hx
  go_enter Tryd.func24, Tryd.ntmps24
  go_upto_region 1 with fail
  rw [← hwb]
  clear hwb
  go_wp2_with (first | (refine wpList_store_row (by rfl) 27 _ _ (by rfl) (w.heap.size + 1) #[.int .i64 2, .bool false, .bool false, .bool false, .string ⟨#[]⟩, .string keyB, .string ⟨#[]⟩, .string ⟨#[]⟩, .int .i64 0] (by rfl) (by rfl) _ _ QZ.out infoOp rfl (one9 _ _ _ _ _ _ _ _ _) ?_) | fail)
  have LZ := hid (run_loadVar_at (P := Tryd.prog) _ ⟨w.heap.size + 1, 0, none⟩ 27 [.int .i64 2, .bool false, .bool false, .bool false, .string ⟨#[]⟩, .string keyB, .string ⟨#[]⟩, .string ⟨#[]⟩, .int .i64 0] _ (cells_at RZ.out) Tryd.underlying27 (by rfl) infoOp)
  refine bodyPost_ret (v := .agg #[.int .i64 2, .bool false, .bool false, .bool false, .string ⟨#[]⟩, .string keyB, .string ⟨#[]⟩, .string ⟨#[]⟩, .int .i64 0]) (by simp [results, Tryd.results24, Act.put, asAddr, LZ.out]) rfl ?_
  exact ⟨rfl, HB.out⟩


set_option maxHeartbeats 2000000 in
set_option maxRecDepth 100000 in
theorem bare_del {o : Og} (h1 : o.kd = 5) (w : World) :
    Calls Tryd.prog 24 #[.agg o.cells.toArray] w fun r w' => r = .returned (.agg (bareO o).cells.toArray) ∧ Below w.heap.size w w' := by
  obtain ⟨kd, ro, asof, back, tok, key, hi, val, lim⟩ := o
  simp only at h1
  subst h1
  have HE : Hid (bareO ⟨5, ro, asof, back, tok, key, hi, val, lim⟩ = ⟨5, false, false, false, [], key, [], [], 0⟩) := hid (by unfold bareO; simp)
  rw [HE.out]
  simp only [Og.cells]
  have hn : ofNats [] = ⟨#[]⟩ := rfl
  rw [hn]
  clear hn HE
  generalize ofNats tok = tokB at *
  generalize ofNats key = keyB at *
  generalize ofNats hi = hiB at *
  generalize ofNats val = valB at *
  obtain ⟨wb, hwb⟩ : ∃ wb, wb = (w.alloc (.cells #[.int .i64 5, .bool ro, .bool asof, .bool back, .string tokB, .string keyB, .string hiB, .string valB, .int .i64 lim] 27)).alloc (.cells #[.int .i64 0, .bool false, .bool false, .bool false, .string ⟨#[]⟩, .string ⟨#[]⟩, .string ⟨#[]⟩, .string ⟨#[]⟩, .int .i64 0] 27) := ⟨_, rfl⟩
  have hB : Below w.heap.size w wb := by rw [hwb]; (repeat (first | with_reducible exact Below.refl _ _ | with_reducible assumption | with_reducible refine Below.drew ?_ | with_reducible refine Below.al ?_ _ | with_reducible refine Below.setCell ?_ (by first | exact Nat.le_refl _ | (simp; omega) | (simp; done)) _ | with_reducible refine Below.on ?_ (by assumption)))
  have hx : wb.heap[w.heap.size]? = some (.cells #[.int .i64 5, .bool ro, .bool asof, .bool back, .string tokB, .string keyB, .string hiB, .string valB, .int .i64 lim] 27 (0, 0)) := by rw [hwb, Below.heap_alloc _ _ _ (by simp)]; exact heap_alloc_new w _
  have QZ : Hid (wb.heap[w.heap.size + 1]? = some (.cells #[.int .i64 0, .bool false, .bool false, .bool false, .string ⟨#[]⟩, .string ⟨#[]⟩, .string ⟨#[]⟩, .string ⟨#[]⟩, .int .i64 0] 27 (0, 0))) := hid (by
    rw [hwb]
    have := heap_alloc_new (w.alloc (.cells #[.int .i64 5, .bool ro, .bool asof, .bool back, .string tokB, .string keyB, .string hiB, .string valB, .int .i64 lim] 27)) (.cells #[.int .i64 0, .bool false, .bool false, .bool false, .string ⟨#[]⟩, .string ⟨#[]⟩, .string ⟨#[]⟩, .string ⟨#[]⟩, .int .i64 0] 27)
    simpa using this)
  have q0 : wb.cell? ⟨w.heap.size, 0, none⟩ = some (.int .i64 5) := by rw [Lib.cell_of_heap hx]; rfl
  have q1 : wb.cell? ⟨w.heap.size, 1, none⟩ = some (.bool ro) := by rw [Lib.cell_of_heap hx]; rfl
  have q2 : wb.cell? ⟨w.heap.size, 2, none⟩ = some (.bool asof) := by rw [Lib.cell_of_heap hx]; rfl
  have q3 : wb.cell? ⟨w.heap.size, 3, none⟩ = some (.bool back) := by rw [Lib.cell_of_heap hx]; rfl
  have q4 : wb.cell? ⟨w.heap.size, 4, none⟩ = some (.string tokB) := by rw [Lib.cell_of_heap hx]; rfl
  have q5 : wb.cell? ⟨w.heap.size, 5, none⟩ = some (.string keyB) := by rw [Lib.cell_of_heap hx]; rfl
  have q6 : wb.cell? ⟨w.heap.size, 6, none⟩ = some (.string hiB) := by rw [Lib.cell_of_heap hx]; rfl
  have q7 : wb.cell? ⟨w.heap.size, 7, none⟩ = some (.string valB) := by rw [Lib.cell_of_heap hx]; rfl
  have q8 : wb.cell? ⟨w.heap.size, 8, none⟩ = some (.int .i64 lim) := by rw [Lib.cell_of_heap hx]; rfl
  have RZ : Hid ((wb.setRow (w.heap.size + 1) #[.int .i64 5, .bool false, .bool false, .bool false, .string ⟨#[]⟩, .string keyB, .string ⟨#[]⟩, .string ⟨#[]⟩, .int .i64 0]).heap[w.heap.size + 1]? = some (.cells #[.int .i64 5, .bool false, .bool false, .bool false, .string ⟨#[]⟩, .string keyB, .string ⟨#[]⟩, .string ⟨#[]⟩, .int .i64 0] 27 (0, 0))) := hid (setRow_heap _ _ _ _ _ _ QZ.out)
  have HB := hid (below_row hB (g := w.heap.size + 1) (by omega) #[.int .i64 5, .bool false, .bool false, .bool false, .string ⟨#[]⟩, .string keyB, .string ⟨#[]⟩, .string ⟨#[]⟩, .int .i64 0])
  clear hB hx
  go_enter Tryd.func24, Tryd.ntmps24
  go_upto_region 1 with fail
  rw [← hwb]
  clear hwb
  go_wp2_with (first | (refine wpList_store_row (by rfl) 27 _ _ (by rfl) (w.heap.size + 1) #[.int .i64 5, .bool false, .bool false, .bool false, .string ⟨#[]⟩, .string keyB, .string ⟨#[]⟩, .string ⟨#[]⟩, .int .i64 0] (by rfl) (by rfl) _ _ QZ.out infoOp rfl (one9 _ _ _ _ _ _ _ _ _) ?_) | fail)
  have LZ := hid (run_loadVar_at (P := Tryd.prog) _ ⟨w.heap.size + 1, 0, none⟩ 27 [.int .i64 5, .bool false, .bool false, .bool false, .string ⟨#[]⟩, .string keyB, .string ⟨#[]⟩, .string ⟨#[]⟩, .int .i64 0] _ (cells_at RZ.out) Tryd.underlying27 (by rfl) infoOp)
  refine bodyPost_ret (v := .agg #[.int .i64 5, .bool false, .bool false, .bool false, .string ⟨#[]⟩, .string keyB, .string ⟨#[]⟩, .string ⟨#[]⟩, .int .i64 0]) (by simp [results, Tryd.results24, Act.put, asAddr, LZ.out]) rfl ?_
  exact ⟨rfl, HB.out⟩


set_option maxHeartbeats 2000000 in
set_option maxRecDepth 100000 in
theorem bare_scan {o : Og} (h1 : o.kd = 3) (w : World) :
    Calls Tryd.prog 24 #[.agg o.cells.toArray] w fun r w' => r = .returned (.agg (bareO o).cells.toArray) ∧ Below w.heap.size w w' := by
  obtain ⟨kd, ro, asof, back, tok, key, hi, val, lim⟩ := o
  simp only at h1
  subst h1
  have HE : Hid (bareO ⟨3, ro, asof, back, tok, key, hi, val, lim⟩ = ⟨3, false, false, back, [], key, hi, [], lim⟩) := hid (by unfold bareO; simp)
  rw [HE.out]
  simp only [Og.cells]
  have hn : ofNats [] = ⟨#[]⟩ := rfl
  rw [hn]
  clear hn HE
  generalize ofNats tok = tokB at *
  generalize ofNats key = keyB at *
  generalize ofNats hi = hiB at *
  generalize ofNats val = valB at *
  obtain ⟨wb, hwb⟩ : ∃ wb, wb = (w.alloc (.cells #[.int .i64 3, .bool ro, .bool asof, .bool back, .string tokB, .string keyB, .string hiB, .string valB, .int .i64 lim] 27)).alloc (.cells #[.int .i64 0, .bool false, .bool false, .bool false, .string ⟨#[]⟩, .string ⟨#[]⟩, .string ⟨#[]⟩, .string ⟨#[]⟩, .int .i64 0] 27) := ⟨_, rfl⟩
  have hB : Below w.heap.size w wb := by rw [hwb]; (repeat (first | with_reducible exact Below.refl _ _ | with_reducible assumption | with_reducible refine Below.drew ?_ | with_reducible refine Below.al ?_ _ | with_reducible refine Below.setCell ?_ (by first | exact Nat.le_refl _ | (simp; omega) | (simp; done)) _ | with_reducible refine Below.on ?_ (by assumption)))
  have hx : wb.heap[w.heap.size]? = some (.cells #[.int .i64 3, .bool ro, .bool asof, .bool back, .string tokB, .string keyB, .string hiB, .string valB, .int .i64 lim] 27 (0, 0)) := by rw [hwb, Below.heap_alloc _ _ _ (by simp)]; exact heap_alloc_new w _
  have QZ : Hid (wb.heap[w.heap.size + 1]? = some (.cells #[.int .i64 0, .bool false, .bool false, .bool false, .string ⟨#[]⟩, .string ⟨#[]⟩, .string ⟨#[]⟩, .string ⟨#[]⟩, .int .i64 0] 27 (0, 0))) := hid (by
    rw [hwb]
    have := heap_alloc_new (w.alloc (.cells #[.int .i64 3, .bool ro, .bool asof, .bool back, .string tokB, .string keyB, .string hiB, .string valB, .int .i64 lim] 27)) (.cells #[.int .i64 0, .bool false, .bool false, .bool false, .string ⟨#[]⟩, .string ⟨#[]⟩, .string ⟨#[]⟩, .string ⟨#[]⟩, .int .i64 0] 27)
    simpa using this)
  have q0 : wb.cell? ⟨w.heap.size, 0, none⟩ = some (.int .i64 3) := by rw [Lib.cell_of_heap hx]; rfl
  have q1 : wb.cell? ⟨w.heap.size, 1, none⟩ = some (.bool ro) := by rw [Lib.cell_of_heap hx]; rfl
  have q2 : wb.cell? ⟨w.heap.size, 2, none⟩ = some (.bool asof) := by rw [Lib.cell_of_heap hx]; rfl
  have q3 : wb.cell? ⟨w.heap.size, 3, none⟩ = some (.bool back) := by rw [Lib.cell_of_heap hx]; rfl
  have q4 : wb.cell? ⟨w.heap.size, 4, none⟩ = some (.string tokB) := by rw [Lib.cell_of_heap hx]; rfl
  have q5 : wb.cell? ⟨w.heap.size, 5, none⟩ = some (.string keyB) := by rw [Lib.cell_of_heap hx]; rfl
  have q6 : wb.cell? ⟨w.heap.size, 6, none⟩ = some (.string hiB) := by rw [Lib.cell_of_heap hx]; rfl
  have q7 : wb.cell? ⟨w.heap.size, 7, none⟩ = some (.string valB) := by rw [Lib.cell_of_heap hx]; rfl
  have q8 : wb.cell? ⟨w.heap.size, 8, none⟩ = some (.int .i64 lim) := by rw [Lib.cell_of_heap hx]; rfl
  have RZ : Hid ((wb.setRow (w.heap.size + 1) #[.int .i64 3, .bool false, .bool false, .bool back, .string ⟨#[]⟩, .string keyB, .string hiB, .string ⟨#[]⟩, .int .i64 lim]).heap[w.heap.size + 1]? = some (.cells #[.int .i64 3, .bool false, .bool false, .bool back, .string ⟨#[]⟩, .string keyB, .string hiB, .string ⟨#[]⟩, .int .i64 lim] 27 (0, 0))) := hid (setRow_heap _ _ _ _ _ _ QZ.out)
  have HB := hid (below_row hB (g := w.heap.size + 1) (by omega) #[.int .i64 3, .bool false, .bool false, .bool back, .string ⟨#[]⟩, .string keyB, .string hiB, .string ⟨#[]⟩, .int .i64 lim])
  clear hB hx
  go_enter Tryd.func24, Tryd.ntmps24
  go_upto_region 1 with fail
  rw [← hwb]
  clear hwb
  go_wp2_with (first | (refine wpList_store_row (by rfl) 27 _ _ (by rfl) (w.heap.size + 1) #[.int .i64 3, .bool false, .bool false, .bool back, .string ⟨#[]⟩, .string keyB, .string hiB, .string ⟨#[]⟩, .int .i64 lim] (by rfl) (by rfl) _ _ QZ.out infoOp rfl (one9 _ _ _ _ _ _ _ _ _) ?_) | fail)
  have LZ := hid (run_loadVar_at (P := Tryd.prog) _ ⟨w.heap.size + 1, 0, none⟩ 27 [.int .i64 3, .bool false, .bool false, .bool back, .string ⟨#[]⟩, .string keyB, .string hiB, .string ⟨#[]⟩, .int .i64 lim] _ (cells_at RZ.out) Tryd.underlying27 (by rfl) infoOp)
  refine bodyPost_ret (v := .agg #[.int .i64 3, .bool false, .bool false, .bool back, .string ⟨#[]⟩, .string keyB, .string hiB, .string ⟨#[]⟩, .int .i64 lim]) (by simp [results, Tryd.results24, Act.put, asAddr, LZ.out]) rfl ?_
  exact ⟨rfl, HB.out⟩


set_option maxHeartbeats 2000000 in
set_option maxRecDepth 100000 in
theorem bare_put {o : Og} (h1 : o.kd = 4) (w : World) :
    Calls Tryd.prog 24 #[.agg o.cells.toArray] w fun r w' => r = .returned (.agg (bareO o).cells.toArray) ∧ Below w.heap.size w w' := by
  obtain ⟨kd, ro, asof, back, tok, key, hi, val, lim⟩ := o
  simp only at h1
  subst h1
  have HE : Hid (bareO ⟨4, ro, asof, back, tok, key, hi, val, lim⟩ = ⟨4, false, false, false, [], key, [], val, 0⟩) := hid (by unfold bareO; simp)
  rw [HE.out]
  simp only [Og.cells]
  have hn : ofNats [] = ⟨#[]⟩ := rfl
  rw [hn]
  clear hn HE
  generalize ofNats tok = tokB at *
  generalize ofNats key = keyB at *
  generalize ofNats hi = hiB at *
  generalize ofNats val = valB at *
  obtain ⟨wb, hwb⟩ : ∃ wb, wb = (w.alloc (.cells #[.int .i64 4, .bool ro, .bool asof, .bool back, .string tokB, .string keyB, .string hiB, .string valB, .int .i64 lim] 27)).alloc (.cells #[.int .i64 0, .bool false, .bool false, .bool false, .string ⟨#[]⟩, .string ⟨#[]⟩, .string ⟨#[]⟩, .string ⟨#[]⟩, .int .i64 0] 27) := ⟨_, rfl⟩
  have hB : Below w.heap.size w wb := by rw [hwb]; (repeat (first | with_reducible exact Below.refl _ _ | with_reducible assumption | with_reducible refine Below.drew ?_ | with_reducible refine Below.al ?_ _ | with_reducible refine Below.setCell ?_ (by first | exact Nat.le_refl _ | (simp; omega) | (simp; done)) _ | with_reducible refine Below.on ?_ (by assumption)))
  have hx : wb.heap[w.heap.size]? = some (.cells #[.int .i64 4, .bool ro, .bool asof, .bool back, .string tokB, .string keyB, .string hiB, .string valB, .int .i64 lim] 27 (0, 0)) := by rw [hwb, Below.heap_alloc _ _ _ (by simp)]; exact heap_alloc_new w _
  have QZ : Hid (wb.heap[w.heap.size + 1]? = some (.cells #[.int .i64 0, .bool false, .bool false, .bool false, .string ⟨#[]⟩, .string ⟨#[]⟩, .string ⟨#[]⟩, .string ⟨#[]⟩, .int .i64 0] 27 (0, 0))) := hid (by
    rw [hwb]
    have := heap_alloc_new (w.alloc (.cells #[.int .i64 4, .bool ro, .bool asof, .bool back, .string tokB, .string keyB, .string hiB, .string valB, .int .i64 lim] 27)) (.cells #[.int .i64 0, .bool false, .bool false, .bool false, .string ⟨#[]⟩, .string ⟨#[]⟩, .string ⟨#[]⟩, .string ⟨#[]⟩, .int .i64 0] 27)
    simpa using this)
  have q0 : wb.cell? ⟨w.heap.size, 0, none⟩ = some (.int .i64 4) := by rw [Lib.cell_of_heap hx]; rfl
  have q1 : wb.cell? ⟨w.heap.size, 1, none⟩ = some (.bool ro) := by rw [Lib.cell_of_heap hx]; rfl
  have q2 : wb.cell? ⟨w.heap.size, 2, none⟩ = some (.bool asof) := by rw [Lib.cell_of_heap hx]; rfl
  have q3 : wb.cell? ⟨w.heap.size, 3, none⟩ = some (.bool back) := by rw [Lib.cell_of_heap hx]; rfl
  have q4 : wb.cell? ⟨w.heap.size, 4, none⟩ = some (.string tokB) := by rw [Lib.cell_of_heap hx]; rfl
  have q5 : wb.cell? ⟨w.heap.size, 5, none⟩ = some (.string keyB) := by rw [Lib.cell_of_heap hx]; rfl
  have q6 : wb.cell? ⟨w.heap.size, 6, none⟩ = some (.string hiB) := by rw [Lib.cell_of_heap hx]; rfl
  have q7 : wb.cell? ⟨w.heap.size, 7, none⟩ = some (.string valB) := by rw [Lib.cell_of_heap hx]; rfl
  have q8 : wb.cell? ⟨w.heap.size, 8, none⟩ = some (.int .i64 lim) := by rw [Lib.cell_of_heap hx]; rfl
  have RZ : Hid ((wb.setRow (w.heap.size + 1) #[.int .i64 4, .bool false, .bool false, .bool false, .string ⟨#[]⟩, .string keyB, .string ⟨#[]⟩, .string valB, .int .i64 0]).heap[w.heap.size + 1]? = some (.cells #[.int .i64 4, .bool false, .bool false, .bool false, .string ⟨#[]⟩, .string keyB, .string ⟨#[]⟩, .string valB, .int .i64 0] 27 (0, 0))) := hid (setRow_heap _ _ _ _ _ _ QZ.out)
  have HB := hid (below_row hB (g := w.heap.size + 1) (by omega) #[.int .i64 4, .bool false, .bool false, .bool false, .string ⟨#[]⟩, .string keyB, .string ⟨#[]⟩, .string valB, .int .i64 0])
  clear hB hx
  go_enter Tryd.func24, Tryd.ntmps24
  go_upto_region 1 with fail
  rw [← hwb]
  clear hwb
  go_wp2_with (first | (refine wpList_store_row (by rfl) 27 _ _ (by rfl) (w.heap.size + 1) #[.int .i64 4, .bool false, .bool false, .bool false, .string ⟨#[]⟩, .string keyB, .string ⟨#[]⟩, .string valB, .int .i64 0] (by rfl) (by rfl) _ _ QZ.out infoOp rfl (one9 _ _ _ _ _ _ _ _ _) ?_) | fail)
  have LZ := hid (run_loadVar_at (P := Tryd.prog) _ ⟨w.heap.size + 1, 0, none⟩ 27 [.int .i64 4, .bool false, .bool false, .bool false, .string ⟨#[]⟩, .string keyB, .string ⟨#[]⟩, .string valB, .int .i64 0] _ (cells_at RZ.out) Tryd.underlying27 (by rfl) infoOp)
  refine bodyPost_ret (v := .agg #[.int .i64 4, .bool false, .bool false, .bool false, .string ⟨#[]⟩, .string keyB, .string ⟨#[]⟩, .string valB, .int .i64 0]) (by simp [results, Tryd.results24, Act.put, asAddr, LZ.out]) rfl ?_
  exact ⟨rfl, HB.out⟩


set_option maxHeartbeats 2000000 in
set_option maxRecDepth 100000 in
theorem bare_none {o : Og} (h1 : o.kd ≠ 1) (h2 : o.kd ≠ 2) (h3 : o.kd ≠ 3) (h4 : o.kd ≠ 4) (h5 : o.kd ≠ 5) (w : World) :
    Calls Tryd.prog 24 #[.agg o.cells.toArray] w fun r w' => r = .returned (.agg (bareO o).cells.toArray) ∧ Below w.heap.size w w' := by
  obtain ⟨kd, ro, asof, back, tok, key, hi, val, lim⟩ := o
  simp only at h1 h2 h3 h4 h5
  have HE : Hid (bareO ⟨kd, ro, asof, back, tok, key, hi, val, lim⟩ = ⟨kd, false, false, false, [], [], [], [], 0⟩) := hid (by unfold bareO; simp [h1, h2, h3, h4, h5])
  rw [HE.out]
  simp only [Og.cells]
  have hn : ofNats [] = ⟨#[]⟩ := rfl
  rw [hn]
  clear hn HE
  generalize ofNats tok = tokB at *
  generalize ofNats key = keyB at *
  generalize ofNats hi = hiB at *
  generalize ofNats val = valB at *
  obtain ⟨wb, hwb⟩ : ∃ wb, wb = (w.alloc (.cells #[.int .i64 kd, .bool ro, .bool asof, .bool back, .string tokB, .string keyB, .string hiB, .string valB, .int .i64 lim] 27)).alloc (.cells #[.int .i64 0, .bool false, .bool false, .bool false, .string ⟨#[]⟩, .string ⟨#[]⟩, .string ⟨#[]⟩, .string ⟨#[]⟩, .int .i64 0] 27) := ⟨_, rfl⟩
  have hB : Below w.heap.size w wb := by rw [hwb]; (repeat (first | with_reducible exact Below.refl _ _ | with_reducible assumption | with_reducible refine Below.drew ?_ | with_reducible refine Below.al ?_ _ | with_reducible refine Below.setCell ?_ (by first | exact Nat.le_refl _ | (simp; omega) | (simp; done)) _ | with_reducible refine Below.on ?_ (by assumption)))
  have hx : wb.heap[w.heap.size]? = some (.cells #[.int .i64 kd, .bool ro, .bool asof, .bool back, .string tokB, .string keyB, .string hiB, .string valB, .int .i64 lim] 27 (0, 0)) := by rw [hwb, Below.heap_alloc _ _ _ (by simp)]; exact heap_alloc_new w _
  have QZ : Hid (wb.heap[w.heap.size + 1]? = some (.cells #[.int .i64 0, .bool false, .bool false, .bool false, .string ⟨#[]⟩, .string ⟨#[]⟩, .string ⟨#[]⟩, .string ⟨#[]⟩, .int .i64 0] 27 (0, 0))) := hid (by
    rw [hwb]
    have := heap_alloc_new (w.alloc (.cells #[.int .i64 kd, .bool ro, .bool asof, .bool back, .string tokB, .string keyB, .string hiB, .string valB, .int .i64 lim] 27)) (.cells #[.int .i64 0, .bool false, .bool false, .bool false, .string ⟨#[]⟩, .string ⟨#[]⟩, .string ⟨#[]⟩, .string ⟨#[]⟩, .int .i64 0] 27)
    simpa using this)
  have q0 : wb.cell? ⟨w.heap.size, 0, none⟩ = some (.int .i64 kd) := by rw [Lib.cell_of_heap hx]; rfl
  have q1 : wb.cell? ⟨w.heap.size, 1, none⟩ = some (.bool ro) := by rw [Lib.cell_of_heap hx]; rfl
  have q2 : wb.cell? ⟨w.heap.size, 2, none⟩ = some (.bool asof) := by rw [Lib.cell_of_heap hx]; rfl
  have q3 : wb.cell? ⟨w.heap.size, 3, none⟩ = some (.bool back) := by rw [Lib.cell_of_heap hx]; rfl
  have q4 : wb.cell? ⟨w.heap.size, 4, none⟩ = some (.string tokB) := by rw [Lib.cell_of_heap hx]; rfl
  have q5 : wb.cell? ⟨w.heap.size, 5, none⟩ = some (.string keyB) := by rw [Lib.cell_of_heap hx]; rfl
  have q6 : wb.cell? ⟨w.heap.size, 6, none⟩ = some (.string hiB) := by rw [Lib.cell_of_heap hx]; rfl
  have q7 : wb.cell? ⟨w.heap.size, 7, none⟩ = some (.string valB) := by rw [Lib.cell_of_heap hx]; rfl
  have q8 : wb.cell? ⟨w.heap.size, 8, none⟩ = some (.int .i64 lim) := by rw [Lib.cell_of_heap hx]; rfl
  have RZ : Hid ((wb.setRow (w.heap.size + 1) #[.int .i64 kd, .bool false, .bool false, .bool false, .string ⟨#[]⟩, .string ⟨#[]⟩, .string ⟨#[]⟩, .string ⟨#[]⟩, .int .i64 0]).heap[w.heap.size + 1]? = some (.cells #[.int .i64 kd, .bool false, .bool false, .bool false, .string ⟨#[]⟩, .string ⟨#[]⟩, .string ⟨#[]⟩, .string ⟨#[]⟩, .int .i64 0] 27 (0, 0))) := hid (setRow_heap _ _ _ _ _ _ QZ.out)
  have HB := hid (below_row hB (g := w.heap.size + 1) (by omega) #[.int .i64 kd, .bool false, .bool false, .bool false, .string ⟨#[]⟩, .string ⟨#[]⟩, .string ⟨#[]⟩, .string ⟨#[]⟩, .int .i64 0])
  clear hB hx
  go_enter Tryd.func24, Tryd.ntmps24
  go_upto_region 1 with fail
  rw [← hwb]
  clear hwb
  go_wp2_with (first | (refine wpList_store_row (by rfl) 27 _ _ (by rfl) (w.heap.size + 1) #[.int .i64 kd, .bool false, .bool false, .bool false, .string ⟨#[]⟩, .string ⟨#[]⟩, .string ⟨#[]⟩, .string ⟨#[]⟩, .int .i64 0] (by rfl) (by rfl) _ _ QZ.out infoOp rfl (one9 _ _ _ _ _ _ _ _ _) ?_) | fail)
  have LZ := hid (run_loadVar_at (P := Tryd.prog) _ ⟨w.heap.size + 1, 0, none⟩ 27 [.int .i64 kd, .bool false, .bool false, .bool false, .string ⟨#[]⟩, .string ⟨#[]⟩, .string ⟨#[]⟩, .string ⟨#[]⟩, .int .i64 0] _ (cells_at RZ.out) Tryd.underlying27 (by rfl) infoOp)
  refine bodyPost_ret (v := .agg #[.int .i64 kd, .bool false, .bool false, .bool false, .string ⟨#[]⟩, .string ⟨#[]⟩, .string ⟨#[]⟩, .string ⟨#[]⟩, .int .i64 0]) (by simp [results, Tryd.results24, Act.put, asAddr, LZ.out]) rfl ?_
  exact ⟨rfl, HB.out⟩


theorem bare_is (o : Og) (w : World) : Calls Tryd.prog 24 #[.agg o.cells.toArray] w fun r w' => r = .returned (.agg (bareO o).cells.toArray) ∧ Below w.heap.size w w' := by
  by_cases h1 : o.kd = 1
  · exact bare_begin h1 w
  by_cases h2 : o.kd = 2
  · exact bare_get h2 w
  by_cases h3 : o.kd = 3
  · exact bare_scan h3 w
  by_cases h4 : o.kd = 4
  · exact bare_put h4 w
  by_cases h5 : o.kd = 5
  · exact bare_del h5 w
  exact bare_none h1 h2 h3 h4 h5 w


set_option maxHeartbeats 4000000 in
set_option maxRecDepth 100000 in
theorem drequest_is {o : Og} {N : Nat} (hk : o.Ok N) (hN : N ≤ 1048576) (w : World) (ht : PowTab w) :
    Calls Tryd.prog 9 #[.agg o.cells.toArray] w fun e w' => e = .returned (.tuple #[.string (ofNats (reqA o).1), .int .i64 (reqA o).2]) ∧ Below w.heap.size w w' := by
  obtain ⟨wb, hwb⟩ : ∃ wb, wb = w.alloc (.cells o.cells.toArray 27) := ⟨_, rfl⟩
  have hB : Below w.heap.size w wb := by rw [hwb]; (repeat (first | with_reducible exact Below.refl _ _ | with_reducible assumption | with_reducible refine Below.drew ?_ | with_reducible refine Below.al ?_ _ | with_reducible refine Below.setCell ?_ (by first | exact Nat.le_refl _ | (simp; omega) | (simp; done)) _ | with_reducible refine Below.on ?_ (by assumption)))
  have hX : wb.heap[w.heap.size]? = some (.cells o.cells.toArray 27 (0, 0)) := by rw [hwb]; exact heap_alloc_new w _
  have HX := hid hX
  have CL := hid (dline_is hk hN wb (ht.later hB))
  have HB := hid hB
  have HI : Hid ((Tryd.prog.info? 27).map (·.size) = some o.cells.length) := hid infoOp
  have hbk := bare_ok hk
  have CB : Hid (∀ W, Calls Tryd.prog 24 #[.agg #[.int .i64 o.kd, .bool o.ro, .bool o.asof, .bool o.back, .string (ofNats o.tok), .string (ofNats o.key), .string (ofNats o.hi), .string (ofNats o.val), .int .i64 o.lim]] W fun r w' => r = .returned (.agg #[.int .i64 (bareO o).kd, .bool (bareO o).ro, .bool (bareO o).asof, .bool (bareO o).back, .string (ofNats (bareO o).tok), .string (ofNats (bareO o).key), .string (ofNats (bareO o).hi), .string (ofNats (bareO o).val), .int .i64 (bareO o).lim]) ∧ Below W.heap.size W w') := hid (fun W => bare_is o W)
  clear hB hX
  have hdl : (dlin o).length ≤ 4194304 := by
    have h1 := (wordL_len o.tok).2
    have h2 := (wordL_len o.key).2
    have h3 := (wordL_len o.hi).2
    have h4 := (wordL_len o.val).2
    have h5 := decN_le (u := o.lim.toNat) (by have := hk.lim1; omega)
    have h6 := hk.len
    unfold dlin scanL
    repeat' split
    all_goals simp
    all_goals omega
  have hzl : (ofNats (dlin o)).size = (dlin o).length := ofNats_size _
  go_enter Tryd.func9, Tryd.ntmps9
  go_upto_region 1 with fail
  rw [← hwb]
  clear hwb
  go_wp2_with (first | (refine wpList_load_at (by rfl) 27 _ (by rfl) ⟨w.heap.size, 0, none⟩ (by rfl) o.cells _ (cells_at HX.out) Tryd.underlying27 (by rfl) HI.out ?_) | fail)
  refine CL.out.mono ?_
  rintro e w1 ⟨rfl, hb1⟩
  have HB1 := hid (Below.on HB.out hb1)
  have k0 : w1.cell? ⟨w.heap.size, 0, none⟩ = some (.int .i64 o.kd) := cell_upon hb1 (by rw [Lib.cell_of_heap HX.out]; rfl)
  have k1 : w1.cell? ⟨w.heap.size, 1, none⟩ = some (.bool o.ro) := cell_upon hb1 (by rw [Lib.cell_of_heap HX.out]; rfl)
  have k2 : w1.cell? ⟨w.heap.size, 2, none⟩ = some (.bool o.asof) := cell_upon hb1 (by rw [Lib.cell_of_heap HX.out]; rfl)
  have k3 : w1.cell? ⟨w.heap.size, 3, none⟩ = some (.bool o.back) := cell_upon hb1 (by rw [Lib.cell_of_heap HX.out]; rfl)
  have k4 : w1.cell? ⟨w.heap.size, 4, none⟩ = some (.string (ofNats o.tok)) := cell_upon hb1 (by rw [Lib.cell_of_heap HX.out]; rfl)
  have k5 : w1.cell? ⟨w.heap.size, 5, none⟩ = some (.string (ofNats o.key)) := cell_upon hb1 (by rw [Lib.cell_of_heap HX.out]; rfl)
  have k6 : w1.cell? ⟨w.heap.size, 6, none⟩ = some (.string (ofNats o.hi)) := cell_upon hb1 (by rw [Lib.cell_of_heap HX.out]; rfl)
  have k7 : w1.cell? ⟨w.heap.size, 7, none⟩ = some (.string (ofNats o.val)) := cell_upon hb1 (by rw [Lib.cell_of_heap HX.out]; rfl)
  have k8 : w1.cell? ⟨w.heap.size, 8, none⟩ = some (.int .i64 o.lim) := cell_upon hb1 (by rw [Lib.cell_of_heap HX.out]; rfl)
  clear hb1 CL HX HB
  by_cases e1 : o = bareO o
  · have hne : ∀ W, (binOp .neq 27 (.agg #[.int .i64 o.kd, .bool o.ro, .bool o.asof, .bool o.back, .string (ofNats o.tok), .string (ofNats o.key), .string (ofNats o.hi), .string (ofNats o.val), .int .i64 o.lim]) (.agg #[.int .i64 (bareO o).kd, .bool (bareO o).ro, .bool (bareO o).asof, .bool (bareO o).back, .string (ofNats (bareO o).tok), .string (ofNats (bareO o).key), .string (ofNats (bareO o).hi), .string (ofNats (bareO o).val), .int .i64 (bareO o).lim])).run Tryd.prog W = .ok (.bool false) W := fun W => by rw [← e1]; exact neO_same o W
    by_cases e2 : dlin o = []
    · have HE : Hid (reqA o = ([], 210)) := hid (by
        unfold reqA
        cases h : lineOf 400 o with
        | none => rfl
        | some s => obtain ⟨_, h2, h3, _⟩ := dreq_yes h; exact absurd (h2.symm.trans e2) h3)
      have hem : (ofNats (dlin o)).toList.isEmpty = true := by rw [e2]; simp [ofNats, ByteArray.toList_eq]
      generalize ofNats (dlin o) = sB at *
      generalize hbo : bareO o = b at *
      clear hk hbk e1 e2 hbo ht
      go_upto_region 2 with fail
      refine wp_region_quiet_below (by kernel_rfl) (by kernel_rfl) ?_
      have c0 := cell_regrown k0
      have c1 := cell_regrown k1
      have c2 := cell_regrown k2
      have c3 := cell_regrown k3
      have c4 := cell_regrown k4
      have c5 := cell_regrown k5
      have c6 := cell_regrown k6
      have c7 := cell_regrown k7
      have c8 := cell_regrown k8
      repeat (go_big_quiet_step (first | (go_at_call 24; exact Calls.regrown_of (CB.out _))))
      refine wpQuiet_nil ?_
      intro w3 hb3
      replace hb3 := below_of_regrown hb3
      have HB3 := hid (Below.on HB1.out hb3)
      clear hb3
      go_wp2_with fail
      go_ret2
      exact ⟨by rw [HE.out]; rfl, HB3.out⟩
    · have hem : (ofNats (dlin o)).toList.isEmpty = false := empty_of e2
      by_cases e3 : 400 < (dlin o).length
      · have HE : Hid (reqA o = ([], 210)) := hid (by
          unfold reqA
          cases h : lineOf 400 o with
          | none => rfl
          | some s => obtain ⟨_, h2, _, h4⟩ := dreq_yes h; rw [h2] at e3; omega)
        have d1 : decide ((400 : Int) < ((dlin o).length : Int)) = true := decide_eq_true (by omega)
        generalize (dlin o).length = nl at *
        generalize ofNats (dlin o) = sB at *
        generalize hbo : bareO o = b at *
        clear hk hbk e1 e2 hbo ht
        go_upto_region 2 with fail
        refine wp_region_quiet_below (by kernel_rfl) (by kernel_rfl) ?_
        have c0 := cell_regrown k0
        have c1 := cell_regrown k1
        have c2 := cell_regrown k2
        have c3 := cell_regrown k3
        have c4 := cell_regrown k4
        have c5 := cell_regrown k5
        have c6 := cell_regrown k6
        have c7 := cell_regrown k7
        have c8 := cell_regrown k8
        repeat (go_big_quiet_step (first | (go_at_call 24; exact Calls.regrown_of (CB.out _))))
        refine wpQuiet_nil ?_
        intro w3 hb3
        replace hb3 := below_of_regrown hb3
        have HB3 := hid (Below.on HB1.out hb3)
        clear hb3
        go_wp2_with fail
        go_ret2
        exact ⟨by rw [HE.out]; rfl, HB3.out⟩
      · have HE : Hid (reqA o = (dlin o, 0)) := hid (by
          unfold reqA
          cases h : lineOf 400 o with
          | none =>
            rcases dreq_no hk.lim1 h with h | h | h
            · exact absurd e1 h
            · exact absurd h e2
            · exact absurd h e3
          | some s => obtain ⟨_, h2, _, _⟩ := dreq_yes h; rw [h2])
        have d1 : decide ((400 : Int) < ((dlin o).length : Int)) = false := decide_eq_false (by omega)
        have HE1 : Hid (ofNats (reqA o).1 = ofNats (dlin o) ∧ (reqA o).2 = 0) := hid (by rw [HE.out]; exact ⟨rfl, rfl⟩)
        clear HE
        generalize (dlin o).length = nl at *
        generalize ofNats (dlin o) = sB at *
        generalize hbo : bareO o = b at *
        clear hk hbk e1 e2 hbo ht
        go_upto_region 2 with fail
        refine wp_region_quiet_below (by kernel_rfl) (by kernel_rfl) ?_
        have c0 := cell_regrown k0
        have c1 := cell_regrown k1
        have c2 := cell_regrown k2
        have c3 := cell_regrown k3
        have c4 := cell_regrown k4
        have c5 := cell_regrown k5
        have c6 := cell_regrown k6
        have c7 := cell_regrown k7
        have c8 := cell_regrown k8
        repeat (go_big_quiet_step (first | (go_at_call 24; exact Calls.regrown_of (CB.out _))))
        refine wpQuiet_nil ?_
        intro w3 hb3
        replace hb3 := below_of_regrown hb3
        have HB3 := hid (Below.on HB1.out hb3)
        clear hb3
        go_wp2_with fail
        go_ret2
        exact ⟨by rw [HE1.out.1, HE1.out.2]; rfl, HB3.out⟩
  · have hne : ∀ W, (binOp .neq 27 (.agg #[.int .i64 o.kd, .bool o.ro, .bool o.asof, .bool o.back, .string (ofNats o.tok), .string (ofNats o.key), .string (ofNats o.hi), .string (ofNats o.val), .int .i64 o.lim]) (.agg #[.int .i64 (bareO o).kd, .bool (bareO o).ro, .bool (bareO o).asof, .bool (bareO o).back, .string (ofNats (bareO o).tok), .string (ofNats (bareO o).key), .string (ofNats (bareO o).hi), .string (ofNats (bareO o).val), .int .i64 (bareO o).lim])).run Tryd.prog W = .ok (.bool true) W := fun W => neO_other hk hbk e1 W
    have HE : Hid (reqA o = ([], 210)) := hid (by
      unfold reqA
      cases h : lineOf 400 o with
      | none => rfl
      | some s => exact absurd (dreq_yes h).1 e1)
    generalize ofNats (dlin o) = sB at *
    generalize hbo : bareO o = b at *
    clear hk hbk e1 hbo ht
    go_upto_region 2 with fail
    refine wp_region_quiet_below (by kernel_rfl) (by kernel_rfl) ?_
    have c0 := cell_regrown k0
    have c1 := cell_regrown k1
    have c2 := cell_regrown k2
    have c3 := cell_regrown k3
    have c4 := cell_regrown k4
    have c5 := cell_regrown k5
    have c6 := cell_regrown k6
    have c7 := cell_regrown k7
    have c8 := cell_regrown k8
    repeat (go_big_quiet_step (first | (go_at_call 24; exact Calls.regrown_of (CB.out _))))
    refine wpQuiet_nil ?_
    intro w3 hb3
    replace hb3 := below_of_regrown hb3
    have HB3 := hid (Below.on HB1.out hb3)
    clear hb3
    go_wp2_with fail
    go_ret2
    exact ⟨by rw [HE.out]; rfl, HB3.out⟩

end Go.Proofs.YtggmhodogfngdaaDoor.Gt
