import Derived.Test.YtggmhodogfngdaaDoorGtDr
/- The law on requests: the walk. -/
namespace Go.Proofs.YtggmhodogfngdaaDoor.Gt
open Go.Proofs.YtggmhodogfngdaaDoor Go.Proofs.YtggmhodogfngdaaDoor.Rt Go.RowKit Go.Sort
set_option linter.unusedVariables false
set_option linter.unusedSimpArgs false

set_option maxHeartbeats 2000000 in
set_option maxRecDepth 100000 in
theorem run_eq_same (k l : Int) (b1 b2 b3 : Bool) (s1 s2 s3 s4 : ByteArray) (w : World) :
    (binOp .eql 27 (.agg #[.int .i64 k, .bool b1, .bool b2, .bool b3, .string s1, .string s2, .string s3, .string s4, .int .i64 l]) (.agg #[.int .i64 k, .bool b1, .bool b2, .bool b3, .string s1, .string s2, .string s3, .string s4, .int .i64 l])).run Tryd.prog w = .ok (.bool true) w := by
  simp [go_sem, Tryd.underlying27]
theorem keep_bel {w w' : World} {k : Nat} {x : Obj} (hb : Below w.heap.size w w') (h : w.heap[k]? = some x) : w'.heap[k]? = some x := by
  have hl : k < w.heap.size := by
    rcases Nat.lt_or_ge k w.heap.size with h' | h'
    · exact h'
    · simp [Array.getElem?_eq_none h'] at h
  rw [hb.block k hl]; exact h

set_option maxHeartbeats 4000000 in
set_option maxRecDepth 100000 in
theorem law_requests {o : Og} {N : Nat} (hk : o.Ok N) (hN : N ≤ 1048576) (w : World) (hv : Vars w) :
    Calls Tryd.prog 4 #[.agg o.cells.toArray] w fun e w' => e = .returned (.bool true) ∧ Below w.heap.size w w' := by
  obtain ⟨wb, hwb⟩ : ∃ wb, wb = w.alloc (.cells o.cells.toArray 27) := ⟨_, rfl⟩
  have hB : Below w.heap.size w wb := by rw [hwb]; (repeat (first | with_reducible exact Below.refl _ _ | with_reducible assumption | with_reducible refine Below.drew ?_ | with_reducible refine Below.al ?_ _ | with_reducible refine Below.setCell ?_ (by first | exact Nat.le_refl _ | (simp; omega) | (simp; done)) _ | with_reducible refine Below.on ?_ (by assumption)))
  have HX : Hid (wb.heap[w.heap.size]? = some (.cells o.cells.toArray 27 (0, 0))) := hid (by rw [hwb]; exact heap_alloc_new w _)
  have C1 := hid (request_is hk hN wb (hv.later hB))
  have C2 := hid (fun W (hW : Below w.heap.size w W) => drequest_is hk hN W (hv.later hW).pow)
  have HI : Hid ((Tryd.prog.info? 27).map (·.size) = some o.cells.length) := hid infoOp
  have HB := hid hB
  have HV := hid hv
  have HK := hid hk
  clear hB hv hk
  go_enter Tryd.func4, Tryd.ntmps4
  go_upto_region 1 with fail
  rw [← hwb]
  clear hwb
  cases hl : lineOf 400 o with
  | none =>
    have hr : reqA o = ([], 210) := by unfold reqA; rw [hl]
    rw [hr] at C1 C2
    clear hl hr HK
    go_wp2_with (first | (refine wpList_load_at (by rfl) 27 _ (by rfl) ⟨w.heap.size, 0, none⟩ (by rfl) o.cells _ (cells_at HX.out) Tryd.underlying27 (by rfl) HI.out ?_) | fail)
    refine C1.out.mono ?_
    rintro e w1 ⟨rfl, hb1⟩
    have HB1 := hid (Below.on HB.out hb1)
    have HX1 := hid (keep_bel hb1 HX.out)
    clear hb1 HX
    go_wp2_with (first | (refine wpList_load_at (by rfl) 27 _ (by rfl) ⟨w.heap.size, 0, none⟩ (by rfl) o.cells _ (cells_at HX1.out) Tryd.underlying27 (by rfl) HI.out ?_) | fail)
    refine (C2.out _ HB1.out).mono ?_
    rintro e w2 ⟨rfl, hb2⟩
    have HB2 := hid (Below.on HB1.out hb2)
    clear hb2 HX1
    go_wp2_with fail
    go_ret
    exact ⟨rfl, HB2.out⟩
  | some s =>
    have hr : reqA o = (s, 0) := by unfold reqA; rw [hl]
    rw [hr] at C1 C2
    have hs8 : B8 s ∧ s.length ≤ 400 := by
      obtain ⟨_, h2, _⟩ := preq_yes hl HK.out.tok HK.out.key HK.out.hi HK.out.val
      exact ⟨h2 ▸ plin_b8 HK.out.tok HK.out.key HK.out.hi HK.out.val, (dreq_yes hl).2.2.2⟩
    have hp : parA s = (o, 0) := by unfold parA; rw [op_line hl HK.out.tok HK.out.key HK.out.hi HK.out.val]
    have C3 := hid (fun W (hW : Below w.heap.size w W) => parse_any hs8.1 (by omega) W (HV.out.later hW))
    rw [hp] at C3
    clear hl hr HK hs8 hp HV
    generalize ofNats s = sB at *
    go_wp2_with (first | (refine wpList_load_at (by rfl) 27 _ (by rfl) ⟨w.heap.size, 0, none⟩ (by rfl) o.cells _ (cells_at HX.out) Tryd.underlying27 (by rfl) HI.out ?_) | fail)
    refine C1.out.mono ?_
    rintro e w1 ⟨rfl, hb1⟩
    have HB1 := hid (Below.on HB.out hb1)
    have HX1 := hid (keep_bel hb1 HX.out)
    clear hb1 HX
    go_wp2_with (first | (refine wpList_load_at (by rfl) 27 _ (by rfl) ⟨w.heap.size, 0, none⟩ (by rfl) o.cells _ (cells_at HX1.out) Tryd.underlying27 (by rfl) HI.out ?_) | fail)
    refine (C2.out _ HB1.out).mono ?_
    rintro e w2 ⟨rfl, hb2⟩
    have HB2 := hid (Below.on HB1.out hb2)
    have HX2 := hid (keep_bel hb2 HX1.out)
    clear hb2 HX1
    go_wp2_with fail
    refine (C3.out _ HB2.out).mono ?_
    rintro e w3 ⟨rfl, hb3⟩
    have HB3 := hid (Below.on HB2.out hb3)
    have HX3 := hid (keep_bel hb3 HX2.out)
    clear hb3 HX2 C1 C2 C3
    have HJ : Hid ((Tryd.prog.info? 27).map (·.size) = some o.cells.toArray.size) := hid infoOp
    have HS : Hid ((9 : Nat) = o.cells.toArray.size) := hid rfl
    have HO := hid (og_one o)
    obtain ⟨w4, hw4⟩ : ∃ w4, w4 = w3.alloc (.cells o.cells.toArray 27) := ⟨_, rfl⟩
    have P4 : Hid (w4.heap[w3.heap.size]? = some (.cells o.cells.toArray 27 (0, 0))) := hid (by rw [hw4]; exact heap_alloc_new w3 _)
    have X4 : Hid (w4.heap[w.heap.size]? = some (.cells o.cells.toArray 27 (0, 0))) := hid (by rw [hw4]; exact keep_bel (Below.al (Below.refl _ _) _) HX3.out)
    have HB4 : Hid (Below w.heap.size w w4) := hid (by rw [hw4]; exact Below.al HB3.out _)
    go_upto_region 8 with (first | (refine wpList_store_new (by rfl) 27 _ _ (by rfl) o.cells.toArray _ 27 (by rfl) (by rfl) HJ.out HS.out HO.out ?_) | fail)
    rw [← hw4]
    clear hw4
    have a0 : w4.cell? ⟨w3.heap.size, 0, none⟩ = some (.int .i64 o.kd) := by rw [Lib.cell_of_heap P4.out]; rfl
    have a1 : w4.cell? ⟨w3.heap.size, 1, none⟩ = some (.bool o.ro) := by rw [Lib.cell_of_heap P4.out]; rfl
    have a2 : w4.cell? ⟨w3.heap.size, 2, none⟩ = some (.bool o.asof) := by rw [Lib.cell_of_heap P4.out]; rfl
    have a3 : w4.cell? ⟨w3.heap.size, 3, none⟩ = some (.bool o.back) := by rw [Lib.cell_of_heap P4.out]; rfl
    have a4 : w4.cell? ⟨w3.heap.size, 4, none⟩ = some (.string (ofNats o.tok)) := by rw [Lib.cell_of_heap P4.out]; rfl
    have a5 : w4.cell? ⟨w3.heap.size, 5, none⟩ = some (.string (ofNats o.key)) := by rw [Lib.cell_of_heap P4.out]; rfl
    have a6 : w4.cell? ⟨w3.heap.size, 6, none⟩ = some (.string (ofNats o.hi)) := by rw [Lib.cell_of_heap P4.out]; rfl
    have a7 : w4.cell? ⟨w3.heap.size, 7, none⟩ = some (.string (ofNats o.val)) := by rw [Lib.cell_of_heap P4.out]; rfl
    have a8 : w4.cell? ⟨w3.heap.size, 8, none⟩ = some (.int .i64 o.lim) := by rw [Lib.cell_of_heap P4.out]; rfl
    have b0 : w4.cell? ⟨w.heap.size, 0, none⟩ = some (.int .i64 o.kd) := by rw [Lib.cell_of_heap X4.out]; rfl
    have b1 : w4.cell? ⟨w.heap.size, 1, none⟩ = some (.bool o.ro) := by rw [Lib.cell_of_heap X4.out]; rfl
    have b2 : w4.cell? ⟨w.heap.size, 2, none⟩ = some (.bool o.asof) := by rw [Lib.cell_of_heap X4.out]; rfl
    have b3 : w4.cell? ⟨w.heap.size, 3, none⟩ = some (.bool o.back) := by rw [Lib.cell_of_heap X4.out]; rfl
    have b4 : w4.cell? ⟨w.heap.size, 4, none⟩ = some (.string (ofNats o.tok)) := by rw [Lib.cell_of_heap X4.out]; rfl
    have b5 : w4.cell? ⟨w.heap.size, 5, none⟩ = some (.string (ofNats o.key)) := by rw [Lib.cell_of_heap X4.out]; rfl
    have b6 : w4.cell? ⟨w.heap.size, 6, none⟩ = some (.string (ofNats o.hi)) := by rw [Lib.cell_of_heap X4.out]; rfl
    have b7 : w4.cell? ⟨w.heap.size, 7, none⟩ = some (.string (ofNats o.val)) := by rw [Lib.cell_of_heap X4.out]; rfl
    have b8 : w4.cell? ⟨w.heap.size, 8, none⟩ = some (.int .i64 o.lim) := by rw [Lib.cell_of_heap X4.out]; rfl
    have hee : ∀ W, (binOp .eql 27 (.agg #[.int .i64 o.kd, .bool o.ro, .bool o.asof, .bool o.back, .string (ofNats o.tok), .string (ofNats o.key), .string (ofNats o.hi), .string (ofNats o.val), .int .i64 o.lim]) (.agg #[.int .i64 o.kd, .bool o.ro, .bool o.asof, .bool o.back, .string (ofNats o.tok), .string (ofNats o.key), .string (ofNats o.hi), .string (ofNats o.val), .int .i64 o.lim])).run Tryd.prog W = .ok (.bool true) W := fun W => run_eq_same _ _ _ _ _ _ _ _ _ W
    clear P4 X4
    go_wp2_with fail
    go_ret
    exact ⟨rfl, HB4.out⟩
end Go.Proofs.YtggmhodogfngdaaDoor.Gt
