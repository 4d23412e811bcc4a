import Derived.Test.YtggmhodogfngdaaDoorGtReq
/- Request: the walk. -/
namespace Go.Proofs.YtggmhodogfngdaaDoor.Gt
open Go.Proofs.YtggmhodogfngdaaDoor Go.Proofs.YtggmhodogfngdaaDoor.Rt Go.RowKit Go.Sort
set_option linter.unusedVariables false
set_option linter.unusedSimpArgs false

set_option maxHeartbeats 2000000 in
set_option maxRecDepth 100000 in
theorem request_long {o : Og} {N : Nat} (hk : o.Ok N) (hN : N ≤ 1048576) (hl : 400 < lensO o) (w : World) :
    Calls Tryd.prog 8 #[.agg o.cells.toArray] w fun e w' => e = .returned (.tuple #[.string (ofNats (reqA o).1), .int .i64 (reqA o).2]) ∧ Below w.heap.size w w' := by
  have hlen := hk.len
  have HE : Hid (reqA o = ([], 210)) := hid (by
    unfold reqA
    cases h : lineOf 400 o with
    | none => rfl
    | some s => have := (preq_yes h hk.tok hk.key hk.hi hk.val).1; omega)
  unfold lensO at hl
  obtain ⟨wb, hwb⟩ : ∃ wb, wb = w.alloc (.cells o.cells.toArray 27) := ⟨_, rfl⟩
  have hB : Below w.heap.size w wb := by rw [hwb]; (repeat (first | with_reducible exact Below.refl _ _ | with_reducible assumption | with_reducible refine Below.drew ?_ | with_reducible refine Below.al ?_ _ | with_reducible refine Below.setCell ?_ (by first | exact Nat.le_refl _ | (simp; omega) | (simp; done)) _ | with_reducible refine Below.on ?_ (by assumption)))
  have hX : wb.heap[w.heap.size]? = some (.cells o.cells.toArray 27 (0, 0)) := by rw [hwb]; exact heap_alloc_new w _
  have q4 : wb.cell? ⟨w.heap.size, 4, none⟩ = some (.string (ofNats o.tok)) := by rw [Lib.cell_of_heap hX]; rfl
  have q5 : wb.cell? ⟨w.heap.size, 5, none⟩ = some (.string (ofNats o.key)) := by rw [Lib.cell_of_heap hX]; rfl
  have q6 : wb.cell? ⟨w.heap.size, 6, none⟩ = some (.string (ofNats o.hi)) := by rw [Lib.cell_of_heap hX]; rfl
  have q7 : wb.cell? ⟨w.heap.size, 7, none⟩ = some (.string (ofNats o.val)) := by rw [Lib.cell_of_heap hX]; rfl
  have z4 : (ofNats o.tok).size = o.tok.length := ofNats_size _
  have z5 : (ofNats o.key).size = o.key.length := ofNats_size _
  have z6 : (ofNats o.hi).size = o.hi.length := ofNats_size _
  have z7 : (ofNats o.val).size = o.val.length := ofNats_size _
  have x1 : IntKind.i64.wrap ((o.tok.length : Int) + (o.key.length : Int)) = (o.tok.length : Int) + (o.key.length : Int) := by rw [IntKind.wrap_i64]; omega
  have x2 : IntKind.i64.wrap ((o.tok.length : Int) + (o.key.length : Int) + (o.hi.length : Int)) = (o.tok.length : Int) + (o.key.length : Int) + (o.hi.length : Int) := by rw [IntKind.wrap_i64]; omega
  have x3 : IntKind.i64.wrap ((o.tok.length : Int) + (o.key.length : Int) + (o.hi.length : Int) + (o.val.length : Int)) = (o.tok.length : Int) + (o.key.length : Int) + (o.hi.length : Int) + (o.val.length : Int) := by rw [IntKind.wrap_i64]; omega
  have d1 : decide ((400 : Int) < (o.tok.length : Int) + (o.key.length : Int) + (o.hi.length : Int) + (o.val.length : Int)) = true := decide_eq_true (by omega)
  have HB := hid hB
  clear hB hX hk
  go_enter Tryd.func8, Tryd.ntmps8
  go_upto_region 1 with fail
  rw [← hwb]
  clear hwb
  go_wp2_with fail
  go_ret2
  exact ⟨by rw [HE.out]; rfl, HB.out⟩

set_option maxHeartbeats 4000000 in
set_option maxRecDepth 100000 in
theorem request_short {o : Og} {N : Nat} (hk : o.Ok N) (hN : N ≤ 1048576) (hl : lensO o ≤ 400) (w : World) (hv : Vars w) :
    Calls Tryd.prog 8 #[.agg o.cells.toArray] w fun e w' => e = .returned (.tuple #[.string (ofNats (reqA o).1), .int .i64 (reqA o).2]) ∧ Below w.heap.size w w' := by
  have hlen := hk.len
  have hp8 := plin_b8 hk.tok hk.key hk.hi hk.val
  have hpl := plin_len hk
  unfold lensO at hl
  obtain ⟨wb, hwb⟩ : ∃ wb, wb = w.alloc (.cells o.cells.toArray 27) := ⟨_, rfl⟩
  have hB : Below w.heap.size w wb := by rw [hwb]; (repeat (first | with_reducible exact Below.refl _ _ | with_reducible assumption | with_reducible refine Below.drew ?_ | with_reducible refine Below.al ?_ _ | with_reducible refine Below.setCell ?_ (by first | exact Nat.le_refl _ | (simp; omega) | (simp; done)) _ | with_reducible refine Below.on ?_ (by assumption)))
  have hX : wb.heap[w.heap.size]? = some (.cells o.cells.toArray 27 (0, 0)) := by rw [hwb]; exact heap_alloc_new w _
  have q4 : wb.cell? ⟨w.heap.size, 4, none⟩ = some (.string (ofNats o.tok)) := by rw [Lib.cell_of_heap hX]; rfl
  have q5 : wb.cell? ⟨w.heap.size, 5, none⟩ = some (.string (ofNats o.key)) := by rw [Lib.cell_of_heap hX]; rfl
  have q6 : wb.cell? ⟨w.heap.size, 6, none⟩ = some (.string (ofNats o.hi)) := by rw [Lib.cell_of_heap hX]; rfl
  have q7 : wb.cell? ⟨w.heap.size, 7, none⟩ = some (.string (ofNats o.val)) := by rw [Lib.cell_of_heap hX]; rfl
  have z4 : (ofNats o.tok).size = o.tok.length := ofNats_size _
  have z5 : (ofNats o.key).size = o.key.length := ofNats_size _
  have z6 : (ofNats o.hi).size = o.hi.length := ofNats_size _
  have z7 : (ofNats o.val).size = o.val.length := ofNats_size _
  have x1 : IntKind.i64.wrap ((o.tok.length : Int) + (o.key.length : Int)) = (o.tok.length : Int) + (o.key.length : Int) := by rw [IntKind.wrap_i64]; omega
  have x2 : IntKind.i64.wrap ((o.tok.length : Int) + (o.key.length : Int) + (o.hi.length : Int)) = (o.tok.length : Int) + (o.key.length : Int) + (o.hi.length : Int) := by rw [IntKind.wrap_i64]; omega
  have x3 : IntKind.i64.wrap ((o.tok.length : Int) + (o.key.length : Int) + (o.hi.length : Int) + (o.val.length : Int)) = (o.tok.length : Int) + (o.key.length : Int) + (o.hi.length : Int) + (o.val.length : Int) := by rw [IntKind.wrap_i64]; omega
  have d1 : decide ((400 : Int) < (o.tok.length : Int) + (o.key.length : Int) + (o.hi.length : Int) + (o.val.length : Int)) = false := decide_eq_false (by omega)
  have CL := hid (line_is hk hN wb (hv.later hB).pow)
  have CP := hid (fun W (hW : Below w.heap.size w W) => parse_any hp8 (by omega) W (hv.later hW))
  have HB := hid hB
  have HX := hid hX
  have HI : Hid ((Tryd.prog.info? 27).map (·.size) = some o.cells.length) := hid infoOp
  -- what was read, and what comes of it
  have HOK : Hid ((plin o).length ≤ 400 → (parA (plin o)).1.Ok 400) := hid (fun h => par_ok hp8 h)
  have HA : Hid (((parA (plin o)).2 = 0 ∧ (parA (plin o)).1 = o ∧ reqA o = (plin o, 0)) ∨ ((parA (plin o)).2 = 0 ∧ (parA (plin o)).1 ≠ o ∧ (plin o).length ≤ 400 ∧ reqA o = ([], 210)) ∨ ((parA (plin o)).2 = 210 ∧ reqA o = ([], 210))) := hid (by
    unfold parA reqA
    cases hp : opOf 400 (plin o) with
    | none =>
      refine .inr (.inr ⟨rfl, ?_⟩)
      cases h : lineOf 400 o with
      | none => rfl
      | some s => have := (preq_yes h hk.tok hk.key hk.hi hk.val).2.2; rw [hp] at this; cases this
    | some p =>
      by_cases e : p = o
      · subst e
        refine .inl ⟨rfl, rfl, ?_⟩
        rw [(line_op hp8 hp).1]
      · refine .inr (.inl ⟨rfl, e, ?_, ?_⟩)
        · unfold opOf at hp
          split at hp
          · assumption
          · cases hp
        · cases h : lineOf 400 o with
          | none => rfl
          | some s => have := (preq_yes h hk.tok hk.key hk.hi hk.val).2.2; rw [hp] at this; injection this with this; exact absurd this e)
  have HK := hid hk
  clear hB hX hk hv hp8 hpl hl
  generalize hg : parA (plin o) = g at *
  obtain ⟨p, cd⟩ := g
  simp only at HA HOK
  have HL0 := hid (plin_len HK.out)
  clear hg
  generalize plin o = L at *
  generalize hrq : reqA o = rq at *
  obtain ⟨rs, rc⟩ := rq
  clear hrq
  go_enter Tryd.func8, Tryd.ntmps8
  go_upto_region 1 with fail
  rw [← hwb]
  clear hwb
  go_upto_region 3 with fail
  go_wp2_with (first | (refine wpList_load_at (by rfl) 27 _ (by rfl) ⟨w.heap.size, 0, none⟩ (by rfl) o.cells _ (cells_at HX.out) Tryd.underlying27 (by rfl) HI.out ?_) | fail)
  refine CL.out.mono ?_
  rintro e w1 ⟨rfl, hb1⟩
  have B1 := hid (Below.on HB.out hb1)
  have X1 : Hid (w1.heap[w.heap.size]? = some (.cells o.cells.toArray 27 (0, 0))) := hid (keep_blk (F := w1.heap.size + 1) (Onl.of_below hb1) HX.out (by have := HB.out.size; have := B1.out.size; omega))
  clear hb1 CL HX q4 q5 q6 q7 x1 x2 x3 d1
  go_wp2_with fail
  refine (CP.out _ B1.out).mono ?_
  rintro e w2 ⟨rfl, hb2⟩
  have B2 := hid (Below.on B1.out hb2)
  have X2 : Hid (w2.heap[w.heap.size]? = some (.cells o.cells.toArray 27 (0, 0))) := hid (keep_blk (F := w2.heap.size + 1) (Onl.of_below hb2) X1.out (by have := B1.out.size; have := B2.out.size; omega))
  clear hb2 CP X1
  have HJ : Hid ((Tryd.prog.info? 27).map (·.size) = some p.cells.toArray.size) := hid infoOp
  have HIp : Hid ((Tryd.prog.info? 27).map (·.size) = some p.cells.length) := hid infoOp
  have HS : Hid ((9 : Nat) = p.cells.toArray.size) := hid rfl
  have HO := hid (og_one p)
  obtain ⟨w3, hw3⟩ : ∃ w3, w3 = w2.alloc (.cells p.cells.toArray 27) := ⟨_, rfl⟩
  have hw2s : w.heap.size < w2.heap.size := by
    rcases Nat.lt_or_ge w.heap.size w2.heap.size with h' | h'
    · exact h'
    · have := X2.out; simp [Array.getElem?_eq_none h'] at this
  have P3 : Hid (w3.heap[w2.heap.size]? = some (.cells p.cells.toArray 27 (0, 0))) := hid (by rw [hw3]; exact heap_alloc_new w2 _)
  have X3 : Hid (w3.heap[w.heap.size]? = some (.cells o.cells.toArray 27 (0, 0))) := hid (by rw [hw3, Below.heap_alloc _ _ _ hw2s]; exact X2.out)
  have B3 : Hid (Below w.heap.size w w3) := hid (by rw [hw3]; exact Below.al B2.out _)
  go_upto_region 5 with (first | (refine wpList_store_new (by rfl) 27 _ _ (by rfl) p.cells.toArray _ 27 (by rfl) (by rfl) HJ.out HS.out HO.out ?_) | fail)
  rw [← hw3]
  clear hw3
  rcases HA.out with ⟨rfl, hpo, hr⟩ | ⟨rfl, hpo, hl4, hr⟩ | ⟨rfl, hr⟩
  · subst hpo
    have a0 : w3.cell? ⟨w2.heap.size, 0, none⟩ = some (.int .i64 p.kd) := by rw [Lib.cell_of_heap P3.out]; rfl
    have a1 : w3.cell? ⟨w2.heap.size, 1, none⟩ = some (.bool p.ro) := by rw [Lib.cell_of_heap P3.out]; rfl
    have a2 : w3.cell? ⟨w2.heap.size, 2, none⟩ = some (.bool p.asof) := by rw [Lib.cell_of_heap P3.out]; rfl
    have a3 : w3.cell? ⟨w2.heap.size, 3, none⟩ = some (.bool p.back) := by rw [Lib.cell_of_heap P3.out]; rfl
    have a4 : w3.cell? ⟨w2.heap.size, 4, none⟩ = some (.string (ofNats p.tok)) := by rw [Lib.cell_of_heap P3.out]; rfl
    have a5 : w3.cell? ⟨w2.heap.size, 5, none⟩ = some (.string (ofNats p.key)) := by rw [Lib.cell_of_heap P3.out]; rfl
    have a6 : w3.cell? ⟨w2.heap.size, 6, none⟩ = some (.string (ofNats p.hi)) := by rw [Lib.cell_of_heap P3.out]; rfl
    have a7 : w3.cell? ⟨w2.heap.size, 7, none⟩ = some (.string (ofNats p.val)) := by rw [Lib.cell_of_heap P3.out]; rfl
    have a8 : w3.cell? ⟨w2.heap.size, 8, none⟩ = some (.int .i64 p.lim) := by rw [Lib.cell_of_heap P3.out]; rfl
    have b0 : w3.cell? ⟨w.heap.size, 0, none⟩ = some (.int .i64 p.kd) := by rw [Lib.cell_of_heap X3.out]; rfl
    have b1 : w3.cell? ⟨w.heap.size, 1, none⟩ = some (.bool p.ro) := by rw [Lib.cell_of_heap X3.out]; rfl
    have b2 : w3.cell? ⟨w.heap.size, 2, none⟩ = some (.bool p.asof) := by rw [Lib.cell_of_heap X3.out]; rfl
    have b3 : w3.cell? ⟨w.heap.size, 3, none⟩ = some (.bool p.back) := by rw [Lib.cell_of_heap X3.out]; rfl
    have b4 : w3.cell? ⟨w.heap.size, 4, none⟩ = some (.string (ofNats p.tok)) := by rw [Lib.cell_of_heap X3.out]; rfl
    have b5 : w3.cell? ⟨w.heap.size, 5, none⟩ = some (.string (ofNats p.key)) := by rw [Lib.cell_of_heap X3.out]; rfl
    have b6 : w3.cell? ⟨w.heap.size, 6, none⟩ = some (.string (ofNats p.hi)) := by rw [Lib.cell_of_heap X3.out]; rfl
    have b7 : w3.cell? ⟨w.heap.size, 7, none⟩ = some (.string (ofNats p.val)) := by rw [Lib.cell_of_heap X3.out]; rfl
    have b8 : w3.cell? ⟨w.heap.size, 8, none⟩ = some (.int .i64 p.lim) := by rw [Lib.cell_of_heap X3.out]; rfl
    have hne : ∀ W, (binOp .neq 27 (.agg #[.int .i64 p.kd, .bool p.ro, .bool p.asof, .bool p.back, .string (ofNats p.tok), .string (ofNats p.key), .string (ofNats p.hi), .string (ofNats p.val), .int .i64 p.lim]) (.agg #[.int .i64 p.kd, .bool p.ro, .bool p.asof, .bool p.back, .string (ofNats p.tok), .string (ofNats p.key), .string (ofNats p.hi), .string (ofNats p.val), .int .i64 p.lim])).run Tryd.prog W = .ok (.bool false) W := fun W => neO_same p W
    have HR := hid hr
    clear hr HA HOK HK P3 X3
    go_wp2_with fail
    go_ret2
    exact ⟨by injection HR.out with e1 e2; rw [e1, e2]; rfl, B3.out⟩
  · have hne : ∀ W, (binOp .neq 27 (.agg #[.int .i64 p.kd, .bool p.ro, .bool p.asof, .bool p.back, .string (ofNats p.tok), .string (ofNats p.key), .string (ofNats p.hi), .string (ofNats p.val), .int .i64 p.lim]) (.agg #[.int .i64 o.kd, .bool o.ro, .bool o.asof, .bool o.back, .string (ofNats o.tok), .string (ofNats o.key), .string (ofNats o.hi), .string (ofNats o.val), .int .i64 o.lim])).run Tryd.prog W = .ok (.bool true) W := fun W => neO_other (HOK.out hl4) HK.out hpo W
    have a0 : w3.cell? ⟨w2.heap.size, 0, none⟩ = some (.int .i64 p.kd) := by rw [Lib.cell_of_heap P3.out]; rfl
    have a1 : w3.cell? ⟨w2.heap.size, 1, none⟩ = some (.bool p.ro) := by rw [Lib.cell_of_heap P3.out]; rfl
    have a2 : w3.cell? ⟨w2.heap.size, 2, none⟩ = some (.bool p.asof) := by rw [Lib.cell_of_heap P3.out]; rfl
    have a3 : w3.cell? ⟨w2.heap.size, 3, none⟩ = some (.bool p.back) := by rw [Lib.cell_of_heap P3.out]; rfl
    have a4 : w3.cell? ⟨w2.heap.size, 4, none⟩ = some (.string (ofNats p.tok)) := by rw [Lib.cell_of_heap P3.out]; rfl
    have a5 : w3.cell? ⟨w2.heap.size, 5, none⟩ = some (.string (ofNats p.key)) := by rw [Lib.cell_of_heap P3.out]; rfl
    have a6 : w3.cell? ⟨w2.heap.size, 6, none⟩ = some (.string (ofNats p.hi)) := by rw [Lib.cell_of_heap P3.out]; rfl
    have a7 : w3.cell? ⟨w2.heap.size, 7, none⟩ = some (.string (ofNats p.val)) := by rw [Lib.cell_of_heap P3.out]; rfl
    have a8 : w3.cell? ⟨w2.heap.size, 8, none⟩ = some (.int .i64 p.lim) := by rw [Lib.cell_of_heap P3.out]; rfl
    have b0 : w3.cell? ⟨w.heap.size, 0, none⟩ = some (.int .i64 o.kd) := by rw [Lib.cell_of_heap X3.out]; rfl
    have b1 : w3.cell? ⟨w.heap.size, 1, none⟩ = some (.bool o.ro) := by rw [Lib.cell_of_heap X3.out]; rfl
    have b2 : w3.cell? ⟨w.heap.size, 2, none⟩ = some (.bool o.asof) := by rw [Lib.cell_of_heap X3.out]; rfl
    have b3 : w3.cell? ⟨w.heap.size, 3, none⟩ = some (.bool o.back) := by rw [Lib.cell_of_heap X3.out]; rfl
    have b4 : w3.cell? ⟨w.heap.size, 4, none⟩ = some (.string (ofNats o.tok)) := by rw [Lib.cell_of_heap X3.out]; rfl
    have b5 : w3.cell? ⟨w.heap.size, 5, none⟩ = some (.string (ofNats o.key)) := by rw [Lib.cell_of_heap X3.out]; rfl
    have b6 : w3.cell? ⟨w.heap.size, 6, none⟩ = some (.string (ofNats o.hi)) := by rw [Lib.cell_of_heap X3.out]; rfl
    have b7 : w3.cell? ⟨w.heap.size, 7, none⟩ = some (.string (ofNats o.val)) := by rw [Lib.cell_of_heap X3.out]; rfl
    have b8 : w3.cell? ⟨w.heap.size, 8, none⟩ = some (.int .i64 o.lim) := by rw [Lib.cell_of_heap X3.out]; rfl
    have HR := hid hr
    clear hr HA HOK HK hpo P3 X3
    go_wp2_with fail
    go_ret2
    exact ⟨by injection HR.out with e1 e2; rw [e1, e2]; rfl, B3.out⟩
  · have HR := hid hr
    clear hr HA HOK HK
    go_wp2_with fail
    go_ret2
    exact ⟨by injection HR.out with e1 e2; rw [e1, e2]; rfl, B3.out⟩
theorem request_is {o : Og} {N : Nat} (hk : o.Ok N) (hN : N ≤ 1048576) (w : World) (hv : Vars w) :
    Calls Tryd.prog 8 #[.agg o.cells.toArray] w fun e w' => e = .returned (.tuple #[.string (ofNats (reqA o).1), .int .i64 (reqA o).2]) ∧ Below w.heap.size w w' := by
  by_cases h : lensO o ≤ 400
  · exact request_short hk hN h w hv
  · exact request_long hk hN (by omega) w
end Go.Proofs.YtggmhodogfngdaaDoor.Gt
