import Derived.Test.YtggmhodogfngdaaDoorGtOpN
/- Parse: the program's way. -/
namespace Go.Proofs.YtggmhodogfngdaaDoor.Gt
open Go.Proofs.YtggmhodogfngdaaDoor Go.Proofs.YtggmhodogfngdaaDoor.Rt Go.RowKit Go.Sort
set_option linter.unusedVariables false
set_option linter.unusedSimpArgs false

/-- what Parse answers -/
def parA (s : List Nat) : Og × Int := match opOf 400 s with
  | some o => (o, 0)
  | none => (Og.zero, 210)
def zeroO : Array Value := #[.int .i64 0, .bool false, .bool false, .bool false, .string ⟨#[]⟩, .string ⟨#[]⟩, .string ⟨#[]⟩, .string ⟨#[]⟩, .int .i64 0]
theorem zero_cells : Og.zero.cells.toArray = zeroO := rfl
theorem og_one (o : Og) : o.cells.toArray.all (·.oneCell') = true := one9 _ _ _ _ _ _ _ _ _
theorem fld_len : ∀ (s : List Nat) (l : List Nat), l ∈ fld s → l.length ≤ s.length
  | [], l, h => by simp [fld] at h; simp [h]
  | b :: t, l, h => by
    have ih := fld_len t
    unfold fld at h
    by_cases hb : b = 32
    · rw [if_pos hb] at h
      rcases List.mem_cons.1 h with rfl | h
      · simp
      · have := ih l h; simp; omega
    · rw [if_neg hb] at h
      cases hf : fld t with
      | nil => exact absurd hf (fld_ne t)
      | cons y r =>
        rw [hf] at h ih
        rcases List.mem_cons.1 h with rfl | h
        · have := ih y (by simp); simp; omega
        · have := ih l (by simp [h]); simp; omega
theorem fld_num : ∀ s : List Nat, (fld s).length ≤ s.length + 1
  | [] => by simp [fld]
  | b :: t => by
    have ih := fld_num t
    unfold fld
    split
    · simp; omega
    · cases hf : fld t with
      | nil => simp
      | cons y r => rw [hf] at ih; simp at ih ⊢; omega
theorem fld_tx {s : List Nat} (h8 : B8 s) (hl : s.length ≤ 400) : TxOk (fld s) := fun l hl' => ⟨fun b hb => h8 b ((fld_mem s l hl').2 b hb), by have := fld_len s l hl'; omega⟩

theorem below_row {B g : Nat} {w0 w : World} (hb : Below B w0 w) (hg : B ≤ g) (cs : Array Value) : Below B w0 (w.setRow g cs) :=
  ⟨by simpa using hb.os, by simpa using hb.tape, by simpa using hb.output, by simpa using hb.size, fun k hk => by rw [setRow_other _ _ _ _ (by omega)]; exact hb.block k hk⟩
/-- the fields as Split lays them, and their box -/
theorem split_fd {wR wS wF : World} {s : List Nat} (h8 : B8 s) (hl : s.length ≤ 400) (hS : wS = wR.alloc (.cells ((Lib.splitB ⟨#[32]⟩ 0 (Lib.countB (ofNats s) ⟨#[32]⟩) (ofNats s)).map Value.string).toArray 9))
    (hF : wF = wS.alloc (.cells #[.slice (some ⟨wR.heap.size, 0, none⟩) (Lib.countB (ofNats s) ⟨#[32]⟩ + 1) (Lib.countB (ofNats s) ⟨#[32]⟩ + 1), .bool false] FT)) : Fd wF (wR.heap.size + 1) (wR.heap.size + 1) (fld s) false := by
  have hmap := split_32 (ofNats s)
  rw [nums_ofNats h8] at hmap
  have hlen : (Lib.splitB ⟨#[32]⟩ 0 (Lib.countB (ofNats s) ⟨#[32]⟩) (ofNats s)).length = Lib.countB (ofNats s) ⟨#[32]⟩ + 1 := Lib.splitB_all _ (by decide) _ _ _ rfl
  generalize Lib.splitB ⟨#[32]⟩ 0 (Lib.countB (ofNats s) ⟨#[32]⟩) (ofNats s) = ls at *
  have hfl : (fld s).length = Lib.countB (ofNats s) ⟨#[32]⟩ + 1 := by rw [← hmap, List.length_map, hlen]
  have hfn := fld_num s
  rw [← hfl] at hF
  generalize Lib.countB (ofNats s) ⟨#[32]⟩ = n at *
  have hsS : wS.heap.size = wR.heap.size + 1 := by rw [hS]; simp
  refine ⟨some ⟨wR.heap.size, 0, none⟩, (fld s).length, ?_, Nat.le_refl _, by omega, fun i hi => ?_⟩
  · rw [hF, ← hsS]; exact heap_alloc_new wS _
  · refine ⟨wR.heap.size, 0, rfl, ⟨by omega, by omega⟩, ?_⟩
    have hi' : i < ls.length := by rw [← hmap, List.length_map] at hi; exact hi
    have hb : wF.heap[wR.heap.size]? = some (.cells (ls.map Value.string).toArray 9 (0, 0)) := by
      rw [hF, Below.heap_alloc _ _ _ (by omega), hS]; exact heap_alloc_new wR _
    rw [Nat.zero_add, Lib.cell_of_heap hb]
    have e : (fld s)[i] = nums ls[i] := by simp [← hmap]
    rw [e, ofNats_nums]
    simp [hi']

set_option maxHeartbeats 1000000 in
theorem parse_long {s : List Nat} (hl : 400 < s.length) (hl2 : s.length ≤ 9223372036854775807) (w : World) :
    Calls Tryd.prog 10 #[.string (ofNats s)] w fun e w' => e = .returned (.tuple #[.agg (parA s).1.cells.toArray, .int .i64 (parA s).2]) ∧ Below w.heap.size w w' := by
  have hsz : (ofNats s).size = s.length := ofNats_size s
  have HE : Hid (parA s = (Og.zero, 210)) := hid (by unfold parA opOf; rw [if_neg (by omega)])
  obtain ⟨wb, hwb⟩ : ∃ wb, wb = w.alloc (.cells #[.int .i64 0, .bool false, .bool false, .bool false, .string ⟨#[]⟩, .string ⟨#[]⟩, .string ⟨#[]⟩, .string ⟨#[]⟩, .int .i64 0] 27) := ⟨_, rfl⟩
  have hB : Below w.heap.size w wb := by rw [hwb]; (repeat (first | with_reducible exact Below.refl _ _ | with_reducible assumption | with_reducible refine Below.drew ?_ | with_reducible refine Below.al ?_ _ | with_reducible refine Below.setCell ?_ (by first | exact Nat.le_refl _ | (simp; omega) | (simp; done)) _ | with_reducible refine Below.on ?_ (by assumption)))
  have QZ : Hid (wb.heap[w.heap.size]? = some (.cells #[.int .i64 0, .bool false, .bool false, .bool false, .string ⟨#[]⟩, .string ⟨#[]⟩, .string ⟨#[]⟩, .string ⟨#[]⟩, .int .i64 0] 27 (0, 0))) := hid (by rw [hwb]; exact heap_alloc_new w _)
  have RZ : Hid ((wb.setRow w.heap.size #[.int .i64 0, .bool false, .bool false, .bool false, .string ⟨#[]⟩, .string ⟨#[]⟩, .string ⟨#[]⟩, .string ⟨#[]⟩, .int .i64 0]).heap[w.heap.size]? = some (.cells #[.int .i64 0, .bool false, .bool false, .bool false, .string ⟨#[]⟩, .string ⟨#[]⟩, .string ⟨#[]⟩, .string ⟨#[]⟩, .int .i64 0] 27 (0, 0))) := hid (setRow_heap _ _ _ _ _ _ QZ.out)
  have HB := hid hB
  have d1 : decide ((400 : Int) < (s.length : Int)) = true := by simp; omega
  clear hB
  go_enter Tryd.func10, Tryd.ntmps10
  go_upto_region 1 with fail
  rw [← hwb]
  clear hwb
  go_wp2_with (first | (refine wpList_store_row (by rfl) 27 _ _ (by rfl) w.heap.size #[.int .i64 0, .bool false, .bool false, .bool false, .string ⟨#[]⟩, .string ⟨#[]⟩, .string ⟨#[]⟩, .string ⟨#[]⟩, .int .i64 0] (by rfl) (by rfl) _ _ QZ.out infoOp rfl (one9 _ _ _ _ _ _ _ _ _) ?_) | fail)
  have LZ := hid (run_loadVar_at (P := Tryd.prog) _ ⟨w.heap.size, 0, none⟩ 27 [.int .i64 0, .bool false, .bool false, .bool false, .string ⟨#[]⟩, .string ⟨#[]⟩, .string ⟨#[]⟩, .string ⟨#[]⟩, .int .i64 0] _ (cells_at RZ.out) Tryd.underlying27 (by rfl) infoOp)
  refine bodyPost_ret (v := .tuple #[.agg #[.int .i64 0, .bool false, .bool false, .bool false, .string ⟨#[]⟩, .string ⟨#[]⟩, .string ⟨#[]⟩, .string ⟨#[]⟩, .int .i64 0], .int .i64 210]) (by simp [results, Tryd.results10, Act.put, asAddr, LZ.out]) rfl ?_
  exact ⟨by rw [HE.out]; rfl, below_row HB.out (Nat.le_refl _) _⟩

theorem gotA {s : List Nat} {n : Int} (h8 : B8 s) (hl : s.length ≤ 400) (hn : LimOk (hdF (nameF (fld s)).2.tail.tail) n) : gotO (opF (nameF (fld s)).1 (nameF (fld s)).2 n) = opOf 400 s := by
  unfold opOf
  rw [if_pos hl]
  refine gotO_is (fld_ne s) (fun l hl => (fld_mem s l hl).1) ?_
  intro a b c d e hB
  rw [e] at hn
  have e1 : nameF [a, b, c, d] = (a, [b, c, d]) := by simp [nameF, hdF, hB]
  rw [e1] at hn
  simpa [hdF_cons] using hn

set_option maxHeartbeats 4000000 in
set_option maxRecDepth 100000 in
theorem parse_short {s : List Nat} (h8 : B8 s) (hl : s.length ≤ 400) (w : World) (hv : Vars w) :
    Calls Tryd.prog 10 #[.string (ofNats s)] w fun e w' => e = .returned (.tuple #[.agg (parA s).1.cells.toArray, .int .i64 (parA s).2]) ∧ Below w.heap.size w w' := by
  have hsz : (ofNats s).size = s.length := ofNats_size s
  have d1 : decide ((400 : Int) < (s.length : Int)) = false := by simp; omega
  obtain ⟨m, hm⟩ := hv.max
  obtain ⟨wR, hwR⟩ : ∃ wR, wR = w.alloc (.cells #[.int .i64 0, .bool false, .bool false, .bool false, .string ⟨#[]⟩, .string ⟨#[]⟩, .string ⟨#[]⟩, .string ⟨#[]⟩, .int .i64 0] 27) := ⟨_, rfl⟩
  have hsR : wR.heap.size = w.heap.size + 1 := by rw [hwR]; simp
  have hBR : Below w.heap.size w wR := by rw [hwR]; (repeat (first | with_reducible exact Below.refl _ _ | with_reducible assumption | with_reducible refine Below.drew ?_ | with_reducible refine Below.al ?_ _ | with_reducible refine Below.setCell ?_ (by first | exact Nat.le_refl _ | (simp; omega) | (simp; done)) _ | with_reducible refine Below.on ?_ (by assumption)))
  have SP := Tryd.strings_Split (ofNats s) ⟨#[32]⟩ m wR (by omega) (cell_upon hBR hm) (by decide)
  obtain ⟨wS, hwS⟩ : ∃ wS, wS = wR.alloc (.cells ((Lib.splitB ⟨#[32]⟩ 0 (Lib.countB (ofNats s) ⟨#[32]⟩) (ofNats s)).map Value.string).toArray 9) := ⟨_, rfl⟩
  obtain ⟨wF, hwF⟩ : ∃ wF, wF = wS.alloc (.cells #[.slice (some ⟨wR.heap.size, 0, none⟩) (Lib.countB (ofNats s) ⟨#[32]⟩ + 1) (Lib.countB (ofNats s) ⟨#[32]⟩ + 1), .bool false] FT) := ⟨_, rfl⟩
  have hfd := split_fd h8 hl hwS hwF
  have hsS : wS.heap.size = wR.heap.size + 1 := by rw [hwS]; simp
  have hBS : Below w.heap.size w wS := by rw [hwS]; exact Below.al hBR _
  have hBF : Below w.heap.size w wF := by rw [hwF]; exact Below.al hBS _
  have hsF : wF.heap.size = w.heap.size + 3 := by rw [hwF]; simp; omega
  have OC := hid (op_is hv hBF (by omega) (by omega) hfd (fld_tx h8 hl))
  rw [← hwS] at SP
  have HSP := hid SP
  have hR0 : wF.heap[w.heap.size]? = some (.cells #[.int .i64 0, .bool false, .bool false, .bool false, .string ⟨#[]⟩, .string ⟨#[]⟩, .string ⟨#[]⟩, .string ⟨#[]⟩, .int .i64 0] 27 (0, 0)) := by
    rw [hwF, Below.heap_alloc _ _ _ (by omega), hwS, Below.heap_alloc _ _ _ (by omega), hwR]; exact heap_alloc_new w _
  have HR0 := hid hR0
  have HBF := hid hBF
  have H8 := hid h8
  rw [hsR] at OC HSP hwF
  clear SP hfd hBS hBR hR0 hBF hv h8 hm hwS
  generalize Lib.countB (ofNats s) ⟨#[32]⟩ = c at *
  go_enter Tryd.func10, Tryd.ntmps10
  go_upto_region 1 with fail
  rw [← hwR]
  clear hwR
  go_wp2_with fail
  refine HSP.out.mono ?_
  rintro e wx ⟨rfl, rfl⟩
  clear HSP
  go_upto_region 4 with fail
  rw [← hwF]
  clear hwF
  go_wp2_with fail
  refine OC.out.mono ?_
  rintro e w3 ⟨n, n0, n1, hlim, rfl, h3, o3⟩
  have HG := hid (gotA H8.out hl hlim)
  have HB3 := hid (Chg.bel o3 HBF.out (by omega))
  have HR3 := hid (keep_blk o3 HR0.out (by omega))
  generalize opF (nameF (fld s)).1 (nameF (fld s)).2 n = g at *
  obtain ⟨a, cap, hx⟩ := h3
  have hF3 := hx.lt
  have hl3 := hx.len
  have hc3 := hx.cap
  have HX := hid hx.box
  clear hx o3 OC hlim n0 n1 H8
  have HI : Hid ((Tryd.prog.info? 27).map (·.size) = some g.op.cells.length) := hid infoOp
  have HJ : Hid ((Tryd.prog.info? 27).map (·.size) = some g.op.cells.toArray.size) := hid infoOp
  have HS : Hid ((9 : Nat) = g.op.cells.toArray.size) := hid rfl
  have HO := hid (og_one g.op)
  obtain ⟨w5, hw5⟩ : ∃ w5, w5 = w3.alloc (.cells g.op.cells.toArray 27) := ⟨_, rfl⟩
  have H5 : Hid (w5.heap[w3.heap.size]? = some (.cells g.op.cells.toArray 27 (0, 0))) := hid (by rw [hw5]; exact heap_alloc_new w3 _)
  have HR5 : Hid (w5.heap[w.heap.size]? = some (.cells #[.int .i64 0, .bool false, .bool false, .bool false, .string ⟨#[]⟩, .string ⟨#[]⟩, .string ⟨#[]⟩, .string ⟨#[]⟩, .int .i64 0] 27 (0, 0))) := hid (by rw [hw5, Below.heap_alloc _ _ _ (by omega)]; exact HR3.out)
  have HX5 : Hid (w5.heap[w.heap.size + 1 + 1]? = some (.cells #[.slice a g.left.length cap, .bool (false || g.wrong)] FT (0, 0))) := hid (by rw [hw5, Below.heap_alloc _ _ _ hF3]; exact HX.out)
  have HB5 : Hid (Below w.heap.size w w5) := hid (by rw [hw5]; exact Below.al HB3.out _)
  go_upto_region 5 with (first | (refine wpList_store_new (by rfl) 27 _ _ (by rfl) g.op.cells.toArray _ 27 (by rfl) (by rfl) HJ.out HS.out HO.out ?_) | fail)
  rw [← hw5]
  clear hw5
  have c0 : w5.cell? ⟨w.heap.size + 1 + 1, 0, none⟩ = some (.slice a g.left.length cap) := by rw [Lib.cell_of_heap HX5.out]; rfl
  have c1 : w5.cell? ⟨w.heap.size + 1 + 1, 1, none⟩ = some (.bool (false || g.wrong)) := by rw [Lib.cell_of_heap HX5.out]; rfl
  clear HX5 HX
  cases hw : g.wrong with
  | true =>
    rw [hw] at c1
    simp only [Bool.or_true] at c1
    have QX : Hid (w5.heap[w.heap.size]? = some (.cells #[.int .i64 0, .bool false, .bool false, .bool false, .string ⟨#[]⟩, .string ⟨#[]⟩, .string ⟨#[]⟩, .string ⟨#[]⟩, .int .i64 0] 27 (0, 0))) := HR5
    have RX : Hid ((w5.setRow w.heap.size #[.int .i64 0, .bool false, .bool false, .bool false, .string ⟨#[]⟩, .string ⟨#[]⟩, .string ⟨#[]⟩, .string ⟨#[]⟩, .int .i64 0]).heap[w.heap.size]? = some (.cells #[.int .i64 0, .bool false, .bool false, .bool false, .string ⟨#[]⟩, .string ⟨#[]⟩, .string ⟨#[]⟩, .string ⟨#[]⟩, .int .i64 0] 27 (0, 0))) := hid (setRow_heap _ _ _ _ _ _ QX.out)
    have HE : Hid (parA s = (Og.zero, 210)) := hid (by unfold parA; rw [← HG.out]; unfold gotO; rw [hw]; rfl)
    go_upto_region 6 with fail
    go_wp2_with (first | (refine wpList_store_row (by rfl) 27 _ _ (by rfl) w.heap.size #[.int .i64 0, .bool false, .bool false, .bool false, .string ⟨#[]⟩, .string ⟨#[]⟩, .string ⟨#[]⟩, .string ⟨#[]⟩, .int .i64 0] (by rfl) (by rfl) _ _ QX.out infoOp rfl (one9 _ _ _ _ _ _ _ _ _) ?_) | fail)
    have LZ := hid (run_loadVar_at (P := Tryd.prog) _ ⟨w.heap.size, 0, none⟩ 27 [.int .i64 0, .bool false, .bool false, .bool false, .string ⟨#[]⟩, .string ⟨#[]⟩, .string ⟨#[]⟩, .string ⟨#[]⟩, .int .i64 0] _ (cells_at RX.out) Tryd.underlying27 (by rfl) infoOp)
    refine bodyPost_ret (v := .tuple #[.agg #[.int .i64 0, .bool false, .bool false, .bool false, .string ⟨#[]⟩, .string ⟨#[]⟩, .string ⟨#[]⟩, .string ⟨#[]⟩, .int .i64 0], .int .i64 210]) (by simp [results, Tryd.results10, Act.put, asAddr, LZ.out]) rfl ?_
    exact ⟨by rw [HE.out]; rfl, below_row HB5.out (Nat.le_refl _) _⟩
    
  | false =>
    rw [hw] at c1
    simp only [Bool.or_false] at c1
    cases hlf : g.left with
    | nil =>
      rw [hlf] at c0
      simp only [List.length_nil] at c0
      have PX : Hid (w5.heap[w3.heap.size]? = some (.cells g.op.cells.toArray 27 (0, 0))) := H5
      have QX : Hid (w5.heap[w.heap.size]? = some (.cells #[.int .i64 0, .bool false, .bool false, .bool false, .string ⟨#[]⟩, .string ⟨#[]⟩, .string ⟨#[]⟩, .string ⟨#[]⟩, .int .i64 0] 27 (0, 0))) := HR5
      have RX : Hid ((w5.setRow w.heap.size g.op.cells.toArray).heap[w.heap.size]? = some (.cells g.op.cells.toArray 27 (0, 0))) := hid (setRow_heap _ _ _ _ _ _ QX.out)
      have HE : Hid (parA s = (g.op, 0)) := hid (by unfold parA; rw [← HG.out]; unfold gotO; rw [hw, hlf]; rfl)
      go_upto_region 7 with fail
      go_wp2_with (first | (refine wpList_load_at (by rfl) 27 _ (by rfl) ⟨w3.heap.size, 0, none⟩ (by rfl) g.op.cells _ (cells_at PX.out) Tryd.underlying27 (by rfl) HI.out ?_) | (refine wpList_store_row (by rfl) 27 _ _ (by rfl) w.heap.size g.op.cells.toArray (by rfl) (by rfl) _ _ QX.out HJ.out HS.out HO.out ?_) | fail)
      have LZ := hid (run_loadVar_at (P := Tryd.prog) _ ⟨w.heap.size, 0, none⟩ 27 g.op.cells _ (cells_at RX.out) Tryd.underlying27 (by rfl) HI.out)
      refine bodyPost_ret (v := .tuple #[.agg g.op.cells.toArray, .int .i64 0]) (by simp [results, Tryd.results10, Act.put, asAddr, LZ.out]) rfl ?_
      exact ⟨by rw [HE.out], below_row HB5.out (Nat.le_refl _) _⟩
    | cons y ys =>
      rw [hlf] at c0
      simp only [List.length_cons] at c0
      rw [hlf] at hl3
      simp only [List.length_cons] at hl3
      have d2 : decide ((0 : Int) < ((ys.length : Int) + 1)) = true := decide_eq_true (by omega)
      have QX : Hid (w5.heap[w.heap.size]? = some (.cells #[.int .i64 0, .bool false, .bool false, .bool false, .string ⟨#[]⟩, .string ⟨#[]⟩, .string ⟨#[]⟩, .string ⟨#[]⟩, .int .i64 0] 27 (0, 0))) := HR5
      have RX : Hid ((w5.setRow w.heap.size #[.int .i64 0, .bool false, .bool false, .bool false, .string ⟨#[]⟩, .string ⟨#[]⟩, .string ⟨#[]⟩, .string ⟨#[]⟩, .int .i64 0]).heap[w.heap.size]? = some (.cells #[.int .i64 0, .bool false, .bool false, .bool false, .string ⟨#[]⟩, .string ⟨#[]⟩, .string ⟨#[]⟩, .string ⟨#[]⟩, .int .i64 0] 27 (0, 0))) := hid (setRow_heap _ _ _ _ _ _ QX.out)
      have HE : Hid (parA s = (Og.zero, 210)) := hid (by unfold parA; rw [← HG.out]; unfold gotO; rw [hw, hlf]; rfl)
      go_upto_region 6 with fail
      go_wp2_with (first | (refine wpList_store_row (by rfl) 27 _ _ (by rfl) w.heap.size #[.int .i64 0, .bool false, .bool false, .bool false, .string ⟨#[]⟩, .string ⟨#[]⟩, .string ⟨#[]⟩, .string ⟨#[]⟩, .int .i64 0] (by rfl) (by rfl) _ _ QX.out infoOp rfl (one9 _ _ _ _ _ _ _ _ _) ?_) | fail)
      have LZ := hid (run_loadVar_at (P := Tryd.prog) _ ⟨w.heap.size, 0, none⟩ 27 [.int .i64 0, .bool false, .bool false, .bool false, .string ⟨#[]⟩, .string ⟨#[]⟩, .string ⟨#[]⟩, .string ⟨#[]⟩, .int .i64 0] _ (cells_at RX.out) Tryd.underlying27 (by rfl) infoOp)
      refine bodyPost_ret (v := .tuple #[.agg #[.int .i64 0, .bool false, .bool false, .bool false, .string ⟨#[]⟩, .string ⟨#[]⟩, .string ⟨#[]⟩, .string ⟨#[]⟩, .int .i64 0], .int .i64 210]) (by simp [results, Tryd.results10, Act.put, asAddr, LZ.out]) rfl ?_
      exact ⟨by rw [HE.out]; rfl, below_row HB5.out (Nat.le_refl _) _⟩
      
/-- Parse at any line -/
theorem parse_any {s : List Nat} (h8 : B8 s) (hl : s.length ≤ 9223372036854775807) (w : World) (hv : Vars w) :
    Calls Tryd.prog 10 #[.string (ofNats s)] w fun e w' => e = .returned (.tuple #[.agg (parA s).1.cells.toArray, .int .i64 (parA s).2]) ∧ Below w.heap.size w w' := by
  by_cases h : s.length ≤ 400
  · exact parse_short h8 h w hv
  · exact parse_long (by omega) hl w
end Go.Proofs.YtggmhodogfngdaaDoor.Gt
