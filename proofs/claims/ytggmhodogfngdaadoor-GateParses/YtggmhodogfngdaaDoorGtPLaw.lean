import Derived.Test.YtggmhodogfngdaaDoorGtDp
import Derived.Test.YtggmhodogfngdaaDoorGtReqW
/- The law on lines that are read (written by mk_gtdp.py). -/
namespace Go.Proofs.YtggmhodogfngdaaDoor.Gt
open Go.Proofs.YtggmhodogfngdaaDoor Go.Proofs.YtggmhodogfngdaaDoor.Rt Go.RowKit Go.Sort
set_option linter.unusedVariables false
set_option linter.unusedSimpArgs false

set_option maxHeartbeats 4000000 in
set_option maxRecDepth 100000 in
theorem law_parses {s : List Nat} (h8 : B8 s) (hl : s.length ≤ 9223372036854775807) (w : World) (hv : Vars w) :
    Calls Tryd.prog 5 #[.string (ofNats s)] w fun e w' => e = .returned (.bool true) ∧ Below w.heap.size w w' := by
  have C1 := hid (parse_any h8 hl w hv)
  have C2 := hid (fun W (hW : Below w.heap.size w W) => dparse_any h8 hl W (hv.pow.later hW))
  have HV := hid hv
  have HR : Hid (∀ W, Below w.heap.size w W → (parA s).2 = 0 → Calls Tryd.prog 8 #[.agg (parA s).1.cells.toArray] W fun e w' => e = .returned (.tuple #[.string (ofNats s), .int .i64 0]) ∧ Below W.heap.size W w') := hid (fun W hW h0 => by
    cases hq : opOf 400 s with
    | none => rw [parA_no hq] at h0; cases h0
    | some o =>
      obtain ⟨k1, k2, k3, k4, k5⟩ := line_op h8 hq
      have hs : s.length ≤ 400 := (dreq_yes k1).2.2.2
      have := request_is (par_ok h8 hs) (by omega) W (HV.out.later hW)
      have hr : reqA o = (s, 0) := by unfold reqA; rw [k1]
      rw [parA_yes hq] at this ⊢
      simp only [hr] at this
      exact this)
  have HC : Hid ((parA s).2 = 0 ∨ (parA s).2 = 210) := hid (by unfold parA; cases opOf 400 s <;> simp)
  generalize ofNats s = sB at *
  obtain ⟨q, hq⟩ : ∃ q, q = parA s := ⟨_, rfl⟩
  rw [← hq] at C1 C2 HR HC
  clear hq hv h8 hl HV
  obtain ⟨o, z⟩ := q
  simp only at C1 C2 HR HC
  have HJ : Hid ((Tryd.prog.info? 27).map (·.size) = some o.cells.toArray.size) := hid infoOp
  have HS : Hid ((9 : Nat) = o.cells.toArray.size) := hid rfl
  have HO := hid (og_one o)
  have HI : Hid ((Tryd.prog.info? 27).map (·.size) = some o.cells.length) := hid infoOp
  have hne : ∀ W, (binOp .neq 27 (.agg #[.int .i64 o.kd, .bool o.ro, .bool o.asof, .bool o.back, .string (ofNats o.tok), .string (ofNats o.key), .string (ofNats o.hi), .string (ofNats o.val), .int .i64 o.lim]) (.agg #[.int .i64 o.kd, .bool o.ro, .bool o.asof, .bool o.back, .string (ofNats o.tok), .string (ofNats o.key), .string (ofNats o.hi), .string (ofNats o.val), .int .i64 o.lim])).run Tryd.prog W = .ok (.bool false) W := fun W => neO_same o W
  go_enter Tryd.func5, Tryd.ntmps5
  go_wp2_with fail
  refine C1.out.mono ?_
  rintro e w1 ⟨rfl, hb1⟩
  obtain ⟨w2, hw2⟩ : ∃ v, v = w1.alloc (.cells o.cells.toArray 27) := ⟨_, rfl⟩
  have P2 : Hid (w2.heap[w1.heap.size]? = some (.cells o.cells.toArray 27 (0, 0))) := hid (by rw [hw2]; exact heap_alloc_new w1 _)
  have HB2 : Hid (Below w.heap.size w w2) := hid (by rw [hw2]; exact Below.al hb1 _)
  have C3 := hid (C2.out w2 HB2.out)
  clear hb1 C1 C2
  go_upto_region 2 with (first | (refine wpList_store_new (by rfl) 27 _ _ (by rfl) o.cells.toArray _ 27 (by rfl) (by rfl) HJ.out HS.out HO.out ?_) | fail)
  rw [← hw2]
  clear hw2
  go_wp2_with fail
  refine C3.out.mono ?_
  rintro e w3 ⟨rfl, hb3⟩
  have P3 := hid (keep_bl hb3 P2.out)
  have HB3 := hid (Below.on HB2.out hb3)
  obtain ⟨w4, hw4⟩ : ∃ v, v = w3.alloc (.cells o.cells.toArray 27) := ⟨_, rfl⟩
  have hb4 : Below w3.heap.size w3 w4 := by rw [hw4]; exact Below.al (Below.refl _ _) _
  have P4 := hid (keep_bl hb4 P3.out)
  have Q4 : Hid (w4.heap[w3.heap.size]? = some (.cells o.cells.toArray 27 (0, 0))) := hid (by rw [hw4]; exact heap_alloc_new w3 _)
  have HB4 := hid (Below.on HB3.out hb4)
  clear hb3 hb4 C3 P2 P3 HB2 HB3
  go_upto_region 3 with (first | (refine wpList_store_new (by rfl) 27 _ _ (by rfl) o.cells.toArray _ 27 (by rfl) (by rfl) HJ.out HS.out HO.out ?_) | fail)
  rw [← hw4]
  clear hw4
  have a0 : w4.cell? ⟨w1.heap.size, 0, none⟩ = some (.int .i64 o.kd) := by rw [Lib.cell_of_heap P4.out]; rfl
  have a1 : w4.cell? ⟨w1.heap.size, 1, none⟩ = some (.bool o.ro) := by rw [Lib.cell_of_heap P4.out]; rfl
  have a2 : w4.cell? ⟨w1.heap.size, 2, none⟩ = some (.bool o.asof) := by rw [Lib.cell_of_heap P4.out]; rfl
  have a3 : w4.cell? ⟨w1.heap.size, 3, none⟩ = some (.bool o.back) := by rw [Lib.cell_of_heap P4.out]; rfl
  have a4 : w4.cell? ⟨w1.heap.size, 4, none⟩ = some (.string (ofNats o.tok)) := by rw [Lib.cell_of_heap P4.out]; rfl
  have a5 : w4.cell? ⟨w1.heap.size, 5, none⟩ = some (.string (ofNats o.key)) := by rw [Lib.cell_of_heap P4.out]; rfl
  have a6 : w4.cell? ⟨w1.heap.size, 6, none⟩ = some (.string (ofNats o.hi)) := by rw [Lib.cell_of_heap P4.out]; rfl
  have a7 : w4.cell? ⟨w1.heap.size, 7, none⟩ = some (.string (ofNats o.val)) := by rw [Lib.cell_of_heap P4.out]; rfl
  have a8 : w4.cell? ⟨w1.heap.size, 8, none⟩ = some (.int .i64 o.lim) := by rw [Lib.cell_of_heap P4.out]; rfl
  have b0 : w4.cell? ⟨w3.heap.size, 0, none⟩ = some (.int .i64 o.kd) := by rw [Lib.cell_of_heap Q4.out]; rfl
  have b1 : w4.cell? ⟨w3.heap.size, 1, none⟩ = some (.bool o.ro) := by rw [Lib.cell_of_heap Q4.out]; rfl
  have b2 : w4.cell? ⟨w3.heap.size, 2, none⟩ = some (.bool o.asof) := by rw [Lib.cell_of_heap Q4.out]; rfl
  have b3 : w4.cell? ⟨w3.heap.size, 3, none⟩ = some (.bool o.back) := by rw [Lib.cell_of_heap Q4.out]; rfl
  have b4 : w4.cell? ⟨w3.heap.size, 4, none⟩ = some (.string (ofNats o.tok)) := by rw [Lib.cell_of_heap Q4.out]; rfl
  have b5 : w4.cell? ⟨w3.heap.size, 5, none⟩ = some (.string (ofNats o.key)) := by rw [Lib.cell_of_heap Q4.out]; rfl
  have b6 : w4.cell? ⟨w3.heap.size, 6, none⟩ = some (.string (ofNats o.hi)) := by rw [Lib.cell_of_heap Q4.out]; rfl
  have b7 : w4.cell? ⟨w3.heap.size, 7, none⟩ = some (.string (ofNats o.val)) := by rw [Lib.cell_of_heap Q4.out]; rfl
  have b8 : w4.cell? ⟨w3.heap.size, 8, none⟩ = some (.int .i64 o.lim) := by rw [Lib.cell_of_heap Q4.out]; rfl
  rcases HC.out with hz | hz
  · have C5 := hid (HR.out w4 HB4.out hz)
    have C5 : Hid (Calls Tryd.prog 8 #[.agg #[.int .i64 o.kd, .bool o.ro, .bool o.asof, .bool o.back, .string (ofNats o.tok), .string (ofNats o.key), .string (ofNats o.hi), .string (ofNats o.val), .int .i64 o.lim]] w4 fun e w' => e = .returned (.tuple #[.string sB, .int .i64 0]) ∧ Below w4.heap.size w4 w') := C5
    subst hz
    clear HR HC P4 Q4 HJ HS HO HI
    go_wp2_with fail
    refine C5.out.mono ?_
    rintro e w5 ⟨rfl, hb5⟩
    have HB5 := hid (Below.on HB4.out hb5)
    clear hb5 C5
    go_wp2_with fail
    go_ret
    exact ⟨rfl, HB5.out⟩
  · subst hz
    clear HR HC P4 Q4 HJ HS HO HI
    go_wp2_with fail
    go_ret
    exact ⟨rfl, HB4.out⟩
end Go.Proofs.YtggmhodogfngdaaDoor.Gt
