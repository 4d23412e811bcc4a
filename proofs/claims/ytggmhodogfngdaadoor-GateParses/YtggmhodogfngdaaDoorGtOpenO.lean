import Derived.Test.YtggmhodogfngdaaDoorGtR
import Derived.Test.YtggmhodogfngdaaDoorOpenRows
/- An operation, opened (written by mk_gtopen.py). -/
namespace Go.Proofs.YtggmhodogfngdaaDoor.Gt
open Go.Proofs.YtggmhodogfngdaaDoor Go.Proofs.YtggmhodogfngdaaDoor.Rt Go.ChangeShapes Go.WideShapes Go.ChangeAt Go.RowKit Go.Deep
set_option linter.unusedVariables false

theorem cl_string : Tryd.prog.cellsOf 9 = 1 := by kernel_rfl
theorem cl_bool : Tryd.prog.cellsOf 4 = 1 := by kernel_rfl
theorem cl_int : Tryd.prog.cellsOf 3 = 1 := by kernel_rfl
theorem cl_uint32 : Tryd.prog.cellsOf 22 = 1 := by kernel_rfl
theorem cl_api_OpKind : Tryd.prog.cellsOf 25 = 1 := by kernel_rfl
theorem cl_tidemark_api_Op : Tryd.prog.cellsOf 27 = 9 := by kernel_rfl
theorem lst2 {α : Type} {cs : List α} (h : cs.length = 2) : ∃ c0 c1, cs = [c0, c1] := by
  match cs, h with
  | [c0, c1], _ => exact ⟨c0, c1, rfl⟩
theorem lst3 {α : Type} {cs : List α} (h : cs.length = 3) : ∃ c0 c1 c2, cs = [c0, c1, c2] := by
  match cs, h with
  | [c0, c1, c2], _ => exact ⟨c0, c1, c2, rfl⟩
theorem lst9 {α : Type} {cs : List α} (h : cs.length = 9) : ∃ c0 c1 c2 c3 c4 c5 c6 c7 c8, cs = [c0, c1, c2, c3, c4, c5, c6, c7, c8] := by
  match cs, h with
  | [c0, c1, c2, c3, c4, c5, c6, c7, c8], _ => exact ⟨c0, c1, c2, c3, c4, c5, c6, c7, c8, rfl⟩
theorem u64_in {a : Int} (h : (Lit.int .u64 a).wf = true) : 0 ≤ a ∧ a ≤ 18446744073709551615 := by
  simp [Lit.wf, IntKind.min, IntKind.max, IntKind.bits, IntKind.signed] at h; omega
theorem u32_inn {a : Int} (h : (Lit.int .u32 a).wf = true) : 0 ≤ a ∧ a ≤ 4294967295 := by
  simp [Lit.wf, IntKind.min, IntKind.max, IntKind.bits, IntKind.signed] at h; omega
theorem i64_inn {a : Int} (h : (Lit.int .i64 a).wf = true) : -9223372036854775808 ≤ a ∧ a ≤ 9223372036854775807 := by
  simp [Lit.wf, IntKind.min, IntKind.max, IntKind.bits, IntKind.signed] at h; omega
def Og.cells (o : Og) : List Value := [.int .i64 o.kd, .bool o.ro, .bool o.asof, .bool o.back, .string (ofNats o.tok), .string (ofNats o.key), .string (ofNats o.hi), .string (ofNats o.val), .int .i64 o.lim]
structure Og.Ok (o : Og) (n : Nat) : Prop where
  tok : B8 o.tok
  key : B8 o.key
  hi : B8 o.hi
  val : B8 o.val
  len : o.tok.length + o.key.length + o.hi.length + o.val.length ≤ n
  lim0 : -9223372036854775808 ≤ o.lim
  lim1 : o.lim ≤ 9223372036854775807
  kd0 : -9223372036854775808 ≤ o.kd
  kd1 : o.kd ≤ 9223372036854775807
section
variable {H : Type} {enc : TypeId × Value → H} {w : World} {base : Nat} {fuel : Nat} {cs : List Value} {y : DataW H × List MemPlace}
theorem o_Op (h : DataW.trod enc Tryd.prog w base (fun _ => true) true fuel 27 cs = some y) : ∃ o : Og, cs = o.cells ∧ o.Ok (Rows.uptoBulk y.1) := by
  obtain ⟨ys, n, _, rfl, hl, hlen, hf⟩ := DataW.trod_struct Tryd.underlying27 h
  rw [cl_tidemark_api_Op] at hl
  obtain ⟨c0, c1, c2, c3, c4, c5, c6, c7, c8, rfl⟩ := lst9 hl
  obtain ⟨y0, y1, y2, y3, y4, y5, y6, y7, y8, rfl⟩ := lst9 (cs := ys) (by simpa using hlen)
  have s0 : ([c0, c1, c2, c3, c4, c5, c6, c7, c8].drop 0).take (Tryd.prog.cellsOf 25) = [c0] := by rw [cl_api_OpKind]; rfl
  have g0 : DataW.trod enc Tryd.prog w base (fun _ => true) true n 25 [c0] = some y0 := by rw [← s0]; exact hf 0 _ rfl
  have s1 : ([c0, c1, c2, c3, c4, c5, c6, c7, c8].drop 1).take (Tryd.prog.cellsOf 4) = [c1] := by rw [cl_bool]; rfl
  have g1 : DataW.trod enc Tryd.prog w base (fun _ => true) true n 4 [c1] = some y1 := by rw [← s1]; exact hf 1 _ rfl
  have s2 : ([c0, c1, c2, c3, c4, c5, c6, c7, c8].drop 2).take (Tryd.prog.cellsOf 4) = [c2] := by rw [cl_bool]; rfl
  have g2 : DataW.trod enc Tryd.prog w base (fun _ => true) true n 4 [c2] = some y2 := by rw [← s2]; exact hf 2 _ rfl
  have s3 : ([c0, c1, c2, c3, c4, c5, c6, c7, c8].drop 3).take (Tryd.prog.cellsOf 4) = [c3] := by rw [cl_bool]; rfl
  have g3 : DataW.trod enc Tryd.prog w base (fun _ => true) true n 4 [c3] = some y3 := by rw [← s3]; exact hf 3 _ rfl
  have s4 : ([c0, c1, c2, c3, c4, c5, c6, c7, c8].drop 4).take (Tryd.prog.cellsOf 9) = [c4] := by rw [cl_string]; rfl
  have g4 : DataW.trod enc Tryd.prog w base (fun _ => true) true n 9 [c4] = some y4 := by rw [← s4]; exact hf 4 _ rfl
  have s5 : ([c0, c1, c2, c3, c4, c5, c6, c7, c8].drop 5).take (Tryd.prog.cellsOf 9) = [c5] := by rw [cl_string]; rfl
  have g5 : DataW.trod enc Tryd.prog w base (fun _ => true) true n 9 [c5] = some y5 := by rw [← s5]; exact hf 5 _ rfl
  have s6 : ([c0, c1, c2, c3, c4, c5, c6, c7, c8].drop 6).take (Tryd.prog.cellsOf 9) = [c6] := by rw [cl_string]; rfl
  have g6 : DataW.trod enc Tryd.prog w base (fun _ => true) true n 9 [c6] = some y6 := by rw [← s6]; exact hf 6 _ rfl
  have s7 : ([c0, c1, c2, c3, c4, c5, c6, c7, c8].drop 7).take (Tryd.prog.cellsOf 9) = [c7] := by rw [cl_string]; rfl
  have g7 : DataW.trod enc Tryd.prog w base (fun _ => true) true n 9 [c7] = some y7 := by rw [← s7]; exact hf 7 _ rfl
  have s8 : ([c0, c1, c2, c3, c4, c5, c6, c7, c8].drop 8).take (Tryd.prog.cellsOf 3) = [c8] := by rw [cl_int]; rfl
  have g8 : DataW.trod enc Tryd.prog w base (fun _ => true) true n 3 [c8] = some y8 := by rw [← s8]; exact hf 8 _ rfl
  clear hf hl hlen s0 s1 s2 s3 s4 s5 s6 s7 s8
  obtain ⟨a0, e0, d0, r0⟩ := DataW.trod_int Tryd.underlying25 g0
  obtain ⟨a1, e1, d1⟩ := DataW.trod_bool Tryd.underlying4 g1
  obtain ⟨a2, e2, d2⟩ := DataW.trod_bool Tryd.underlying4 g2
  obtain ⟨a3, e3, d3⟩ := DataW.trod_bool Tryd.underlying4 g3
  obtain ⟨a4, e4, d4, _⟩ := DataW.trod_string Tryd.underlying9 g4
  obtain ⟨a5, e5, d5, _⟩ := DataW.trod_string Tryd.underlying9 g5
  obtain ⟨a6, e6, d6, _⟩ := DataW.trod_string Tryd.underlying9 g6
  obtain ⟨a7, e7, d7, _⟩ := DataW.trod_string Tryd.underlying9 g7
  obtain ⟨a8, e8, d8, r8⟩ := DataW.trod_int Tryd.underlying3 g8
  simp only [List.cons.injEq, and_true] at e0 e1 e2 e3 e4 e5 e6 e7 e8
  subst e0 e1 e2 e3 e4 e5 e6 e7 e8
  refine ⟨⟨a0, a1, a2, a3, nums a4, nums a5, nums a6, nums a7, a8⟩, by simp only [Og.cells, ofNats_nums], nums_b8 _, nums_b8 _, nums_b8 _, nums_b8 _, ?_, (i64_inn r8).1, (i64_inn r8).2, (i64_inn r0).1, (i64_inn r0).2⟩
  simp only [nums_length, List.map_cons, List.map_nil, d4, d5, d6, d7, Rows.uptoBulk, Rows.uptoBulkAll, Array.length_toList]
  have q4 : a4.size = a4.data.size := rfl
  have q5 : a5.size = a5.data.size := rfl
  have q6 : a6.size = a6.data.size := rfl
  have q7 : a7.size = a7.data.size := rfl
  omega
end
end Go.Proofs.YtggmhodogfngdaaDoor.Gt
