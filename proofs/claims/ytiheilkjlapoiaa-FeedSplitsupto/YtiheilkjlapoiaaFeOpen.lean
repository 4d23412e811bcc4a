import Derived.Test.YtiheilkjlapoiaaFeLaw
import Derived.Test.YtiheilkjlapoiaaOpenRows
/- The argument is opened (written by mk_feopen.py). -/
namespace Go.Proofs.Ytiheilkjlapoiaa.Lg
open Go.ChangeShapes Go.WideShapes Go.ChangeAt Go.RowKit Go.Deep Lk
set_option linter.unusedVariables false

theorem cl_string : Try.prog.cellsOf 9 = 1 := by kernel_rfl
theorem cl_bool : Try.prog.cellsOf 4 = 1 := by kernel_rfl
theorem cl_int : Try.prog.cellsOf 3 = 1 := by kernel_rfl
theorem cl_uint64 : Try.prog.cellsOf 27 = 1 := by kernel_rfl
theorem cl_uint32 : Try.prog.cellsOf 28 = 1 := by kernel_rfl
theorem cl_api_Errno : Try.prog.cellsOf 33 = 1 := by kernel_rfl
theorem cl_api_OpKind : Try.prog.cellsOf 65 = 1 := by kernel_rfl
theorem cl_api_Outcome : Try.prog.cellsOf 58 = 1 := by kernel_rfl
theorem cl_Lapi_Pair : Try.prog.cellsOf 68 = 1 := by kernel_rfl
theorem cl_Lstring : Try.prog.cellsOf 34 = 1 := by kernel_rfl
theorem cl_Lapi_Event : Try.prog.cellsOf 37 = 1 := by kernel_rfl
theorem cl_Lapi_Entry : Try.prog.cellsOf 38 = 1 := by kernel_rfl
theorem cl_Lapi_Shown : Try.prog.cellsOf 39 = 1 := by kernel_rfl
theorem cl_Lapi_Result : Try.prog.cellsOf 22 = 1 := by kernel_rfl
theorem cl_Ltidemarklaw19_Step : Try.prog.cellsOf 23 = 1 := by kernel_rfl
theorem cl_tidemark_api_Txn : Try.prog.cellsOf 57 = 2 := by kernel_rfl
theorem cl_api_Stamp : Try.prog.cellsOf 30 = 3 := by kernel_rfl
theorem cl_tidemark_api_Op : Try.prog.cellsOf 67 = 9 := by kernel_rfl
theorem cl_tidemark_api_Answer : Try.prog.cellsOf 70 = 18 := by kernel_rfl
theorem cl_tidemark_api_Event : Try.prog.cellsOf 72 = 20 := by kernel_rfl
theorem cl_tidemark_api_Entry : Try.prog.cellsOf 60 = 7 := by kernel_rfl
theorem cl_tidemark_api_Config : Try.prog.cellsOf 36 = 6 := by kernel_rfl
theorem cl_tidemark_api_Result : Try.prog.cellsOf 41 = 13 := by kernel_rfl
theorem cl_tidemarklaw19_Step : Try.prog.cellsOf 32 = 9 := by kernel_rfl
theorem cl_tidemarklaw19_FeedCase : Try.prog.cellsOf 25 = 2 := by kernel_rfl
theorem lst2 {α : Type} {cs : List α} (h : cs.length = 2) : ∃ c0 c1, cs = [c0, c1] := by
  match cs, h with
  | [c0, c1], _ => exact ⟨c0, c1, rfl⟩
theorem lst3 {α : Type} {cs : List α} (h : cs.length = 3) : ∃ c0 c1 c2, cs = [c0, c1, c2] := by
  match cs, h with
  | [c0, c1, c2], _ => exact ⟨c0, c1, c2, rfl⟩
theorem lst5 {α : Type} {cs : List α} (h : cs.length = 5) : ∃ c0 c1 c2 c3 c4, cs = [c0, c1, c2, c3, c4] := by
  match cs, h with
  | [c0, c1, c2, c3, c4], _ => exact ⟨c0, c1, c2, c3, c4, rfl⟩
theorem lst4 {α : Type} {cs : List α} (h : cs.length = 4) : ∃ c0 c1 c2 c3, cs = [c0, c1, c2, c3] := by
  match cs, h with
  | [c0, c1, c2, c3], _ => exact ⟨c0, c1, c2, c3, rfl⟩
theorem lst6 {α : Type} {cs : List α} (h : cs.length = 6) : ∃ c0 c1 c2 c3 c4 c5, cs = [c0, c1, c2, c3, c4, c5] := by
  match cs, h with
  | [c0, c1, c2, c3, c4, c5], _ => exact ⟨c0, c1, c2, c3, c4, c5, rfl⟩
theorem lst7 {α : Type} {cs : List α} (h : cs.length = 7) : ∃ c0 c1 c2 c3 c4 c5 c6, cs = [c0, c1, c2, c3, c4, c5, c6] := by
  match cs, h with
  | [c0, c1, c2, c3, c4, c5, c6], _ => exact ⟨c0, c1, c2, c3, c4, c5, c6, rfl⟩
theorem lst8 {α : Type} {cs : List α} (h : cs.length = 8) : ∃ c0 c1 c2 c3 c4 c5 c6 c7, cs = [c0, c1, c2, c3, c4, c5, c6, c7] := by
  match cs, h with
  | [c0, c1, c2, c3, c4, c5, c6, c7], _ => exact ⟨c0, c1, c2, c3, c4, c5, c6, c7, rfl⟩
theorem lst9 {α : Type} {cs : List α} (h : cs.length = 9) : ∃ c0 c1 c2 c3 c4 c5 c6 c7 c8, cs = [c0, c1, c2, c3, c4, c5, c6, c7, c8] := by
  match cs, h with
  | [c0, c1, c2, c3, c4, c5, c6, c7, c8], _ => exact ⟨c0, c1, c2, c3, c4, c5, c6, c7, c8, rfl⟩
theorem lst13 {α : Type} {cs : List α} (h : cs.length = 13) : ∃ c0 c1 c2 c3 c4 c5 c6 c7 c8 c9 c10 c11 c12, cs = [c0, c1, c2, c3, c4, c5, c6, c7, c8, c9, c10, c11, c12] := by
  match cs, h with
  | [c0, c1, c2, c3, c4, c5, c6, c7, c8, c9, c10, c11, c12], _ => exact ⟨c0, c1, c2, c3, c4, c5, c6, c7, c8, c9, c10, c11, c12, rfl⟩
theorem lst18 {α : Type} {cs : List α} (h : cs.length = 18) : ∃ c0 c1 c2 c3 c4 c5 c6 c7 c8 c9 c10 c11 c12 c13 c14 c15 c16 c17, cs = [c0, c1, c2, c3, c4, c5, c6, c7, c8, c9, c10, c11, c12, c13, c14, c15, c16, c17] := by
  match cs, h with
  | [c0, c1, c2, c3, c4, c5, c6, c7, c8, c9, c10, c11, c12, c13, c14, c15, c16, c17], _ => exact ⟨c0, c1, c2, c3, c4, c5, c6, c7, c8, c9, c10, c11, c12, c13, c14, c15, c16, c17, rfl⟩
theorem lst20 {α : Type} {cs : List α} (h : cs.length = 20) : ∃ c0 c1 c2 c3 c4 c5 c6 c7 c8 c9 c10 c11 c12 c13 c14 c15 c16 c17 c18 c19, cs = [c0, c1, c2, c3, c4, c5, c6, c7, c8, c9, c10, c11, c12, c13, c14, c15, c16, c17, c18, c19] := by
  match cs, h with
  | [c0, c1, c2, c3, c4, c5, c6, c7, c8, c9, c10, c11, c12, c13, c14, c15, c16, c17, c18, c19], _ => exact ⟨c0, c1, c2, c3, c4, c5, c6, c7, c8, c9, c10, c11, c12, c13, c14, c15, c16, c17, c18, c19, rfl⟩
section
variable {H : Type} {enc : TypeId × Value → H} {w : World} {base : Nat} {fuel : Nat} {cs : List Value} {y : DataW H × List MemPlace}
theorem any_slice {t e : TypeId} {v : Value} (ht : Try.prog.underlying t = some (.slice e)) (hf : DataW.trod enc Try.prog w base (fun _ => true) true fuel t [v] = some y) : ∃ (a : Option Addr) (n c : Nat), v = .slice a n c := by
  rcases open_slice ht hf with ⟨e3, _⟩ | ⟨a, len, cap, m, n', D, Pl, e3, _⟩
  · injection e3 with e3
    exact ⟨none, 0, 0, e3⟩
  · injection e3 with e3
    exact ⟨some a, len, cap, e3⟩
theorem o_Txn (h : DataW.trod enc Try.prog w base (fun _ => true) true fuel 57 cs = some y) : ∃ t : Ix, cs = [.int .u32 t.1, .int .u32 t.2] := by
  obtain ⟨ys, n, _, rfl, hl, hlen, hf⟩ := DataW.trod_struct Try.underlying57 h
  rw [cl_tidemark_api_Txn] at hl
  obtain ⟨c0, c1, rfl⟩ := lst2 hl
  obtain ⟨y0, y1, rfl⟩ := lst2 (cs := ys) (by simpa using hlen)
  have s0 : ([c0, c1].drop 0).take (Try.prog.cellsOf 28) = [c0] := by rw [cl_uint32]; rfl
  have g0 : DataW.trod enc Try.prog w base (fun _ => true) true n 28 [c0] = some y0 := by rw [← s0]; exact hf 0 _ rfl
  have s1 : ([c0, c1].drop 1).take (Try.prog.cellsOf 28) = [c1] := by rw [cl_uint32]; rfl
  have g1 : DataW.trod enc Try.prog w base (fun _ => true) true n 28 [c1] = some y1 := by rw [← s1]; exact hf 1 _ rfl
  clear hf hl hlen s0 s1
  obtain ⟨a0, e0, _, r0⟩ := DataW.trod_int Try.underlying28 g0
  obtain ⟨a1, e1, _, r1⟩ := DataW.trod_int Try.underlying28 g1
  simp only [List.cons.injEq, and_true] at e0 e1
  subst e0 e1
  exact ⟨(a0, a1), rfl⟩
theorem o_Stamp (h : DataW.trod enc Try.prog w base (fun _ => true) true fuel 30 cs = some y) : ∃ s : Sm, cs = [.int .u64 s.w, .int .u32 s.l, .int .u32 s.n] ∧ lesS topS s = false := by
  obtain ⟨ys, n, _, rfl, hl, hlen, hf⟩ := DataW.trod_struct Try.underlying30 h
  rw [cl_api_Stamp] at hl
  obtain ⟨c0, c1, c2, rfl⟩ := lst3 hl
  obtain ⟨y0, y1, y2, rfl⟩ := lst3 (cs := ys) (by simpa using hlen)
  have s0 : ([c0, c1, c2].drop 0).take (Try.prog.cellsOf 27) = [c0] := by rw [cl_uint64]; rfl
  have g0 : DataW.trod enc Try.prog w base (fun _ => true) true n 27 [c0] = some y0 := by rw [← s0]; exact hf 0 _ rfl
  have s1 : ([c0, c1, c2].drop 1).take (Try.prog.cellsOf 28) = [c1] := by rw [cl_uint32]; rfl
  have g1 : DataW.trod enc Try.prog w base (fun _ => true) true n 28 [c1] = some y1 := by rw [← s1]; exact hf 1 _ rfl
  have s2 : ([c0, c1, c2].drop 2).take (Try.prog.cellsOf 28) = [c2] := by rw [cl_uint32]; rfl
  have g2 : DataW.trod enc Try.prog w base (fun _ => true) true n 28 [c2] = some y2 := by rw [← s2]; exact hf 2 _ rfl
  clear hf hl hlen s0 s1 s2
  obtain ⟨a0, e0, _, r0⟩ := DataW.trod_int Try.underlying27 g0
  obtain ⟨a1, e1, _, r1⟩ := DataW.trod_int Try.underlying28 g1
  obtain ⟨a2, e2, _, r2⟩ := DataW.trod_int Try.underlying28 g2
  simp only [List.cons.injEq, and_true] at e0 e1 e2
  subst e0 e1 e2
  refine ⟨⟨a0, a1, a2⟩, rfl, ?_⟩
  simp [Lit.wf, IntKind.min, IntKind.max, IntKind.bits, IntKind.signed] at r0 r1 r2
  unfold lesS
  rw [lessB_iff_false]
  simp only
  omega
theorem o_Op (h : DataW.trod enc Try.prog w base (fun _ => true) true fuel 67 cs = some y) : ∃ (k : Int) (b1 b2 b3 : Bool) (t k1 hi v : ByteArray) (l : Int), cs = [.int .i64 k, .bool b1, .bool b2, .bool b3, .string t, .string k1, .string hi, .string v, .int .i64 l] := by
  obtain ⟨ys, n, _, rfl, hl, hlen, hf⟩ := DataW.trod_struct Try.underlying67 h
  rw [cl_tidemark_api_Op] at hl
  obtain ⟨c0, c1, c2, c3, c4, c5, c6, c7, c8, rfl⟩ := lst9 hl
  obtain ⟨y0, y1, y2, y3, y4, y5, y6, y7, y8, rfl⟩ := lst9 (cs := ys) (by simpa using hlen)
  have s0 : ([c0, c1, c2, c3, c4, c5, c6, c7, c8].drop 0).take (Try.prog.cellsOf 65) = [c0] := by rw [cl_api_OpKind]; rfl
  have g0 : DataW.trod enc Try.prog w base (fun _ => true) true n 65 [c0] = some y0 := by rw [← s0]; exact hf 0 _ rfl
  have s1 : ([c0, c1, c2, c3, c4, c5, c6, c7, c8].drop 1).take (Try.prog.cellsOf 4) = [c1] := by rw [cl_bool]; rfl
  have g1 : DataW.trod enc Try.prog w base (fun _ => true) true n 4 [c1] = some y1 := by rw [← s1]; exact hf 1 _ rfl
  have s2 : ([c0, c1, c2, c3, c4, c5, c6, c7, c8].drop 2).take (Try.prog.cellsOf 4) = [c2] := by rw [cl_bool]; rfl
  have g2 : DataW.trod enc Try.prog w base (fun _ => true) true n 4 [c2] = some y2 := by rw [← s2]; exact hf 2 _ rfl
  have s3 : ([c0, c1, c2, c3, c4, c5, c6, c7, c8].drop 3).take (Try.prog.cellsOf 4) = [c3] := by rw [cl_bool]; rfl
  have g3 : DataW.trod enc Try.prog w base (fun _ => true) true n 4 [c3] = some y3 := by rw [← s3]; exact hf 3 _ rfl
  have s4 : ([c0, c1, c2, c3, c4, c5, c6, c7, c8].drop 4).take (Try.prog.cellsOf 9) = [c4] := by rw [cl_string]; rfl
  have g4 : DataW.trod enc Try.prog w base (fun _ => true) true n 9 [c4] = some y4 := by rw [← s4]; exact hf 4 _ rfl
  have s5 : ([c0, c1, c2, c3, c4, c5, c6, c7, c8].drop 5).take (Try.prog.cellsOf 9) = [c5] := by rw [cl_string]; rfl
  have g5 : DataW.trod enc Try.prog w base (fun _ => true) true n 9 [c5] = some y5 := by rw [← s5]; exact hf 5 _ rfl
  have s6 : ([c0, c1, c2, c3, c4, c5, c6, c7, c8].drop 6).take (Try.prog.cellsOf 9) = [c6] := by rw [cl_string]; rfl
  have g6 : DataW.trod enc Try.prog w base (fun _ => true) true n 9 [c6] = some y6 := by rw [← s6]; exact hf 6 _ rfl
  have s7 : ([c0, c1, c2, c3, c4, c5, c6, c7, c8].drop 7).take (Try.prog.cellsOf 9) = [c7] := by rw [cl_string]; rfl
  have g7 : DataW.trod enc Try.prog w base (fun _ => true) true n 9 [c7] = some y7 := by rw [← s7]; exact hf 7 _ rfl
  have s8 : ([c0, c1, c2, c3, c4, c5, c6, c7, c8].drop 8).take (Try.prog.cellsOf 3) = [c8] := by rw [cl_int]; rfl
  have g8 : DataW.trod enc Try.prog w base (fun _ => true) true n 3 [c8] = some y8 := by rw [← s8]; exact hf 8 _ rfl
  clear hf hl hlen s0 s1 s2 s3 s4 s5 s6 s7 s8
  obtain ⟨a0, e0, _, r0⟩ := DataW.trod_int Try.underlying65 g0
  obtain ⟨a1, e1, _⟩ := DataW.trod_bool Try.underlying4 g1
  obtain ⟨a2, e2, _⟩ := DataW.trod_bool Try.underlying4 g2
  obtain ⟨a3, e3, _⟩ := DataW.trod_bool Try.underlying4 g3
  obtain ⟨a4, e4, _, _⟩ := DataW.trod_string Try.underlying9 g4
  obtain ⟨a5, e5, _, _⟩ := DataW.trod_string Try.underlying9 g5
  obtain ⟨a6, e6, _, _⟩ := DataW.trod_string Try.underlying9 g6
  obtain ⟨a7, e7, _, _⟩ := DataW.trod_string Try.underlying9 g7
  obtain ⟨a8, e8, _, r8⟩ := DataW.trod_int Try.underlying3 g8
  simp only [List.cons.injEq, and_true] at e0 e1 e2 e3 e4 e5 e6 e7 e8
  subst e0 e1 e2 e3 e4 e5 e6 e7 e8
  exact ⟨a0, a1, a2, a3, a4, a5, a6, a7, a8, rfl⟩
set_option maxRecDepth 100000 in
theorem o_Answer (h : DataW.trod enc Try.prog w base (fun _ => true) true fuel 70 cs = some y) : ∃ e : Ev, cs = e.acs := by
  obtain ⟨ys, n, _, rfl, hl, hlen, hf⟩ := DataW.trod_struct Try.underlying70 h
  rw [cl_tidemark_api_Answer] at hl
  obtain ⟨c0, c1, c2, c3, c4, c5, c6, c7, c8, c9, c10, c11, c12, c13, c14, c15, c16, c17, rfl⟩ := lst18 hl
  obtain ⟨y0, y1, y2, y3, y4, y5, y6, rfl⟩ := lst7 (cs := ys) (by simpa using hlen)
  have s0 : ([c0, c1, c2, c3, c4, c5, c6, c7, c8, c9, c10, c11, c12, c13, c14, c15, c16, c17].drop 0).take (Try.prog.cellsOf 28) = [c0] := by rw [cl_uint32]; rfl
  have g0 : DataW.trod enc Try.prog w base (fun _ => true) true n 28 [c0] = some y0 := by rw [← s0]; exact hf 0 _ rfl
  have s1 : ([c0, c1, c2, c3, c4, c5, c6, c7, c8, c9, c10, c11, c12, c13, c14, c15, c16, c17].drop 1).take (Try.prog.cellsOf 57) = [c1, c2] := by rw [cl_tidemark_api_Txn]; rfl
  have g1 : DataW.trod enc Try.prog w base (fun _ => true) true n 57 [c1, c2] = some y1 := by rw [← s1]; exact hf 1 _ rfl
  have s2 : ([c0, c1, c2, c3, c4, c5, c6, c7, c8, c9, c10, c11, c12, c13, c14, c15, c16, c17].drop 3).take (Try.prog.cellsOf 67) = [c3, c4, c5, c6, c7, c8, c9, c10, c11] := by rw [cl_tidemark_api_Op]; rfl
  have g2 : DataW.trod enc Try.prog w base (fun _ => true) true n 67 [c3, c4, c5, c6, c7, c8, c9, c10, c11] = some y2 := by rw [← s2]; exact hf 2 _ rfl
  have s3 : ([c0, c1, c2, c3, c4, c5, c6, c7, c8, c9, c10, c11, c12, c13, c14, c15, c16, c17].drop 12).take (Try.prog.cellsOf 33) = [c12] := by rw [cl_api_Errno]; rfl
  have g3 : DataW.trod enc Try.prog w base (fun _ => true) true n 33 [c12] = some y3 := by rw [← s3]; exact hf 3 _ rfl
  have s4 : ([c0, c1, c2, c3, c4, c5, c6, c7, c8, c9, c10, c11, c12, c13, c14, c15, c16, c17].drop 13).take (Try.prog.cellsOf 30) = [c13, c14, c15] := by rw [cl_api_Stamp]; rfl
  have g4 : DataW.trod enc Try.prog w base (fun _ => true) true n 30 [c13, c14, c15] = some y4 := by rw [← s4]; exact hf 4 _ rfl
  have s5 : ([c0, c1, c2, c3, c4, c5, c6, c7, c8, c9, c10, c11, c12, c13, c14, c15, c16, c17].drop 16).take (Try.prog.cellsOf 68) = [c16] := by rw [cl_Lapi_Pair]; rfl
  have g5 : DataW.trod enc Try.prog w base (fun _ => true) true n 68 [c16] = some y5 := by rw [← s5]; exact hf 5 _ rfl
  have s6 : ([c0, c1, c2, c3, c4, c5, c6, c7, c8, c9, c10, c11, c12, c13, c14, c15, c16, c17].drop 17).take (Try.prog.cellsOf 9) = [c17] := by rw [cl_string]; rfl
  have g6 : DataW.trod enc Try.prog w base (fun _ => true) true n 9 [c17] = some y6 := by rw [← s6]; exact hf 6 _ rfl
  clear hf hl hlen s0 s1 s2 s3 s4 s5 s6
  obtain ⟨a0, e0, _, r0⟩ := DataW.trod_int Try.underlying28 g0
  obtain ⟨a1, e1⟩ := o_Txn g1
  obtain ⟨k, b1, b2, b3, t, k1, hi, v, l, e2⟩ := o_Op g2
  obtain ⟨a3, e3, _, r3⟩ := DataW.trod_int Try.underlying33 g3
  obtain ⟨a4, e4, _⟩ := o_Stamp g4
  obtain ⟨a5, n5, k5, e5⟩ := any_slice Try.underlying68 g5
  obtain ⟨a6, e6, _, _⟩ := DataW.trod_string Try.underlying9 g6
  simp only [List.cons.injEq, and_true] at e0 e1 e2 e3 e4 e6
  obtain ⟨e1, e11⟩ := e1
  obtain ⟨e2, e21, e22, e23, e24, e25, e26, e27, e28⟩ := e2
  obtain ⟨e4, e41, e42⟩ := e4
  subst e0 e1 e11 e2 e21 e22 e23 e24 e25 e26 e27 e28 e3 e4 e41 e42 e5 e6
  exact ⟨⟨0, 0, a0, a1, k, b1, b2, b3, t, k1, hi, v, l, a3, a4.w, a4.l, a4.n, a5, n5, k5, a6⟩, rfl⟩
set_option maxRecDepth 100000 in
theorem o_Event (h : DataW.trod enc Try.prog w base (fun _ => true) true fuel 72 cs = some y) : ∃ e : Ev, cs = e.cs := by
  obtain ⟨ys, n, _, rfl, hl, hlen, hf⟩ := DataW.trod_struct Try.underlying72 h
  rw [cl_tidemark_api_Event] at hl
  obtain ⟨c0, c1, c2, c3, c4, c5, c6, c7, c8, c9, c10, c11, c12, c13, c14, c15, c16, c17, c18, c19, rfl⟩ := lst20 hl
  obtain ⟨y0, y1, y2, rfl⟩ := lst3 (cs := ys) (by simpa using hlen)
  have s0 : ([c0, c1, c2, c3, c4, c5, c6, c7, c8, c9, c10, c11, c12, c13, c14, c15, c16, c17, c18, c19].drop 0).take (Try.prog.cellsOf 3) = [c0] := by rw [cl_int]; rfl
  have g0 : DataW.trod enc Try.prog w base (fun _ => true) true n 3 [c0] = some y0 := by rw [← s0]; exact hf 0 _ rfl
  have s1 : ([c0, c1, c2, c3, c4, c5, c6, c7, c8, c9, c10, c11, c12, c13, c14, c15, c16, c17, c18, c19].drop 1).take (Try.prog.cellsOf 3) = [c1] := by rw [cl_int]; rfl
  have g1 : DataW.trod enc Try.prog w base (fun _ => true) true n 3 [c1] = some y1 := by rw [← s1]; exact hf 1 _ rfl
  have s2 : ([c0, c1, c2, c3, c4, c5, c6, c7, c8, c9, c10, c11, c12, c13, c14, c15, c16, c17, c18, c19].drop 2).take (Try.prog.cellsOf 70) = [c2, c3, c4, c5, c6, c7, c8, c9, c10, c11, c12, c13, c14, c15, c16, c17, c18, c19] := by rw [cl_tidemark_api_Answer]; rfl
  have g2 : DataW.trod enc Try.prog w base (fun _ => true) true n 70 [c2, c3, c4, c5, c6, c7, c8, c9, c10, c11, c12, c13, c14, c15, c16, c17, c18, c19] = some y2 := by rw [← s2]; exact hf 2 _ rfl
  clear hf hl hlen s0 s1 s2
  obtain ⟨a0, e0, _, r0⟩ := DataW.trod_int Try.underlying3 g0
  obtain ⟨a1, e1, _, r1⟩ := DataW.trod_int Try.underlying3 g1
  obtain ⟨x, e2⟩ := o_Answer g2
  simp only [List.cons.injEq, and_true] at e0 e1 e2
  obtain ⟨q0, q1, q2, q3, q4, q5, q6, q7, q8, q9, q10, q11, q12, q13, q14, q15, q16, q17⟩ := e2
  subst e0 e1 q0 q1 q2 q3 q4 q5 q6 q7 q8 q9 q10 q11 q12 q13 q14 q15 q16 q17
  exact ⟨{ x with asked := a0, answered := a1 }, rfl⟩
theorem o_Entry (h : DataW.trod enc Try.prog w base (fun _ => true) true fuel 60 cs = some y) : ∃ e : En, cs = ecs e := by
  obtain ⟨ys, n, _, rfl, hl, hlen, hf⟩ := DataW.trod_struct Try.underlying60 h
  rw [cl_tidemark_api_Entry] at hl
  obtain ⟨c0, c1, c2, c3, c4, c5, c6, rfl⟩ := lst7 hl
  obtain ⟨y0, y1, y2, y3, rfl⟩ := lst4 (cs := ys) (by simpa using hlen)
  have s0 : ([c0, c1, c2, c3, c4, c5, c6].drop 0).take (Try.prog.cellsOf 57) = [c0, c1] := by rw [cl_tidemark_api_Txn]; rfl
  have g0 : DataW.trod enc Try.prog w base (fun _ => true) true n 57 [c0, c1] = some y0 := by rw [← s0]; exact hf 0 _ rfl
  have s1 : ([c0, c1, c2, c3, c4, c5, c6].drop 2).take (Try.prog.cellsOf 28) = [c2] := by rw [cl_uint32]; rfl
  have g1 : DataW.trod enc Try.prog w base (fun _ => true) true n 28 [c2] = some y1 := by rw [← s1]; exact hf 1 _ rfl
  have s2 : ([c0, c1, c2, c3, c4, c5, c6].drop 3).take (Try.prog.cellsOf 58) = [c3] := by rw [cl_api_Outcome]; rfl
  have g2 : DataW.trod enc Try.prog w base (fun _ => true) true n 58 [c3] = some y2 := by rw [← s2]; exact hf 2 _ rfl
  have s3 : ([c0, c1, c2, c3, c4, c5, c6].drop 4).take (Try.prog.cellsOf 30) = [c4, c5, c6] := by rw [cl_api_Stamp]; rfl
  have g3 : DataW.trod enc Try.prog w base (fun _ => true) true n 30 [c4, c5, c6] = some y3 := by rw [← s3]; exact hf 3 _ rfl
  clear hf hl hlen s0 s1 s2 s3
  obtain ⟨a0, e0⟩ := o_Txn g0
  obtain ⟨a1, e1, _, r1⟩ := DataW.trod_int Try.underlying28 g1
  obtain ⟨a2, e2, _, r2⟩ := DataW.trod_int Try.underlying58 g2
  obtain ⟨a3, e3, _⟩ := o_Stamp g3
  simp only [List.cons.injEq, and_true] at e0 e1 e2 e3
  obtain ⟨e0, e01⟩ := e0
  obtain ⟨e3, e31, e32⟩ := e3
  subst e0 e01 e1 e2 e3 e31 e32
  exact ⟨⟨a0, a1, a2, a3.w, a3.l, a3.n⟩, rfl⟩
theorem RowEv_cell {v : Value} (hf : DataW.trod enc Try.prog w base (fun _ => true) true fuel 37 [v] = some y) (hr : InReach 37 y.1) :
    ∃ (a : Option Addr) (cap : Nat) (xs : List Ev), v = .slice a xs.length cap ∧ RowEv w a xs ∧ xs.length ≤ Rows.uptoBulk y.1 := by
  obtain ⟨a, cap, xs, rfl, _, _, hrow, hel⟩ := open_rows Try.underlying37 cl_tidemark_api_Event (by decide) Ev.zero Ev.cs (fun _ _ => True) (fun _ _ _ h _ => by obtain ⟨x, e⟩ := o_Event h; exact ⟨x, e, trivial⟩) hf hr
  refine ⟨a, cap, xs, rfl, fun i hi => ?_, ?_⟩
  · obtain ⟨b, off, e, hc⟩ := hrow i hi
    exact ⟨b, off, e, World.block_lt_of_cell? _ _ (hc 0 _ rfl), fun j u hj => hc j u hj⟩
  · rcases hel with rfl | ⟨el, sp, e1, e2, _⟩
    · simp
    · have := bulkAll_len el
      rw [e1]; simp only [Rows.uptoBulk]; omega
theorem RowE_cell {v : Value} (hf : DataW.trod enc Try.prog w base (fun _ => true) true fuel 38 [v] = some y) (hr : InReach 38 y.1) :
    ∃ (a : Option Addr) (cap : Nat) (xs : List En), v = .slice a xs.length cap ∧ RowE w a xs ∧ xs.length ≤ Rows.uptoBulk y.1 := by
  obtain ⟨a, cap, xs, rfl, _, _, hrow, hel⟩ := open_rows Try.underlying38 cl_tidemark_api_Entry (by decide) En.zero ecs (fun _ _ => True) (fun _ _ _ h _ => by obtain ⟨x, e⟩ := o_Entry h; exact ⟨x, e, trivial⟩) hf hr
  refine ⟨a, cap, xs, rfl, fun i hi => ?_, ?_⟩
  · obtain ⟨b, off, e, hc⟩ := hrow i hi
    exact ⟨b, off, e, World.block_lt_of_cell? _ _ (hc 0 _ rfl), fun j u hj => hc j u hj⟩
  · rcases hel with rfl | ⟨el, sp, e1, e2, _⟩
    · simp
    · have := bulkAll_len el
      rw [e1]; simp only [Rows.uptoBulk]; omega
theorem o_Config (h : DataW.trod enc Try.prog w base (fun _ => true) true fuel 36 cs = some y) : ∃ (s c : Int) (a : Option Addr) (n k : Nat) (p q r : Int), cs = [.int .i64 s, .int .i64 c, .slice a n k, .int .i64 p, .int .i64 q, .int .u64 r] := by
  obtain ⟨ys, n, _, rfl, hl, hlen, hf⟩ := DataW.trod_struct Try.underlying36 h
  rw [cl_tidemark_api_Config] at hl
  obtain ⟨c0, c1, c2, c3, c4, c5, rfl⟩ := lst6 hl
  obtain ⟨y0, y1, y2, y3, y4, y5, rfl⟩ := lst6 (cs := ys) (by simpa using hlen)
  have s0 : ([c0, c1, c2, c3, c4, c5].drop 0).take (Try.prog.cellsOf 3) = [c0] := by rw [cl_int]; rfl
  have g0 : DataW.trod enc Try.prog w base (fun _ => true) true n 3 [c0] = some y0 := by rw [← s0]; exact hf 0 _ rfl
  have s1 : ([c0, c1, c2, c3, c4, c5].drop 1).take (Try.prog.cellsOf 3) = [c1] := by rw [cl_int]; rfl
  have g1 : DataW.trod enc Try.prog w base (fun _ => true) true n 3 [c1] = some y1 := by rw [← s1]; exact hf 1 _ rfl
  have s2 : ([c0, c1, c2, c3, c4, c5].drop 2).take (Try.prog.cellsOf 34) = [c2] := by rw [cl_Lstring]; rfl
  have g2 : DataW.trod enc Try.prog w base (fun _ => true) true n 34 [c2] = some y2 := by rw [← s2]; exact hf 2 _ rfl
  have s3 : ([c0, c1, c2, c3, c4, c5].drop 3).take (Try.prog.cellsOf 3) = [c3] := by rw [cl_int]; rfl
  have g3 : DataW.trod enc Try.prog w base (fun _ => true) true n 3 [c3] = some y3 := by rw [← s3]; exact hf 3 _ rfl
  have s4 : ([c0, c1, c2, c3, c4, c5].drop 4).take (Try.prog.cellsOf 3) = [c4] := by rw [cl_int]; rfl
  have g4 : DataW.trod enc Try.prog w base (fun _ => true) true n 3 [c4] = some y4 := by rw [← s4]; exact hf 4 _ rfl
  have s5 : ([c0, c1, c2, c3, c4, c5].drop 5).take (Try.prog.cellsOf 27) = [c5] := by rw [cl_uint64]; rfl
  have g5 : DataW.trod enc Try.prog w base (fun _ => true) true n 27 [c5] = some y5 := by rw [← s5]; exact hf 5 _ rfl
  clear hf hl hlen s0 s1 s2 s3 s4 s5
  obtain ⟨a0, e0, _, r0⟩ := DataW.trod_int Try.underlying3 g0
  obtain ⟨a1, e1, _, r1⟩ := DataW.trod_int Try.underlying3 g1
  obtain ⟨a2, n2, k2, e2⟩ := any_slice Try.underlying34 g2
  obtain ⟨a3, e3, _, r3⟩ := DataW.trod_int Try.underlying3 g3
  obtain ⟨a4, e4, _, r4⟩ := DataW.trod_int Try.underlying3 g4
  obtain ⟨a5, e5, _, r5⟩ := DataW.trod_int Try.underlying27 g5
  simp only [List.cons.injEq, and_true] at e0 e1 e3 e4 e5
  subst e0 e1 e2 e3 e4 e5
  exact ⟨a0, a1, a2, n2, k2, a3, a4, a5, rfl⟩
set_option maxRecDepth 100000 in
theorem o_Result (h : DataW.trod enc Try.prog w base (fun _ => true) true fuel 41 cs = some y) (hr : InReach 41 y.1) : ∃ x : Rs, cs = x.r.cs ∧ RowEv w x.r.ea x.E ∧ x.E.length = x.r.en ∧ RowE w x.r.ca x.M ∧ x.M.length = x.r.cn ∧ x.r.en ≤ Rows.uptoBulk y.1 ∧ x.r.cn ≤ Rows.uptoBulk y.1 := by
  obtain ⟨ys, n, _, rfl, hl, hlen, hf⟩ := DataW.trod_struct Try.underlying41 h
  rw [cl_tidemark_api_Result] at hl
  obtain ⟨c0, c1, c2, c3, c4, c5, c6, c7, c8, c9, c10, c11, c12, rfl⟩ := lst13 hl
  obtain ⟨y0, y1, y2, y3, y4, y5, y6, y7, rfl⟩ := lst8 (cs := ys) (by simpa using hlen)
  have s0 : ([c0, c1, c2, c3, c4, c5, c6, c7, c8, c9, c10, c11, c12].drop 0).take (Try.prog.cellsOf 33) = [c0] := by rw [cl_api_Errno]; rfl
  have g0 : DataW.trod enc Try.prog w base (fun _ => true) true n 33 [c0] = some y0 := by rw [← s0]; exact hf 0 _ rfl
  have s1 : ([c0, c1, c2, c3, c4, c5, c6, c7, c8, c9, c10, c11, c12].drop 1).take (Try.prog.cellsOf 36) = [c1, c2, c3, c4, c5, c6] := by rw [cl_tidemark_api_Config]; rfl
  have g1 : DataW.trod enc Try.prog w base (fun _ => true) true n 36 [c1, c2, c3, c4, c5, c6] = some y1 := by rw [← s1]; exact hf 1 _ rfl
  have s2 : ([c0, c1, c2, c3, c4, c5, c6, c7, c8, c9, c10, c11, c12].drop 7).take (Try.prog.cellsOf 37) = [c7] := by rw [cl_Lapi_Event]; rfl
  have g2 : DataW.trod enc Try.prog w base (fun _ => true) true n 37 [c7] = some y2 := by rw [← s2]; exact hf 2 _ rfl
  have s3 : ([c0, c1, c2, c3, c4, c5, c6, c7, c8, c9, c10, c11, c12].drop 8).take (Try.prog.cellsOf 37) = [c8] := by rw [cl_Lapi_Event]; rfl
  have g3 : DataW.trod enc Try.prog w base (fun _ => true) true n 37 [c8] = some y3 := by rw [← s3]; exact hf 3 _ rfl
  have s4 : ([c0, c1, c2, c3, c4, c5, c6, c7, c8, c9, c10, c11, c12].drop 9).take (Try.prog.cellsOf 38) = [c9] := by rw [cl_Lapi_Entry]; rfl
  have g4 : DataW.trod enc Try.prog w base (fun _ => true) true n 38 [c9] = some y4 := by rw [← s4]; exact hf 4 _ rfl
  have s5 : ([c0, c1, c2, c3, c4, c5, c6, c7, c8, c9, c10, c11, c12].drop 10).take (Try.prog.cellsOf 39) = [c10] := by rw [cl_Lapi_Shown]; rfl
  have g5 : DataW.trod enc Try.prog w base (fun _ => true) true n 39 [c10] = some y5 := by rw [← s5]; exact hf 5 _ rfl
  have s6 : ([c0, c1, c2, c3, c4, c5, c6, c7, c8, c9, c10, c11, c12].drop 11).take (Try.prog.cellsOf 3) = [c11] := by rw [cl_int]; rfl
  have g6 : DataW.trod enc Try.prog w base (fun _ => true) true n 3 [c11] = some y6 := by rw [← s6]; exact hf 6 _ rfl
  have s7 : ([c0, c1, c2, c3, c4, c5, c6, c7, c8, c9, c10, c11, c12].drop 12).take (Try.prog.cellsOf 3) = [c12] := by rw [cl_int]; rfl
  have g7 : DataW.trod enc Try.prog w base (fun _ => true) true n 3 [c12] = some y7 := by rw [← s7]; exact hf 7 _ rfl
  clear hf hl hlen s0 s1 s2 s3 s4 s5 s6 s7
  have hr2 := InReach.part (ps := [y0.1, y1.1, y2.1, y3.1, y4.1, y5.1, y6.1, y7.1]) hr Try.underlying41 (j := 2) rfl rfl
  have hr4 := InReach.part (ps := [y0.1, y1.1, y2.1, y3.1, y4.1, y5.1, y6.1, y7.1]) hr Try.underlying41 (j := 4) rfl rfl
  obtain ⟨a0, e0, _, r0⟩ := DataW.trod_int Try.underlying33 g0
  obtain ⟨s, c, pa, pn, pk, p, q, r, e1⟩ := o_Config g1
  obtain ⟨a2, k2, E, e2, hE, hEl⟩ := RowEv_cell g2 hr2
  obtain ⟨a3, n3, k3, e3⟩ := any_slice Try.underlying37 g3
  obtain ⟨a4, k4, M, e4, hM, hMl⟩ := RowE_cell g4 hr4
  obtain ⟨a5, n5, k5, e5⟩ := any_slice Try.underlying39 g5
  obtain ⟨a6, e6, _, r6⟩ := DataW.trod_int Try.underlying3 g6
  obtain ⟨a7, e7, _, r7⟩ := DataW.trod_int Try.underlying3 g7
  simp only [List.cons.injEq, and_true] at e0 e1 e6 e7
  obtain ⟨e1, e11, e12, e13, e14, e15⟩ := e1
  subst e0 e1 e11 e12 e13 e14 e15 e2 e3 e4 e5 e6 e7
  refine ⟨⟨⟨a0, s, c, pa, pn, pk, p, q, r, a2, E.length, k2, a3, n3, k3, a4, M.length, k4, a5, n5, k5, a6, a7⟩, E, M⟩, rfl, hE, rfl, hM, rfl, Nat.le_trans hEl ?_, Nat.le_trans hMl ?_⟩
  · have := bulkAll_mem (l := [y0.1, y1.1, y2.1, y3.1, y4.1, y5.1, y6.1, y7.1]) (d := y2.1) (by simp)
    simp only [Rows.uptoBulk, List.map_cons, List.map_nil]
    omega
  · have := bulkAll_mem (l := [y0.1, y1.1, y2.1, y3.1, y4.1, y5.1, y6.1, y7.1]) (d := y4.1) (by simp)
    simp only [Rows.uptoBulk, List.map_cons, List.map_nil]
    omega
theorem o_Step (h : DataW.trod enc Try.prog w base (fun _ => true) true fuel 32 cs = some y) : ∃ s : Sp, cs = s.cs ∧ lesS topS s.tt = false := by
  obtain ⟨ys, n, _, rfl, hl, hlen, hf⟩ := DataW.trod_struct Try.underlying32 h
  rw [cl_tidemarklaw19_Step] at hl
  obtain ⟨c0, c1, c2, c3, c4, c5, c6, c7, c8, rfl⟩ := lst9 hl
  obtain ⟨y0, y1, y2, y3, y4, rfl⟩ := lst5 (cs := ys) (by simpa using hlen)
  have s0 : ([c0, c1, c2, c3, c4, c5, c6, c7, c8].drop 0).take (Try.prog.cellsOf 3) = [c0] := by rw [cl_int]; rfl
  have g0 : DataW.trod enc Try.prog w base (fun _ => true) true n 3 [c0] = some y0 := by rw [← s0]; exact hf 0 _ rfl
  have s1 : ([c0, c1, c2, c3, c4, c5, c6, c7, c8].drop 1).take (Try.prog.cellsOf 3) = [c1] := by rw [cl_int]; rfl
  have g1 : DataW.trod enc Try.prog w base (fun _ => true) true n 3 [c1] = some y1 := by rw [← s1]; exact hf 1 _ rfl
  have s2 : ([c0, c1, c2, c3, c4, c5, c6, c7, c8].drop 2).take (Try.prog.cellsOf 3) = [c2] := by rw [cl_int]; rfl
  have g2 : DataW.trod enc Try.prog w base (fun _ => true) true n 3 [c2] = some y2 := by rw [← s2]; exact hf 2 _ rfl
  have s3 : ([c0, c1, c2, c3, c4, c5, c6, c7, c8].drop 3).take (Try.prog.cellsOf 30) = [c3, c4, c5] := by rw [cl_api_Stamp]; rfl
  have g3 : DataW.trod enc Try.prog w base (fun _ => true) true n 30 [c3, c4, c5] = some y3 := by rw [← s3]; exact hf 3 _ rfl
  have s4 : ([c0, c1, c2, c3, c4, c5, c6, c7, c8].drop 6).take (Try.prog.cellsOf 30) = [c6, c7, c8] := by rw [cl_api_Stamp]; rfl
  have g4 : DataW.trod enc Try.prog w base (fun _ => true) true n 30 [c6, c7, c8] = some y4 := by rw [← s4]; exact hf 4 _ rfl
  clear hf hl hlen s0 s1 s2 s3 s4
  obtain ⟨a0, e0, _, r0⟩ := DataW.trod_int Try.underlying3 g0
  obtain ⟨a1, e1, _, r1⟩ := DataW.trod_int Try.underlying3 g1
  obtain ⟨a2, e2, _, r2⟩ := DataW.trod_int Try.underlying3 g2
  obtain ⟨a3, e3, _⟩ := o_Stamp g3
  obtain ⟨a4, e4, h4⟩ := o_Stamp g4
  simp only [List.cons.injEq, and_true] at e0 e1 e2 e3 e4
  obtain ⟨e3, e31, e32⟩ := e3
  obtain ⟨e4, e41, e42⟩ := e4
  subst e0 e1 e2 e3 e31 e32 e4 e41 e42
  exact ⟨⟨a0, a1, a2, a3, a4⟩, rfl, h4⟩
end
set_option maxRecDepth 100000 in
theorem opened_feedSplits {H : Type} {enc : TypeId × Value → H} {W : World} {r : Reach} {b : Nat} {v : Value} {d : DataW H} {p : List MemPlace}
    (hv : Value.okWide Try.prog W r b 25 v) (h : DataW.Trod enc Try.prog W 0 (fun _ => true) true 25 v d p) (hk : Rows.uptoBulk d ≤ 1048576) :
    Calls Try.prog 3 #[v] W fun e w' => e = .returned (.bool true) ∧ Below W.heap.size W w' := by
  obtain ⟨cs, rfl, hs⟩ := okWide_struct Try.underlying25 hv
  obtain ⟨fuel, hf⟩ := h
  obtain ⟨ys, n, hfu, hd, hl, hlen, hfld⟩ := DataW.trod_struct Try.underlying25 hf
  rw [cl_tidemarklaw19_FeedCase] at hl
  obtain ⟨cs⟩ := cs
  simp only [Value.cells] at hl hfld
  obtain ⟨c0, c1, rfl⟩ := lst2 hl
  obtain ⟨y0, y1, rfl⟩ := lst2 (cs := ys) (by simpa using hlen)
  have hd1 : d = .agg [y0.1, y1.1] := by injection hd
  have hb0 : Rows.uptoBulk y0.1 ≤ 1048576 := by
    rw [hd1] at hk
    simp only [Rows.uptoBulk, Rows.uptoBulkAll] at hk
    omega
  have hb1 : Rows.uptoBulk y1.1 ≤ 1048576 := by
    rw [hd1] at hk
    simp only [Rows.uptoBulk, Rows.uptoBulkAll] at hk
    omega
  have s0 : ([c0, c1].drop 0).take (Try.prog.cellsOf 22) = [c0] := by rw [cl_Lapi_Result]; rfl
  have g0 : DataW.trod enc Try.prog W 0 (fun _ => true) true n 22 [c0] = some y0 := by rw [← s0]; exact hfld 0 _ rfl
  have s1 : ([c0, c1].drop 1).take (Try.prog.cellsOf 23) = [c1] := by rw [cl_Ltidemarklaw19_Step]; rfl
  have g1 : DataW.trod enc Try.prog W 0 (fun _ => true) true n 23 [c1] = some y1 := by rw [← s1]; exact hfld 1 _ rfl
  obtain ⟨ra, rc, Xs, rfl, _, _, hrow, hel⟩ := open_rows Try.underlying22 cl_tidemark_api_Result (by decide) Rs.zero (fun x => x.r.cs) (fun x d => RowEv W x.r.ea x.E ∧ x.E.length = x.r.en ∧ RowE W x.r.ca x.M ∧ x.M.length = x.r.cn ∧ x.r.en ≤ Rows.uptoBulk d ∧ x.r.cn ≤ Rows.uptoBulk d) (fun _ _ _ h k => o_Result h k) g0 (.inr hb0)
  obtain ⟨sa, sc, Ss, rfl, _, _, hrow2, hel2⟩ := open_rows Try.underlying23 cl_tidemarklaw19_Step (by decide) Sp.zero Sp.cs (fun x _ => lesS topS x.tt = false) (fun _ _ _ h _ => o_Step h) g1 (.inr hb1)
  refine law_splits (Xs := Xs) (Ss := Ss) (fun i hi => ?_) rfl ?_ (fun i hi => ?_) rfl ?_
  · obtain ⟨bb, off, e, hc⟩ := hrow i hi
    refine ⟨bb, off, e, hc, ?_⟩
    rcases hel with rfl | ⟨el, sp, e1, e2, e3⟩
    · simp at hi
    · obtain ⟨dd, hdd, h1, h2, h3, h4, h5, h6⟩ := e3 i hi
      have hm := bulkAll_mem (List.mem_of_getElem? hdd)
      rw [e1] at hb0
      simp only [Rows.uptoBulk] at hb0
      exact ⟨h1, h2, h3, h4, Nat.le_trans h5 (by omega), Nat.le_trans h6 (by omega)⟩
  · rcases hel with rfl | ⟨el, sp, e1, e2, _⟩
    · simp
    · have := bulkAll_len el
      rw [e1] at hb0
      simp only [Rows.uptoBulk] at hb0
      omega
  · obtain ⟨bb, off, e, hc⟩ := hrow2 i hi
    refine ⟨bb, off, e, hc, ?_⟩
    rcases hel2 with rfl | ⟨el, sp, e1, e2, e3⟩
    · simp at hi
    · obtain ⟨dd, hdd, h1⟩ := e3 i hi
      exact h1
  · rcases hel2 with rfl | ⟨el, sp, e1, e2, _⟩
    · simp
    · have := bulkAll_len el
      rw [e1] at hb1
      simp only [Rows.uptoBulk] at hb1
      omega
end Go.Proofs.Ytiheilkjlapoiaa.Lg
