import Derived.Test.YtggmhodogfngdaaDoorGtRepLaw
import Derived.Test.YtggmhodogfngdaaDoorGtOpenO
/- An answer, opened (written by mk_gtopen.py). -/
namespace Go.Proofs.YtggmhodogfngdaaDoor.Gt
open Go.Proofs.YtggmhodogfngdaaDoor Go.Proofs.YtggmhodogfngdaaDoor.Rt Go.ChangeShapes Go.WideShapes Go.ChangeAt Go.RowKit Go.Deep
set_option linter.unusedVariables false

theorem cl_uint64 : Tryd.prog.cellsOf 29 = 1 := by kernel_rfl
theorem cl_api_Errno : Tryd.prog.cellsOf 28 = 1 := by kernel_rfl
theorem cl_Lapi_Pair : Tryd.prog.cellsOf 32 = 1 := by kernel_rfl
theorem cl_tidemark_api_Txn : Tryd.prog.cellsOf 24 = 2 := by kernel_rfl
theorem cl_api_Stamp : Tryd.prog.cellsOf 31 = 3 := by kernel_rfl
theorem cl_tidemark_api_Answer : Tryd.prog.cellsOf 34 = 18 := by kernel_rfl
theorem cl_tidemark_api_Pair : Tryd.prog.cellsOf 50 = 2 := by kernel_rfl
theorem lst7 {α : Type} {cs : List α} (h : cs.length = 7) : ∃ c0 c1 c2 c3 c4 c5 c6, cs = [c0, c1, c2, c3, c4, c5, c6] := by
  match cs, h with
  | [c0, c1, c2, c3, c4, c5, c6], _ => exact ⟨c0, c1, c2, c3, c4, c5, c6, rfl⟩
theorem lst18 {α : Type} {cs : List α} (h : cs.length = 18) : ∃ c0 c1 c2 c3 c4 c5 c6 c7 c8 c9 c10 c11 c12 c13 c14 c15 c16 c17, cs = [c0, c1, c2, c3, c4, c5, c6, c7, c8, c9, c10, c11, c12, c13, c14, c15, c16, c17] := by
  match cs, h with
  | [c0, c1, c2, c3, c4, c5, c6, c7, c8, c9, c10, c11, c12, c13, c14, c15, c16, c17], _ => exact ⟨c0, c1, c2, c3, c4, c5, c6, c7, c8, c9, c10, c11, c12, c13, c14, c15, c16, c17, rfl⟩
section
variable {H : Type} {enc : TypeId × Value → H} {w : World} {base : Nat} {fuel : Nat} {cs : List Value} {y : DataW H × List MemPlace}
theorem o_Txn (h : DataW.trod enc Tryd.prog w base (fun _ => true) true fuel 24 cs = some y) : ∃ a b : Nat, cs = [.int .u32 (a : Int), .int .u32 (b : Int)] ∧ a < 4294967296 ∧ b < 4294967296 := by
  obtain ⟨ys, n, _, rfl, hl, hlen, hf⟩ := DataW.trod_struct Tryd.underlying24 h
  rw [cl_tidemark_api_Txn] at hl
  obtain ⟨c0, c1, rfl⟩ := lst2 hl
  obtain ⟨y0, y1, rfl⟩ := lst2 (cs := ys) (by simpa using hlen)
  have s0 : ([c0, c1].drop 0).take (Tryd.prog.cellsOf 22) = [c0] := by rw [cl_uint32]; rfl
  have g0 : DataW.trod enc Tryd.prog w base (fun _ => true) true n 22 [c0] = some y0 := by rw [← s0]; exact hf 0 _ rfl
  have s1 : ([c0, c1].drop 1).take (Tryd.prog.cellsOf 22) = [c1] := by rw [cl_uint32]; rfl
  have g1 : DataW.trod enc Tryd.prog w base (fun _ => true) true n 22 [c1] = some y1 := by rw [← s1]; exact hf 1 _ rfl
  clear hf hl hlen s0 s1
  obtain ⟨a0, e0, d0, r0⟩ := DataW.trod_int Tryd.underlying22 g0
  obtain ⟨a1, e1, d1, r1⟩ := DataW.trod_int Tryd.underlying22 g1
  simp only [List.cons.injEq, and_true] at e0 e1
  subst e0 e1
  have := u32_inn r0
  have := u32_inn r1
  exact ⟨a0.toNat, a1.toNat, by rw [Int.toNat_of_nonneg (by omega), Int.toNat_of_nonneg (by omega)], by omega, by omega⟩
theorem o_Stamp (h : DataW.trod enc Tryd.prog w base (fun _ => true) true fuel 31 cs = some y) : ∃ a b c : Nat, cs = [.int .u64 (a : Int), .int .u32 (b : Int), .int .u32 (c : Int)] ∧ a < 18446744073709551616 ∧ b < 4294967296 ∧ c < 4294967296 := by
  obtain ⟨ys, n, _, rfl, hl, hlen, hf⟩ := DataW.trod_struct Tryd.underlying31 h
  rw [cl_api_Stamp] at hl
  obtain ⟨c0, c1, c2, rfl⟩ := lst3 hl
  obtain ⟨y0, y1, y2, rfl⟩ := lst3 (cs := ys) (by simpa using hlen)
  have s0 : ([c0, c1, c2].drop 0).take (Tryd.prog.cellsOf 29) = [c0] := by rw [cl_uint64]; rfl
  have g0 : DataW.trod enc Tryd.prog w base (fun _ => true) true n 29 [c0] = some y0 := by rw [← s0]; exact hf 0 _ rfl
  have s1 : ([c0, c1, c2].drop 1).take (Tryd.prog.cellsOf 22) = [c1] := by rw [cl_uint32]; rfl
  have g1 : DataW.trod enc Tryd.prog w base (fun _ => true) true n 22 [c1] = some y1 := by rw [← s1]; exact hf 1 _ rfl
  have s2 : ([c0, c1, c2].drop 2).take (Tryd.prog.cellsOf 22) = [c2] := by rw [cl_uint32]; rfl
  have g2 : DataW.trod enc Tryd.prog w base (fun _ => true) true n 22 [c2] = some y2 := by rw [← s2]; exact hf 2 _ rfl
  clear hf hl hlen s0 s1 s2
  obtain ⟨a0, e0, d0, r0⟩ := DataW.trod_int Tryd.underlying29 g0
  obtain ⟨a1, e1, d1, r1⟩ := DataW.trod_int Tryd.underlying22 g1
  obtain ⟨a2, e2, d2, r2⟩ := DataW.trod_int Tryd.underlying22 g2
  simp only [List.cons.injEq, and_true] at e0 e1 e2
  subst e0 e1 e2
  have := u64_in r0
  have := u32_inn r1
  have := u32_inn r2
  exact ⟨a0.toNat, a1.toNat, a2.toNat, by rw [Int.toNat_of_nonneg (by omega), Int.toNat_of_nonneg (by omega), Int.toNat_of_nonneg (by omega)], by omega, by omega, by omega⟩
theorem o_Pair (h : DataW.trod enc Tryd.prog w base (fun _ => true) true fuel 50 cs = some y) : ∃ x : List Nat × List Nat, cs = [.string (ofNats x.1), .string (ofNats x.2)] ∧ x.1.length + x.2.length + 2 ≤ Rows.uptoBulk y.1 ∧ B8 x.1 ∧ B8 x.2 := by
  obtain ⟨ys, n, _, rfl, hl, hlen, hf⟩ := DataW.trod_struct Tryd.underlying50 h
  rw [cl_tidemark_api_Pair] at hl
  obtain ⟨c0, c1, rfl⟩ := lst2 hl
  obtain ⟨y0, y1, rfl⟩ := lst2 (cs := ys) (by simpa using hlen)
  have s0 : ([c0, c1].drop 0).take (Tryd.prog.cellsOf 9) = [c0] := by rw [cl_string]; rfl
  have g0 : DataW.trod enc Tryd.prog w base (fun _ => true) true n 9 [c0] = some y0 := by rw [← s0]; exact hf 0 _ rfl
  have s1 : ([c0, c1].drop 1).take (Tryd.prog.cellsOf 9) = [c1] := by rw [cl_string]; rfl
  have g1 : DataW.trod enc Tryd.prog w base (fun _ => true) true n 9 [c1] = some y1 := by rw [← s1]; exact hf 1 _ rfl
  clear hf hl hlen s0 s1
  obtain ⟨a0, e0, d0, _⟩ := DataW.trod_string Tryd.underlying9 g0
  obtain ⟨a1, e1, d1, _⟩ := DataW.trod_string Tryd.underlying9 g1
  simp only [List.cons.injEq, and_true] at e0 e1
  subst e0 e1
  refine ⟨(nums a0, nums a1), by simp only [ofNats_nums], ?_, nums_b8 _, nums_b8 _⟩
  simp only [nums_length, List.map_cons, List.map_nil, d0, d1, Rows.uptoBulk, Rows.uptoBulkAll, Array.length_toList]
  have q0 : a0.size = a0.data.size := rfl
  have q1 : a1.size = a1.data.size := rfl
  omega
theorem o_Pairs {v : Value} (hf : DataW.trod enc Tryd.prog w base (fun _ => true) true fuel 32 [v] = some y) (hk : Rows.uptoBulk y.1 ≤ 1048576) :
    ∃ (a : Option Addr) (cap : Nat) (xs : List (List Nat × List Nat)), v = .slice a xs.length cap ∧ PrRow w a xs ∧ OkP xs ∧ xs.length ≤ 1048576 := by
  obtain ⟨a, cap, xs, rfl, _, _, hrow, hel⟩ := open_rows Tryd.underlying32 cl_tidemark_api_Pair (by decide) (([], []) : List Nat × List Nat) (fun x => [.string (ofNats x.1), .string (ofNats x.2)]) (fun x d => x.1.length + x.2.length + 2 ≤ Rows.uptoBulk d ∧ B8 x.1 ∧ B8 x.2) (fun _ _ _ h _ => o_Pair h) hf (.inr hk)
  have hgood : (∀ x ∈ xs, B8 x.1 ∧ B8 x.2) ∧ szP xs ≤ 1048576 ∧ xs.length ≤ 1048576 := by
    rcases hel with rfl | ⟨el, sp, e1, e2, e3⟩
    · exact ⟨fun x hx => by simp at hx, by simp [szP], by simp⟩
    · rw [e1] at hk
      simp only [Rows.uptoBulk] at hk
      have hs := bulkAll_sum (([], []) : List Nat × List Nat) (fun x => x.1.length + x.2.length + 2) e2 (fun i hi => by
        obtain ⟨d, hd, hg⟩ := e3 i hi
        exact ⟨d, hd, hg.1⟩)
      have hl := bulkAll_len el
      refine ⟨fun x hx => ?_, by unfold szP; omega, by omega⟩
      obtain ⟨i, hi, rfl⟩ := List.getElem_of_mem hx
      obtain ⟨d, _, hg⟩ := e3 i hi
      simpa [List.getElem?_eq_getElem hi] using hg.2
  refine ⟨a, cap, xs, rfl, fun i hi => ?_, ⟨hgood.1, by omega⟩, hgood.2.2⟩
  obtain ⟨b, off, e, hc⟩ := hrow i hi
  rw [List.getElem?_eq_getElem hi] at hc
  refine ⟨b, off, e, ?_, hc 1 _ rfl⟩
  have := hc 0 _ rfl
  rw [Nat.add_zero] at this
  exact this
end
set_option maxRecDepth 100000 in
theorem open_answer {H : Type} {enc : TypeId × Value → H} {W : World} {r : Reach} {b : Nat} {v : Value} {d : DataW H} {p : List MemPlace}
    (hv : Value.okWide Tryd.prog W r b 34 v) (h : DataW.Trod enc Tryd.prog W 0 (fun _ => true) true 34 v d p) (hk : Rows.uptoBulk d ≤ 1048576) :
    ∃ a : An, v = .agg a.cells ∧ a.Ok ∧ PrRow W a.pa a.pr := by
  obtain ⟨cs, rfl, hs⟩ := okWide_struct Tryd.underlying34 hv
  obtain ⟨fuel, hf0⟩ := h
  obtain ⟨cs⟩ := cs
  simp only [Value.cells] at hf0
  obtain ⟨ys, n, _, hd, hl, hlen, hf⟩ := DataW.trod_struct Tryd.underlying34 hf0
  rw [cl_tidemark_api_Answer] at hl
  obtain ⟨c0, c1, c2, c3, c4, c5, c6, c7, c8, c9, c10, c11, c12, c13, c14, c15, c16, c17, rfl⟩ := lst18 hl
  obtain ⟨y0, y1, y2, y3, y4, y5, y6, rfl⟩ := lst7 (cs := ys) (by simpa using hlen)
  have s0 : ([c0, c1, c2, c3, c4, c5, c6, c7, c8, c9, c10, c11, c12, c13, c14, c15, c16, c17].drop 0).take (Tryd.prog.cellsOf 22) = [c0] := by rw [cl_uint32]; rfl
  have g0 : DataW.trod enc Tryd.prog W 0 (fun _ => true) true n 22 [c0] = some y0 := by rw [← s0]; exact hf 0 _ rfl
  have s1 : ([c0, c1, c2, c3, c4, c5, c6, c7, c8, c9, c10, c11, c12, c13, c14, c15, c16, c17].drop 1).take (Tryd.prog.cellsOf 24) = [c1, c2] := by rw [cl_tidemark_api_Txn]; rfl
  have g1 : DataW.trod enc Tryd.prog W 0 (fun _ => true) true n 24 [c1, c2] = some y1 := by rw [← s1]; exact hf 1 _ rfl
  have s2 : ([c0, c1, c2, c3, c4, c5, c6, c7, c8, c9, c10, c11, c12, c13, c14, c15, c16, c17].drop 3).take (Tryd.prog.cellsOf 27) = [c3, c4, c5, c6, c7, c8, c9, c10, c11] := by rw [cl_tidemark_api_Op]; rfl
  have g2 : DataW.trod enc Tryd.prog W 0 (fun _ => true) true n 27 [c3, c4, c5, c6, c7, c8, c9, c10, c11] = some y2 := by rw [← s2]; exact hf 2 _ rfl
  have s3 : ([c0, c1, c2, c3, c4, c5, c6, c7, c8, c9, c10, c11, c12, c13, c14, c15, c16, c17].drop 12).take (Tryd.prog.cellsOf 28) = [c12] := by rw [cl_api_Errno]; rfl
  have g3 : DataW.trod enc Tryd.prog W 0 (fun _ => true) true n 28 [c12] = some y3 := by rw [← s3]; exact hf 3 _ rfl
  have s4 : ([c0, c1, c2, c3, c4, c5, c6, c7, c8, c9, c10, c11, c12, c13, c14, c15, c16, c17].drop 13).take (Tryd.prog.cellsOf 31) = [c13, c14, c15] := by rw [cl_api_Stamp]; rfl
  have g4 : DataW.trod enc Tryd.prog W 0 (fun _ => true) true n 31 [c13, c14, c15] = some y4 := by rw [← s4]; exact hf 4 _ rfl
  have s5 : ([c0, c1, c2, c3, c4, c5, c6, c7, c8, c9, c10, c11, c12, c13, c14, c15, c16, c17].drop 16).take (Tryd.prog.cellsOf 32) = [c16] := by rw [cl_Lapi_Pair]; rfl
  have g5 : DataW.trod enc Tryd.prog W 0 (fun _ => true) true n 32 [c16] = some y5 := by rw [← s5]; exact hf 5 _ rfl
  have s6 : ([c0, c1, c2, c3, c4, c5, c6, c7, c8, c9, c10, c11, c12, c13, c14, c15, c16, c17].drop 17).take (Tryd.prog.cellsOf 9) = [c17] := by rw [cl_string]; rfl
  have g6 : DataW.trod enc Tryd.prog W 0 (fun _ => true) true n 9 [c17] = some y6 := by rw [← s6]; exact hf 6 _ rfl
  clear hf hl hlen s0 s1 s2 s3 s4 s5 s6
  have hd1 : d = .agg ([y0, y1, y2, y3, y4, y5, y6].map (·.1)) := by injection hd
  rw [hd1] at hk
  simp only [List.map_cons, List.map_nil, Rows.uptoBulk, Rows.uptoBulkAll] at hk
  obtain ⟨a0, e0, _, r0⟩ := DataW.trod_int Tryd.underlying22 g0
  obtain ⟨tc, ts, e1, h1, h2⟩ := o_Txn g1
  obtain ⟨o, e2, ho⟩ := o_Op g2
  obtain ⟨a3, e3, _, r3⟩ := DataW.trod_int Tryd.underlying28 g3
  obtain ⟨aw, al, an, e4, h3, h4, h5⟩ := o_Stamp g4
  obtain ⟨pa, pc, pr, e5, h6, h7, h8⟩ := o_Pairs g5 (by omega)
  obtain ⟨a6, e6, d6, _⟩ := DataW.trod_string Tryd.underlying9 g6
  rw [d6] at hk
  simp only [Rows.uptoBulk, Array.length_toList] at hk
  have q6 : a6.size = a6.data.size := rfl
  simp only [Og.cells, List.cons.injEq, and_true] at e0 e1 e2 e3 e4 e6
  obtain ⟨rfl, rfl⟩ := e1
  obtain ⟨rfl, rfl, rfl, rfl, rfl, rfl, rfl, rfl, rfl⟩ := e2
  obtain ⟨rfl, rfl, rfl⟩ := e4
  subst e0 e3 e5 e6
  have k0 := u32_inn r0
  have k3 := i64_inn r3
  refine ⟨⟨a0.toNat, tc, ts, o, a3, aw, al, an, pr, pa, pc, nums a6⟩, ?_, ⟨h1, h2, k3.1, k3.2, h3, h4, h5, h7, by simp only; omega, nums_b8 _, by simp only [nums_length]; omega⟩, h6⟩
  simp only [An.cells, ofNats_nums]
  rw [Int.toNat_of_nonneg (by omega)]

end Go.Proofs.YtggmhodogfngdaaDoor.Gt
