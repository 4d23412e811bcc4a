import Derived.Test.YtogjhpknlopajaaXEOpen
/- The openings of the laws' arguments: entries and a home; two lists. -/
namespace Go.Proofs.Ytogjhpknlopajaa.Lg
open Go.ChangeShapes Go.WideShapes Go.ChangeAt Go.RowKit Go.Deep Lk
set_option linter.unusedVariables false

theorem cells_Laid : Try.prog.cellsOf 52 = 2 := by kernel_rfl
theorem cells_Two : Try.prog.cellsOf 43 = 2 := by kernel_rfl
theorem cells_ents : Try.prog.cellsOf 22 = 1 := by kernel_rfl
set_option maxRecDepth 100000 in
theorem open_laid {H : Type} {enc : TypeId × Value → H} {W : World} {r : Reach} {b : Nat} {v : Value} {d : DataW H} {p : List MemPlace}
    (hv : Value.okWide Try.prog W r b 52 v) (h : DataW.Trod enc Try.prog W 0 (fun _ => true) true 52 v d p) (hr : InReach 52 d) :
    ∃ (a : Option Addr) (c : Nat) (xs : List En) (home : Int), v = .agg #[.slice a xs.length c, .int .u32 home] ∧ RowC En.zero ecs 7 W a xs ∧ xs.length ≤ 3518437208780 ∧ xs.length ≤ c ∧ xs.length + 1 ≤ Rows.uptoBulk d := by
  obtain ⟨cs, rfl, hs⟩ := okWide_struct Try.underlying52 hv
  obtain ⟨fuel, hf⟩ := h
  obtain ⟨ys, n, hfu, hd, hl, hlen, hfld⟩ := DataW.trod_struct Try.underlying52 hf
  rw [cells_Laid] at hl
  obtain ⟨cs⟩ := cs
  simp only [Value.cells] at hl hfld
  obtain ⟨c0, c1, rfl⟩ := list2 hl
  obtain ⟨y0, y1, rfl⟩ := list2 (cs := ys) (by simpa using hlen)
  have hd1 : d = .agg [y0.1, y1.1] := by injection hd
  rw [hd1] at hr
  have s0 : ([c0, c1].drop 0).take (Try.prog.cellsOf 22) = [c0] := by rw [cells_ents]; rfl
  have g0 : DataW.trod enc Try.prog W 0 (fun _ => true) true n 22 [c0] = some y0 := by rw [← s0]; exact hfld 0 _ rfl
  obtain ⟨a, c, xs, rfl, h1, h2, h3, h4⟩ := Entry_cell g0 (hr.part Try.underlying52 (j := 0) rfl rfl)
  obtain ⟨hm, e1, _, _⟩ := DataW.trod_int Try.underlying25 (hfld 1 _ rfl)
  simp [cells_u32] at e1
  subst e1
  refine ⟨a, c, xs, hm, rfl, h2, h3, h1, ?_⟩
  have := bulk_pos y1.1
  rw [hd1]; simp only [Rows.uptoBulk, Rows.uptoBulkAll]; omega
set_option maxRecDepth 100000 in
theorem open_two {H : Type} {enc : TypeId × Value → H} {W : World} {r : Reach} {b : Nat} {v : Value} {d : DataW H} {p : List MemPlace}
    (hv : Value.okWide Try.prog W r b 43 v) (h : DataW.Trod enc Try.prog W 0 (fun _ => true) true 43 v d p) (hr : InReach 43 d) :
    ∃ (a : Option Addr) (c : Nat) (xs : List En) (a' : Option Addr) (c' : Nat) (zs : List En), v = .agg #[.slice a xs.length c, .slice a' zs.length c'] ∧ RowC En.zero ecs 7 W a xs ∧ xs.length ≤ 3518437208780 ∧ RowC En.zero ecs 7 W a' zs ∧ zs.length ≤ 3518437208780 := by
  obtain ⟨cs, rfl, hs⟩ := okWide_struct Try.underlying43 hv
  obtain ⟨fuel, hf⟩ := h
  obtain ⟨ys, n, hfu, hd, hl, hlen, hfld⟩ := DataW.trod_struct Try.underlying43 hf
  rw [cells_Two] at hl
  obtain ⟨cs⟩ := cs
  simp only [Value.cells] at hl hfld
  obtain ⟨c0, c1, rfl⟩ := list2 hl
  obtain ⟨y0, y1, rfl⟩ := list2 (cs := ys) (by simpa using hlen)
  have hd1 : d = .agg [y0.1, y1.1] := by injection hd
  rw [hd1] at hr
  have s0 : ([c0, c1].drop 0).take (Try.prog.cellsOf 22) = [c0] := by rw [cells_ents]; rfl
  have g0 : DataW.trod enc Try.prog W 0 (fun _ => true) true n 22 [c0] = some y0 := by rw [← s0]; exact hfld 0 _ rfl
  obtain ⟨a, c, xs, rfl, h1, h2, h3, h4⟩ := Entry_cell g0 (hr.part Try.underlying43 (j := 0) rfl rfl)
  have s1 : ([(Value.slice a xs.length c), c1].drop 1).take (Try.prog.cellsOf 22) = [c1] := by rw [cells_ents]; rfl
  have g1 : DataW.trod enc Try.prog W 0 (fun _ => true) true n 22 [c1] = some y1 := by rw [← s1]; exact hfld 1 _ rfl
  obtain ⟨a', c', zs, rfl, k1, k2, k3, k4⟩ := Entry_cell g1 (hr.part Try.underlying43 (j := 1) rfl rfl)
  exact ⟨a, c, xs, a', c', zs, rfl, h2, h3, k2, k3⟩
end Go.Proofs.Ytogjhpknlopajaa.Lg
