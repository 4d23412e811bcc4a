import Derived.Test.YtbgmbbmnnfmbpaaQSet
import Derived.Test.YtbgmbbmnnfmbpaaQOpen2
/- The openings: a scene. -/
namespace Go.Proofs.Ytbgmbbmnnfmbpaa.Lk
open Go.ChangeShapes Go.WideShapes Go.ChangeAt Go.RowKit Go.Deep
set_option linter.unusedVariables false

theorem cells_Scene : Try.prog.cellsOf 44 = 14 := by kernel_rfl
theorem cells_helds : Try.prog.cellsOf 32 = 1 := by kernel_rfl
theorem list14 {α : Type} {cs : List α} (h : cs.length = 14) : ∃ c0 c1 c2 c3 c4 c5 c6 c7 c8 c9 c10 c11 c12 c13, cs = [c0, c1, c2, c3, c4, c5, c6, c7, c8, c9, c10, c11, c12, c13] := by
  match cs, h with
  | [c0, c1, c2, c3, c4, c5, c6, c7, c8, c9, c10, c11, c12, c13], _ => exact ⟨c0, c1, c2, c3, c4, c5, c6, c7, c8, c9, c10, c11, c12, c13, rfl⟩
theorem Held_cell {H : Type} {enc : TypeId × Value → H} {w : World} {base fuel : Nat} {v : Value} {y : DataW H × List MemPlace} (hf : DataW.trod enc Try.prog w base (fun _ => true) true fuel 32 [v] = some y) (hr : InReach 32 y.1) :
    ∃ (a : Option Addr) (cap : Nat) (xs : List Hv), v = .slice a xs.length cap ∧ RowL w a xs ∧ (∀ x ∈ xs, x.ok w) ∧ xs.length ≤ 1759218604391 ∧ (xs.map fun x => x.h.ws.length).sum ≤ Rows.uptoBulk y.1 := by
  obtain ⟨a, cap, xs, rfl, _, _, hrow, hel⟩ := open_rows Try.underlying32 cells_Held (by decide) Hv.zero hcs (fun x d => x.ok w ∧ x.h.ws.length ≤ Rows.uptoBulk d) (fun _ _ _ h k => by obtain ⟨x, e, h1, _, _, h2⟩ := trod_Held h k; exact ⟨x, e, h1, h2⟩) hf hr
  refine ⟨a, cap, xs, rfl, hrow, ?_, ?_, ?_⟩
  · rcases hel with rfl | ⟨el, sp, _, _, e3⟩
    · simp
    · intro x hx
      obtain ⟨i, hi, rfl⟩ := List.getElem_of_mem hx
      obtain ⟨d, _, hg⟩ := e3 i hi
      simpa [hi] using hg.1
  · rcases hel with rfl | ⟨el, sp, e1, e2, _⟩
    · simp
    · rw [e1] at hr
      have := hr.len Try.underlying32 bytes_Held (by decide)
      rw [e2] at this
      simp only [reachBytes] at this
      omega
  · rcases hel with rfl | ⟨el, sp, e1, e2, e3⟩
    · simp
    · have := bulkAll_sum Hv.zero (fun x : Hv => x.h.ws.length) e2 (fun i hi => by obtain ⟨d, hd, hg⟩ := e3 i hi; exact ⟨d, hd, hg.2⟩)
      rw [e1]; simp only [Rows.uptoBulk]; omega
set_option maxRecDepth 100000 in
theorem open_scene {H : Type} {enc : TypeId × Value → H} {W : World} {r : Reach} {b : Nat} {v : Value} {d : DataW H} {p : List MemPlace}
    (hv : Value.okWide Try.prog W r b 44 v) (h : DataW.Trod enc Try.prog W 0 (fun _ => true) true 44 v d p)
    (hr : InReach 44 d) :
    ∃ (a : Option Addr) (c : Nat) (L : List Hv) (x : Hv) (s : T2) (tw tl tn : Int), v = .agg (scs a c L x s tw tl tn).toArray ∧ RowL W a L ∧ (∀ y ∈ L, y.ok W) ∧ L.length ≤ 1759218604391 ∧ x.ok W ∧ (0 ≤ x.h.id.1 ∧ x.h.id.1 ≤ 4294967295) ∧ (∀ z ∈ x.h.ws, z.key.size ≤ reachBytes) ∧ (L.map fun y => y.h.ws.length).sum ≤ Rows.uptoBulk d := by
  obtain ⟨cs, rfl, hs⟩ := okWide_struct Try.underlying44 hv
  obtain ⟨fuel, hf⟩ := h
  obtain ⟨ys, n, hfu, hd, hl, hlen, hfld⟩ := DataW.trod_struct Try.underlying44 hf
  rw [cells_Scene] at hl
  obtain ⟨cs⟩ := cs
  simp only [Value.cells] at hl hfld
  obtain ⟨c0, c1, c2, c3, c4, c5, c6, c7, c8, c9, c10, c11, c12, c13, rfl⟩ := list14 hl
  obtain ⟨y0, y1, y2, y3, rfl⟩ := list4 (cs := ys) (by simpa using hlen)
  have hd1 : d = .agg [y0.1, y1.1, y2.1, y3.1] := by injection hd
  rw [hd1] at hr
  have s0 : ([c0, c1, c2, c3, c4, c5, c6, c7, c8, c9, c10, c11, c12, c13].drop 0).take (Try.prog.cellsOf 32) = [c0] := by rw [cells_helds]; rfl
  have g0 : DataW.trod enc Try.prog W 0 (fun _ => true) true n 32 [c0] = some y0 := by rw [← s0]; exact hfld 0 _ rfl
  obtain ⟨a, c, L, rfl, h1, h2, h3, h7⟩ := Held_cell g0 (hr.part Try.underlying44 (j := 0) rfl rfl)
  obtain ⟨x, e1, h4, h5, h6, -⟩ := trod_Held (hfld 1 _ rfl) (hr.part Try.underlying44 (j := 1) rfl rfl)
  obtain ⟨s, e2⟩ := trod_Span (hfld 2 _ rfl)
  obtain ⟨tw, tl, tn, e3⟩ := trod_st (hfld 3 _ rfl)
  simp [cells_Held, cells_Span, cells_stamp] at e1 e2 e3
  obtain ⟨e1, e4, e5, e6, e7, e8, e9, e10⟩ := e1
  obtain ⟨e2, e11⟩ := e2
  obtain ⟨e3, e12, e13⟩ := e3
  subst e1 e2 e3 e4 e5 e6 e7 e8 e9 e10 e11 e12 e13
  refine ⟨a, c, L, x, s, tw, tl, tn, rfl, h1, h2, h3, h4, h5, h6, ?_⟩
  rw [hd1]; simp only [Rows.uptoBulk, Rows.uptoBulkAll]; omega
end Go.Proofs.Ytbgmbbmnnfmbpaa.Lk
