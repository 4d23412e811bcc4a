import Derived.Test.YtpnbgdbkiokooaaDoorFoLaw
import Derived.Test.YtpnbgdbkiokooaaDoorFlOpen
import Derived.Test.YtpnbgdbkiokooaaDoorFlLaid
namespace Go.Proofs.YtpnbgdbkiokooaaDoor
open Go.ChangeShapes Go.WideShapes Go.ChangeAt Go.RowKit Go.Deep Fl
set_option linter.unusedVariables false
theorem cells_Turned : Tryd.prog.cellsOf 24 = 2 := by kernel_rfl
theorem list2f {α : Type} {cs : List α} (h : cs.length = 2) : ∃ c0 c1, cs = [c0, c1] := by
  match cs, h with
  | [c0, c1], _ => exact ⟨c0, c1, rfl⟩
set_option maxRecDepth 100000 in
theorem opened_flightOrder {H : Type} {enc : TypeId × Value → H} {W : World} {r : Reach} {b : Nat} {v : Value} {d : DataW H} {p : List MemPlace}
    (hv : Value.okWide Tryd.prog W r b 24 v) (h : DataW.Trod enc Tryd.prog W 0 (fun _ => true) true 24 v d p) (hk : Rows.uptoBulk d ≤ 1048576) (hL : laidMetH Tryd.prog theLaid W) :
    Calls Tryd.prog 3 #[v] W fun e w' => e = .returned (.bool true) ∧ Below W.heap.size W w' := by
  obtain ⟨cs, rfl, hs⟩ := okWide_struct Tryd.underlying24 hv
  obtain ⟨fuel, hf⟩ := h
  obtain ⟨ys, n, hfu, hd, hl, hlen, hfld⟩ := DataW.trod_struct Tryd.underlying24 hf
  rw [cells_Turned] at hl
  obtain ⟨cs⟩ := cs
  simp only [Value.cells] at hl hfld
  obtain ⟨c0, c1, rfl⟩ := list2f hl
  obtain ⟨y0, y1, rfl⟩ := list2f (cs := ys) (by simpa using hlen)
  have hd1 : d = .agg [y0.1, y1.1] := by injection hd
  have hr : InReach 24 d := .inr hk
  rw [hd1] at hr
  have s0 : ([c0, c1].drop 0).take (Tryd.prog.cellsOf 22) = [c0] := by rw [cells_strs]; rfl
  have g0 : DataW.trod enc Tryd.prog W 0 (fun _ => true) true n 22 [c0] = some y0 := by rw [← s0]; exact hfld 0 _ rfl
  obtain ⟨l, hrd, hbl⟩ := strs_cell g0 (hr.part Tryd.underlying24 (j := 0) rfl rfl)
  obtain ⟨t, e1, _, _⟩ := DataW.trod_int Tryd.underlying3 (hfld 1 _ rfl)
  simp [cells_i] at e1
  subst e1
  obtain ⟨a, c, e2, hc⟩ := hrd
  subst e2
  refine law_order (pow_of hL) ⟨a, c, rfl, hc⟩ rfl ?_
  rw [hd1] at hk
  simp only [Rows.uptoBulk, Rows.uptoBulkAll] at hk
  omega
end Go.Proofs.YtpnbgdbkiokooaaDoor
