import Derived.Test.YtpnbgdbkiokooaaDoorFwLaw
import Derived.Test.YtpnbgdbkiokooaaDoorFwLaid
import Derived.Test.YtpnbgdbkiokooaaDoorOpenRows
/- One list and a turn, opened; as far as the reach goes. -/
namespace Go.Proofs.YtpnbgdbkiokooaaDoor
open Go.ChangeShapes Go.WideShapes Go.ChangeAt Go.RowKit Go.Deep Fw
set_option linter.unusedVariables false
theorem cells_str : Tryd.prog.cellsOf 9 = 1 := by kernel_rfl
theorem cells_i : Tryd.prog.cellsOf 3 = 1 := by kernel_rfl
theorem cells_strs : Tryd.prog.cellsOf 22 = 1 := by kernel_rfl
theorem cells_Turned : Tryd.prog.cellsOf 24 = 2 := by kernel_rfl
theorem list2f {α : Type} {cs : List α} (h : cs.length = 2) : ∃ c0 c1, cs = [c0, c1] := by
  match cs, h with
  | [c0, c1], _ => exact ⟨c0, c1, rfl⟩
theorem strs_reach {H : Type} {enc : TypeId × Value → H} {w : World} {base fuel : Nat} {y : DataW H × List MemPlace} {v : Value} (hf : DataW.trod enc Tryd.prog w base (fun _ => true) true fuel 22 [v] = some y) (hr : InReach 22 y.1) :
    ∃ l : List ByteArray, Rd w v l ∧ l.length ≤ 8796093022208 := by
  obtain ⟨a, cap, xs, rfl, hcap, _, hrow, hel⟩ := open_rows Tryd.underlying22 cells_str (by decide) (⟨#[]⟩ : ByteArray) (fun x => [.string x]) (fun _ _ => True) (fun _ _ _ h _ => by obtain ⟨x, e, _, _⟩ := DataW.trod_string Tryd.underlying9 h; exact ⟨x, e, trivial⟩) hf hr
  refine ⟨xs, ⟨a, cap, rfl, fun i t e => ?_⟩, ?_⟩
  · have hi : i < xs.length := (List.getElem?_eq_some_iff.1 e).1
    obtain ⟨b, off, ha, hc⟩ := hrow i hi
    refine ⟨b, off, ha, ?_⟩
    have := hc 0 (.string t) (by rw [e]; rfl)
    simpa using this
  · rcases hel with rfl | ⟨el, sp, e1, e2, _⟩
    · simp
    · rw [e1] at hr
      have := hr.len Tryd.underlying22 (n := 16) (by kernel_rfl) (by decide)
      simp only [reachBytes] at this
      omega
set_option maxRecDepth 100000 in
theorem opened_flightOrder {H : Type} {enc : TypeId × Value → H} {W : World} {r : Reach} {b : Nat} {v : Value} {d : DataW H} {p : List MemPlace}
    (hv : Value.okWide Tryd.prog W r b 24 v) (h : DataW.Trod enc Tryd.prog W 0 (fun _ => true) true 24 v d p) (hr : InReach 24 d) (hP : PowTab W) :
    Calls Tryd.prog 3 #[v] W fun e w' => e = .returned (.bool true) ∧ Below W.heap.size W w' := by
  obtain ⟨cs, rfl, hs⟩ := okWide_struct Tryd.underlying24 hv
  obtain ⟨fuel, hf⟩ := h
  obtain ⟨ys, n, hfu, hd, hl, hlen, hfld⟩ := DataW.trod_struct Tryd.underlying24 hf
  rw [cells_Turned] at hl
  obtain ⟨cs⟩ := cs
  simp only [Value.cells] at hl hfld
  obtain ⟨c0, c1, rfl⟩ := list2f hl
  obtain ⟨y0, y1, rfl⟩ := list2f (cs := ys) (by simpa using hlen)
  have hd1 : d = .agg [y0.1, y1.1] := by injection hd
  rw [hd1] at hr
  have s0 : ([c0, c1].drop 0).take (Tryd.prog.cellsOf 22) = [c0] := by rw [cells_strs]; rfl
  have g0 : DataW.trod enc Tryd.prog W 0 (fun _ => true) true n 22 [c0] = some y0 := by rw [← s0]; exact hfld 0 _ rfl
  obtain ⟨l, hrd, hbl⟩ := strs_reach g0 (hr.part Tryd.underlying24 (j := 0) rfl rfl)
  obtain ⟨t, e1, _, _⟩ := DataW.trod_int Tryd.underlying3 (hfld 1 _ rfl)
  simp [cells_i] at e1
  subst e1
  obtain ⟨a, c, e2, hc⟩ := hrd
  subst e2
  exact law_order hP ⟨a, c, rfl, hc⟩ rfl hbl
end Go.Proofs.YtpnbgdbkiokooaaDoor
