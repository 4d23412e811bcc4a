import Derived.Test.YtkdklphpcbhfkaaDoorSnLaw
import Derived.Test.YtkdklphpcbhfkaaDoorOpenRows
/- What comes in, opened. -/
namespace Go.Proofs.YtkdklphpcbhfkaaDoor.Rt
open Go.ChangeShapes Go.WideShapes Go.ChangeAt Go.RowKit Go.Deep
set_option linter.unusedVariables false

theorem cells_str : Tryd.prog.cellsOf 9 = 1 := by kernel_rfl
theorem cells_int : Tryd.prog.cellsOf 3 = 1 := by kernel_rfl
theorem cells_u32 : Tryd.prog.cellsOf 22 = 1 := by kernel_rfl
theorem cells_u64 : Tryd.prog.cellsOf 24 = 1 := by kernel_rfl
theorem cells_strs : Tryd.prog.cellsOf 23 = 1 := by kernel_rfl
theorem cells_Cfg : Tryd.prog.cellsOf 26 = 6 := by kernel_rfl
theorem cells_News : Tryd.prog.cellsOf 28 = 7 := by kernel_rfl
theorem bytes_str : Tryd.prog.bytesOf 9 = 16 := by kernel_rfl
theorem list2 {α : Type} {cs : List α} (h : cs.length = 2) : ∃ c0 c1, cs = [c0, c1] := by
  match cs, h with
  | [c0, c1], _ => exact ⟨c0, c1, rfl⟩
theorem list6 {α : Type} {cs : List α} (h : cs.length = 6) : ∃ c0 c1 c2 c3 c4 c5, cs = [c0, c1, c2, c3, c4, c5] := by
  match cs, h with
  | [c0, c1, c2, c3, c4, c5], _ => exact ⟨c0, c1, c2, c3, c4, c5, rfl⟩
theorem list7 {α : Type} {cs : List α} (h : cs.length = 7) : ∃ c0 c1 c2 c3 c4 c5 c6, cs = [c0, c1, c2, c3, c4, c5, c6] := by
  match cs, h with
  | [c0, c1, c2, c3, c4, c5, c6], _ => exact ⟨c0, c1, c2, c3, c4, c5, c6, rfl⟩

section
variable {H : Type} {enc : TypeId × Value → H} {w : World} {base : Nat} {fuel : Nat} {cs : List Value} {y : DataW H × List MemPlace}
theorem Text_cell {v : Value} (hf : DataW.trod enc Tryd.prog w base (fun _ => true) true fuel 23 [v] = some y) (hr : InReach 23 y.1) :
    ∃ (a : Option Addr) (cap : Nat) (xs : List ByteArray), v = .slice a xs.length cap ∧ RowS w a xs ∧ xs.length ≤ 8796093022208 := by
  obtain ⟨a, cap, xs, rfl, _, _, hrow, hel⟩ := open_rows Tryd.underlying23 cells_str (by decide) (mt : ByteArray) (fun s => [.string s]) (fun _ _ => True) (fun _ _ _ h _ => by
    obtain ⟨s, e, _⟩ := DataW.trod_string Tryd.underlying9 h
    exact ⟨s, e, trivial⟩) hf hr
  refine ⟨a, cap, xs, rfl, fun i hi => ?_, ?_⟩
  · obtain ⟨b, off, e, hc⟩ := hrow i hi
    refine ⟨b, off, e, ?_⟩
    have := hc 0 _ rfl
    rw [Nat.mul_one, Nat.add_zero] at this
    exact this
  · rcases hel with rfl | ⟨el, sp, e1, e2, _⟩
    · simp
    · rw [e1] at hr
      have := hr.len Tryd.underlying23 bytes_str (by decide)
      rw [e2] at this
      simp only [reachBytes] at this
      omega
theorem u64_in {a : Int} (h : (Lit.int .u64 a).wf = true) : 0 ≤ a ∧ a ≤ 18446744073709551615 := by
  simp [Lit.wf, IntKind.min, IntKind.max, IntKind.bits, IntKind.signed] at h; omega
theorem u32_inn {a : Int} (h : (Lit.int .u32 a).wf = true) : 0 ≤ a ∧ a ≤ 4294967295 := by
  simp [Lit.wf, IntKind.min, IntKind.max, IntKind.bits, IntKind.signed] at h; omega
theorem i64_inn {a : Int} (h : (Lit.int .i64 a).wf = true) : -9223372036854775808 ≤ a ∧ a ≤ 9223372036854775807 := by
  simp [Lit.wf, IntKind.min, IntKind.max, IntKind.bits, IntKind.signed] at h; omega
theorem trod_Cfg (h : DataW.trod enc Tryd.prog w base (fun _ => true) true fuel 26 cs = some y) (hr : InReach 26 y.1) :
    ∃ c : Cf, cs = [.int .i64 c.sh, .int .i64 c.cl, .slice c.a c.ss.length c.cp, .int .i64 c.ca, .int .i64 c.pk, .int .u64 c.wi] ∧ c.Ok w ∧ c.ss.length ≤ 8796093022208 ∧ 0 ≤ c.wi ∧ c.wi ≤ 18446744073709551615 := by
  obtain ⟨ys, n, _, rfl, hl, hlen, hf⟩ := DataW.trod_struct Tryd.underlying26 h
  rw [cells_Cfg] at hl
  obtain ⟨c0, c1, c2, c3, c4, c5, rfl⟩ := list6 hl
  obtain ⟨y0, y1, y2, y3, y4, y5, rfl⟩ := list6 (cs := ys) (by simpa using hlen)
  obtain ⟨n0, e0, _, w0⟩ := DataW.trod_int Tryd.underlying3 (hf 0 _ rfl)
  obtain ⟨n1, e1, _, w1⟩ := DataW.trod_int Tryd.underlying3 (hf 1 _ rfl)
  obtain ⟨n3, e3, _, w3⟩ := DataW.trod_int Tryd.underlying3 (hf 3 _ rfl)
  obtain ⟨n4, e4, _, w4⟩ := DataW.trod_int Tryd.underlying3 (hf 4 _ rfl)
  obtain ⟨n5, e5, _, w5⟩ := DataW.trod_int Tryd.underlying24 (hf 5 _ rfl)
  have s2 : ([c0, c1, c2, c3, c4, c5].drop 2).take (Tryd.prog.cellsOf 23) = [c2] := by rw [cells_strs]; rfl
  have g2 : DataW.trod enc Tryd.prog w base (fun _ => true) true n 23 [c2] = some y2 := by rw [← s2]; exact hf 2 _ rfl
  obtain ⟨a, cp, ss, rfl, hrow, hsl⟩ := Text_cell g2 (InReach.part (ps := [y0.1, y1.1, y2.1, y3.1, y4.1, y5.1]) hr Tryd.underlying26 (j := 2) rfl rfl)
  simp [cells_int, cells_u64] at e0 e1 e3 e4 e5
  subst e0 e1 e3 e4 e5
  exact ⟨⟨n0, n1, a, cp, ss, n3, n4, n5⟩, rfl, ⟨hrow, by simp only; omega, i64_inn w0⟩, hsl, u64_in w5⟩
end

set_option maxRecDepth 100000 in
theorem open_news {H : Type} {enc : TypeId × Value → H} {W : World} {r : Reach} {b : Nat} {v : Value} {d : DataW H} {p : List MemPlace}
    (hv : Value.okWide Tryd.prog W r b 28 v) (h : DataW.Trod enc Tryd.prog W 0 (fun _ => true) true 28 v d p) (hr : InReach 28 d) :
    ∃ x : Nw, v = x.val ∧ x.Ok W := by
  obtain ⟨cs, rfl, hs⟩ := okWide_struct Tryd.underlying28 hv
  obtain ⟨fuel, hf⟩ := h
  obtain ⟨ys, n, hfu, hd, hl, hlen, hfld⟩ := DataW.trod_struct Tryd.underlying28 hf
  rw [cells_News] at hl
  obtain ⟨cs⟩ := cs
  simp only [Value.cells] at hl hfld
  obtain ⟨c0, c1, c2, c3, c4, c5, c6, rfl⟩ := list7 hl
  obtain ⟨y0, y1, rfl⟩ := list2 (cs := ys) (by simpa using hlen)
  have hd1 : d = .agg [y0.1, y1.1] := by injection hd
  rw [hd1] at hr
  obtain ⟨n0, e0, _, w0⟩ := DataW.trod_int Tryd.underlying22 (hfld 0 _ rfl)
  simp [cells_u32] at e0
  subst e0
  have s1 : ([.int .u32 n0, c1, c2, c3, c4, c5, c6].drop 1).take (Tryd.prog.cellsOf 26) = [c1, c2, c3, c4, c5, c6] := by rw [cells_Cfg]; rfl
  have g1 : DataW.trod enc Tryd.prog W 0 (fun _ => true) true n 26 [c1, c2, c3, c4, c5, c6] = some y1 := by rw [← s1]; exact hfld 1 _ rfl
  obtain ⟨c, ec, hok, hcl, hwi⟩ := trod_Cfg g1 (hr.part Tryd.underlying28 (j := 1) rfl rfl)
  simp only [List.cons.injEq, and_true] at ec
  obtain ⟨rfl, rfl, rfl, rfl, rfl, rfl⟩ := ec
  exact ⟨⟨n0, c⟩, rfl, ⟨hok, hcl, hwi, u32_inn w0⟩⟩

end Go.Proofs.YtkdklphpcbhfkaaDoor.Rt
namespace Go.Proofs.YtkdklphpcbhfkaaDoor
open Go.ChangeShapes Go.WideShapes Go.ChangeAt Go.RowKit
set_option maxRecDepth 100000 in
theorem opened_sessionNews {H : Type} {enc : TypeId × Value → H} {W : World} {r : Reach} {b : Nat} {v : Value} {d : DataW H} {p : List MemPlace}
    (hv : Value.okWide Tryd.prog W r b 28 v) (h : DataW.Trod enc Tryd.prog W 0 (fun _ => true) true 28 v d p) (hr : InReach 28 d) (ht : PowTab W) :
    Calls Tryd.prog 3 #[v] W fun e w' => e = .returned (.bool true) ∧ Below W.heap.size W w' := by
  obtain ⟨x, rfl, hx⟩ := Rt.open_news hv h hr
  exact Rt.law_news hx ht
end Go.Proofs.YtkdklphpcbhfkaaDoor
