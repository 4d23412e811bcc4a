import Derived.Test.YtfkiccdjffhhhaaGreatDoorRdLaw
import Derived.Test.YtfkiccdjffhhhaaGreatDoorRdLaid
import Derived.Test.YtfkiccdjffhhhaaGreatDoorOpenRows
/- What comes in, opened. -/
namespace Go.Proofs.YtfkiccdjffhhhaaGreatDoor.Rt
open Go.ChangeShapes Go.WideShapes Go.ChangeAt Go.RowKit Go.Deep
set_option linter.unusedVariables false

theorem cells_str : Tryz.prog.cellsOf 9 = 1 := by kernel_rfl
theorem cells_int : Tryz.prog.cellsOf 3 = 1 := by kernel_rfl
theorem cells_u64 : Tryz.prog.cellsOf 23 = 1 := by kernel_rfl
theorem cells_strs : Tryz.prog.cellsOf 22 = 1 := by kernel_rfl
theorem cells_Cfg : Tryz.prog.cellsOf 25 = 6 := by kernel_rfl
theorem cells_Wri : Tryz.prog.cellsOf 27 = 8 := by kernel_rfl
theorem bytes_str : Tryz.prog.bytesOf 9 = 16 := by kernel_rfl
theorem list3 {α : Type} {cs : List α} (h : cs.length = 3) : ∃ c0 c1 c2, cs = [c0, c1, c2] := by
  match cs, h with
  | [c0, c1, c2], _ => exact ⟨c0, c1, c2, rfl⟩
theorem list6 {α : Type} {cs : List α} (h : cs.length = 6) : ∃ c0 c1 c2 c3 c4 c5, cs = [c0, c1, c2, c3, c4, c5] := by
  match cs, h with
  | [c0, c1, c2, c3, c4, c5], _ => exact ⟨c0, c1, c2, c3, c4, c5, rfl⟩
theorem list8 {α : Type} {cs : List α} (h : cs.length = 8) : ∃ c0 c1 c2 c3 c4 c5 c6 c7, cs = [c0, c1, c2, c3, c4, c5, c6, c7] := by
  match cs, h with
  | [c0, c1, c2, c3, c4, c5, c6, c7], _ => exact ⟨c0, c1, c2, c3, c4, c5, c6, c7, rfl⟩

section
variable {H : Type} {enc : TypeId × Value → H} {w : World} {base : Nat} {fuel : Nat} {cs : List Value} {y : DataW H × List MemPlace}
theorem Text_cell {v : Value} (hf : DataW.trod enc Tryz.prog w base (fun _ => true) true fuel 22 [v] = some y) (hr : InReach 22 y.1) :
    ∃ (a : Option Addr) (cap : Nat) (xs : List ByteArray), v = .slice a xs.length cap ∧ RowS w a xs ∧ xs.length ≤ 8796093022208 := by
  obtain ⟨a, cap, xs, rfl, _, _, hrow, hel⟩ := open_rows Tryz.underlying22 cells_str (by decide) (mt : ByteArray) (fun s => [.string s]) (fun _ _ => True) (fun _ _ _ h _ => by
    obtain ⟨s, e, _⟩ := DataW.trod_string Tryz.underlying9 h
    exact ⟨s, e, trivial⟩) hf hr
  refine ⟨a, cap, xs, rfl, fun i hi => ?_, ?_⟩
  · obtain ⟨b, off, e, hc⟩ := hrow i hi
    refine ⟨b, off, e, ?_⟩
    have := hc 0 _ rfl
    rw [Nat.mul_one, Nat.add_zero] at this
    exact this
  · rcases hel with rfl | ⟨el, sp, e1, e2, _⟩
    · simp
    · rw [e1] at hr
      have := hr.len Tryz.underlying22 bytes_str (by decide)
      rw [e2] at this
      simp only [reachBytes] at this
      omega
theorem u64_in {a : Int} (h : (Lit.int .u64 a).wf = true) : 0 ≤ a ∧ a ≤ 18446744073709551615 := by
  simp [Lit.wf, IntKind.min, IntKind.max, IntKind.bits, IntKind.signed] at h; omega
theorem i64_inn {a : Int} (h : (Lit.int .i64 a).wf = true) : -9223372036854775808 ≤ a ∧ a ≤ 9223372036854775807 := by
  simp [Lit.wf, IntKind.min, IntKind.max, IntKind.bits, IntKind.signed] at h; omega
theorem trod_Cfg (h : DataW.trod enc Tryz.prog w base (fun _ => true) true fuel 25 cs = some y) (hr : InReach 25 y.1) :
    ∃ c : Cf, cs = [.int .i64 c.sh, .int .i64 c.cl, .slice c.a c.ss.length c.cp, .int .i64 c.ca, .int .i64 c.pk, .int .u64 c.wi] ∧ c.Ok w ∧ c.ss.length ≤ 8796093022208 ∧ 0 ≤ c.wi ∧ c.wi ≤ 18446744073709551615 := by
  obtain ⟨ys, n, _, rfl, hl, hlen, hf⟩ := DataW.trod_struct Tryz.underlying25 h
  rw [cells_Cfg] at hl
  obtain ⟨c0, c1, c2, c3, c4, c5, rfl⟩ := list6 hl
  obtain ⟨y0, y1, y2, y3, y4, y5, rfl⟩ := list6 (cs := ys) (by simpa using hlen)
  obtain ⟨n0, e0, _, w0⟩ := DataW.trod_int Tryz.underlying3 (hf 0 _ rfl)
  obtain ⟨n1, e1, _, w1⟩ := DataW.trod_int Tryz.underlying3 (hf 1 _ rfl)
  obtain ⟨n3, e3, _, w3⟩ := DataW.trod_int Tryz.underlying3 (hf 3 _ rfl)
  obtain ⟨n4, e4, _, w4⟩ := DataW.trod_int Tryz.underlying3 (hf 4 _ rfl)
  obtain ⟨n5, e5, _, w5⟩ := DataW.trod_int Tryz.underlying23 (hf 5 _ rfl)
  have s2 : ([c0, c1, c2, c3, c4, c5].drop 2).take (Tryz.prog.cellsOf 22) = [c2] := by rw [cells_strs]; rfl
  have g2 : DataW.trod enc Tryz.prog w base (fun _ => true) true n 22 [c2] = some y2 := by rw [← s2]; exact hf 2 _ rfl
  obtain ⟨a, cp, ss, rfl, hrow, hsl⟩ := Text_cell g2 (InReach.part (ps := [y0.1, y1.1, y2.1, y3.1, y4.1, y5.1]) hr Tryz.underlying25 (j := 2) rfl rfl)
  simp [cells_int, cells_u64] at e0 e1 e3 e4 e5
  subst e0 e1 e3 e4 e5
  exact ⟨⟨n0, n1, a, cp, ss, n3, n4, n5⟩, rfl, ⟨hrow, by simp only; omega, i64_inn w0⟩, hsl, u64_in w5⟩
end

set_option maxRecDepth 100000 in
theorem open_written {H : Type} {enc : TypeId × Value → H} {W : World} {r : Reach} {b : Nat} {v : Value} {d : DataW H} {p : List MemPlace}
    (hv : Value.okWide Tryz.prog W r b 27 v) (h : DataW.Trod enc Tryz.prog W 0 (fun _ => true) true 27 v d p) (hr : InReach 27 d) :
    ∃ x : Wn, v = x.val ∧ x.c.Ok W ∧ x.c.ss.length ≤ 8796093022208 ∧ (0 ≤ x.c.wi ∧ x.c.wi ≤ 18446744073709551615) ∧ x.n.size ≤ 140737488355328 ∧ (-9223372036854775808 ≤ x.x ∧ x.x ≤ 9223372036854775807) := by
  obtain ⟨cs, rfl, hs⟩ := okWide_struct Tryz.underlying27 hv
  obtain ⟨fuel, hf⟩ := h
  obtain ⟨ys, n, hfu, hd, hl, hlen, hfld⟩ := DataW.trod_struct Tryz.underlying27 hf
  rw [cells_Wri] at hl
  obtain ⟨cs⟩ := cs
  simp only [Value.cells] at hl hfld
  obtain ⟨c0, c1, c2, c3, c4, c5, c6, c7, rfl⟩ := list8 hl
  obtain ⟨y0, y1, y2, rfl⟩ := list3 (cs := ys) (by simpa using hlen)
  have hd1 : d = .agg [y0.1, y1.1, y2.1] := by injection hd
  rw [hd1] at hr
  have s0 : ([c0, c1, c2, c3, c4, c5, c6, c7].drop 0).take (Tryz.prog.cellsOf 25) = [c0, c1, c2, c3, c4, c5] := by rw [cells_Cfg]; rfl
  have g0 : DataW.trod enc Tryz.prog W 0 (fun _ => true) true n 25 [c0, c1, c2, c3, c4, c5] = some y0 := by rw [← s0]; exact hfld 0 _ rfl
  obtain ⟨c, ec, hok, hcl, hwi⟩ := trod_Cfg g0 (hr.part Tryz.underlying27 (j := 0) rfl rfl)
  obtain ⟨t1, e1, d1, _⟩ := DataW.trod_string Tryz.underlying9 (hfld 1 _ rfl)
  obtain ⟨n2, e2, _, w2⟩ := DataW.trod_int Tryz.underlying3 (hfld 2 _ rfl)
  simp [cells_str, cells_int] at e1 e2
  subst e1 e2
  have hr1 : InReach 9 y1.1 := hr.part Tryz.underlying27 (j := 1) rfl rfl
  have ht1 : t1.size ≤ 140737488355328 := by
    rw [d1] at hr1
    have := hr1.text
    simp only [reachBytes] at this
    omega
  simp only [List.cons.injEq, and_true] at ec
  obtain ⟨rfl, rfl, rfl, rfl, rfl, rfl⟩ := ec
  exact ⟨⟨c, t1, n2⟩, rfl, hok, hcl, hwi, ht1, i64_inn w2⟩
end Go.Proofs.YtfkiccdjffhhhaaGreatDoor.Rt
namespace Go.Proofs.YtfkiccdjffhhhaaGreatDoor
open Go.ChangeShapes Go.WideShapes Go.ChangeAt Go.RowKit
set_option maxRecDepth 100000 in
theorem opened_routeText {H : Type} {enc : TypeId × Value → H} {W : World} {r : Reach} {b : Nat} {v : Value} {d : DataW H} {p : List MemPlace}
    (hv : Value.okWide Tryz.prog W r b 27 v) (h : DataW.Trod enc Tryz.prog W 0 (fun _ => true) true 27 v d p) (hr : InReach 27 d) (hL : laidMetH Tryz.prog theLaid W) (hsh : W.ShapedOpen Tryz.prog) :
    Calls Tryz.prog 3 #[v] W fun e w' => e = .returned (.bool true) ∧ Below W.heap.size W w' := by
  obtain ⟨x, rfl, h1, h2, h3, h4, h5⟩ := Rt.open_written hv h hr
  obtain ⟨a, b, hg⟩ := gl_of hL hsh
  exact Rt.law_text h1 h2 h3 h4 h5 (pow_of hL) hg
end Go.Proofs.YtfkiccdjffhhhaaGreatDoor
