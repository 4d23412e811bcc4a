import Derived.Test.YtcghbjdmncggaaaDoorRAsk
import Derived.Test.YtcghbjdmncggaaaDoorOpenRows
/- What is asked, opened. -/
namespace Go.Proofs.YtcghbjdmncggaaaDoor.Rt
open Go.ChangeShapes Go.WideShapes Go.ChangeAt Go.RowKit Go.Deep
set_option linter.unusedVariables false

theorem cells_str : Tryd.prog.cellsOf 9 = 1 := by kernel_rfl
theorem cells_bool : Tryd.prog.cellsOf 4 = 1 := by kernel_rfl
theorem cells_int : Tryd.prog.cellsOf 3 = 1 := by kernel_rfl
theorem cells_u64 : Tryd.prog.cellsOf 23 = 1 := by kernel_rfl
theorem cells_strs : Tryd.prog.cellsOf 22 = 1 := by kernel_rfl
theorem cells_spans : Tryd.prog.cellsOf 26 = 1 := by kernel_rfl
theorem cells_writes : Tryd.prog.cellsOf 27 = 1 := by kernel_rfl
theorem cells_Span : Tryd.prog.cellsOf 37 = 2 := by kernel_rfl
theorem cells_Write : Tryd.prog.cellsOf 51 = 3 := by kernel_rfl
theorem cells_Cfg : Tryd.prog.cellsOf 25 = 6 := by kernel_rfl
theorem cells_Ask : Tryd.prog.cellsOf 29 = 9 := by kernel_rfl
theorem bytes_str : Tryd.prog.bytesOf 9 = 16 := by kernel_rfl
theorem bytes_Span : Tryd.prog.bytesOf 37 = 32 := by kernel_rfl
theorem bytes_Write : Tryd.prog.bytesOf 51 = 40 := by kernel_rfl
theorem list2 {α : Type} {cs : List α} (h : cs.length = 2) : ∃ c0 c1, cs = [c0, c1] := by
  match cs, h with
  | [c0, c1], _ => exact ⟨c0, c1, rfl⟩
theorem list3 {α : Type} {cs : List α} (h : cs.length = 3) : ∃ c0 c1 c2, cs = [c0, c1, c2] := by
  match cs, h with
  | [c0, c1, c2], _ => exact ⟨c0, c1, c2, rfl⟩
theorem list4 {α : Type} {cs : List α} (h : cs.length = 4) : ∃ c0 c1 c2 c3, cs = [c0, c1, c2, c3] := by
  match cs, h with
  | [c0, c1, c2, c3], _ => exact ⟨c0, c1, c2, c3, rfl⟩
theorem list6 {α : Type} {cs : List α} (h : cs.length = 6) : ∃ c0 c1 c2 c3 c4 c5, cs = [c0, c1, c2, c3, c4, c5] := by
  match cs, h with
  | [c0, c1, c2, c3, c4, c5], _ => exact ⟨c0, c1, c2, c3, c4, c5, rfl⟩
theorem list9 {α : Type} {cs : List α} (h : cs.length = 9) : ∃ c0 c1 c2 c3 c4 c5 c6 c7 c8, cs = [c0, c1, c2, c3, c4, c5, c6, c7, c8] := by
  match cs, h with
  | [c0, c1, c2, c3, c4, c5, c6, c7, c8], _ => exact ⟨c0, c1, c2, c3, c4, c5, c6, c7, c8, rfl⟩

section
variable {H : Type} {enc : TypeId × Value → H} {w : World} {base : Nat} {fuel : Nat} {cs : List Value} {y : DataW H × List MemPlace}

theorem trod_Span (h : DataW.trod enc Tryd.prog w base (fun _ => true) true fuel 37 cs = some y) : ∃ x : T2, cs = [.string x.1, .string x.2] := by
  obtain ⟨ys, n, _, rfl, hl, hlen, hf⟩ := DataW.trod_struct Tryd.underlying37 h
  rw [cells_Span] at hl
  obtain ⟨c0, c1, rfl⟩ := list2 hl
  obtain ⟨y0, y1, rfl⟩ := list2 (cs := ys) (by simpa using hlen)
  obtain ⟨s0, e0, _, _⟩ := DataW.trod_string Tryd.underlying9 (hf 0 _ rfl)
  obtain ⟨s1, e1, _, _⟩ := DataW.trod_string Tryd.underlying9 (hf 1 _ rfl)
  simp [cells_str] at e0 e1
  subst e0 e1
  exact ⟨(s0, s1), rfl⟩
theorem trod_Write (h : DataW.trod enc Tryd.prog w base (fun _ => true) true fuel 51 cs = some y) : ∃ x : Wr, cs = [.string x.key, .bool x.del, .string x.val] := by
  obtain ⟨ys, n, _, rfl, hl, hlen, hf⟩ := DataW.trod_struct Tryd.underlying51 h
  rw [cells_Write] at hl
  obtain ⟨c0, c1, c2, rfl⟩ := list3 hl
  obtain ⟨y0, y1, y2, rfl⟩ := list3 (cs := ys) (by simpa using hlen)
  obtain ⟨s0, e0, d0, _⟩ := DataW.trod_string Tryd.underlying9 (hf 0 _ rfl)
  obtain ⟨b1, e1, _⟩ := DataW.trod_bool Tryd.underlying4 (hf 1 _ rfl)
  obtain ⟨s2, e2, _, _⟩ := DataW.trod_string Tryd.underlying9 (hf 2 _ rfl)
  simp [cells_str, cells_bool] at e0 e1 e2
  subst e0 e1 e2
  exact ⟨⟨s0, b1, s2⟩, rfl⟩
theorem Text_cell {v : Value} (hf : DataW.trod enc Tryd.prog w base (fun _ => true) true fuel 22 [v] = some y) (hr : InReach 22 y.1) :
    ∃ (a : Option Addr) (cap : Nat) (xs : List ByteArray), v = .slice a xs.length cap ∧ RowS w a xs ∧ xs.length ≤ 8796093022208 := by
  obtain ⟨a, cap, xs, rfl, _, _, hrow, hel⟩ := open_rows Tryd.underlying22 cells_str (by decide) (mt : ByteArray) (fun s => [.string s]) (fun _ _ => True) (fun _ _ _ h _ => by
    obtain ⟨s, e, _⟩ := DataW.trod_string Tryd.underlying9 h
    exact ⟨s, e, trivial⟩) hf hr
  refine ⟨a, cap, xs, rfl, fun i hi => ?_, ?_⟩
  · obtain ⟨b, off, e, hc⟩ := hrow i hi
    refine ⟨b, off, e, ?_⟩
    have := hc 0 _ rfl
    rw [Nat.mul_one, Nat.add_zero] at this
    exact this
  · rcases hel with rfl | ⟨el, sp, e1, e2, _⟩
    · simp
    · rw [e1] at hr
      have := hr.len Tryd.underlying22 bytes_str (by decide)
      rw [e2] at this
      simp only [reachBytes] at this
      omega
theorem Span_cell {v : Value} (hf : DataW.trod enc Tryd.prog w base (fun _ => true) true fuel 26 [v] = some y) (hr : InReach 26 y.1) :
    ∃ (a : Option Addr) (cap : Nat) (xs : List T2), v = .slice a xs.length cap ∧ Row2 w a xs ∧ xs.length ≤ 4398046511104 := by
  obtain ⟨a, cap, xs, rfl, _, _, hrow, hel⟩ := open_rows Tryd.underlying26 cells_Span (by decide) ((⟨#[]⟩, ⟨#[]⟩) : T2) (fun x => [.string x.1, .string x.2]) (fun _ _ => True) (fun _ _ _ h _ => by obtain ⟨x, e⟩ := trod_Span h; exact ⟨x, e, trivial⟩) hf hr
  refine ⟨a, cap, xs, rfl, fun i hi => ?_, ?_⟩
  · obtain ⟨b, off, e, hc⟩ := hrow i hi
    exact ⟨b, off, e, hc 0 _ rfl, hc 1 _ rfl⟩
  · rcases hel with rfl | ⟨el, sp, e1, e2, _⟩
    · simp
    · rw [e1] at hr
      have := hr.len Tryd.underlying26 bytes_Span (by decide)
      rw [e2] at this
      simp only [reachBytes] at this
      omega
theorem Write_cell {v : Value} (hf : DataW.trod enc Tryd.prog w base (fun _ => true) true fuel 27 [v] = some y) (hr : InReach 27 y.1) :
    ∃ (a : Option Addr) (cap : Nat) (xs : List Wr), v = .slice a xs.length cap ∧ RowW w a xs ∧ xs.length ≤ 3518437208883 := by
  obtain ⟨a, cap, xs, rfl, _, _, hrow, hel⟩ := open_rows Tryd.underlying27 cells_Write (by decide) (⟨⟨#[]⟩, false, ⟨#[]⟩⟩ : Wr) (fun x => [.string x.key, .bool x.del, .string x.val]) (fun _ _ => True) (fun _ _ _ h _ => by obtain ⟨x, e⟩ := trod_Write h; exact ⟨x, e, trivial⟩) hf hr
  refine ⟨a, cap, xs, rfl, fun i hi => ?_, ?_⟩
  · obtain ⟨b, off, e, hc⟩ := hrow i hi
    exact ⟨b, off, e, hc 0 _ rfl, hc 1 _ rfl, hc 2 _ rfl⟩
  · rcases hel with rfl | ⟨el, sp, e1, e2, _⟩
    · simp
    · rw [e1] at hr
      have := hr.len Tryd.underlying27 bytes_Write (by decide)
      rw [e2] at this
      simp only [reachBytes] at this
      omega
theorem i64_le {a : Int} (h : (Lit.int .i64 a).wf = true) : -9223372036854775808 ≤ a ∧ a ≤ 9223372036854775807 := by
  simp [Lit.wf, IntKind.min, IntKind.max, IntKind.bits, IntKind.signed] at h; omega
theorem trod_Cfg (h : DataW.trod enc Tryd.prog w base (fun _ => true) true fuel 25 cs = some y) (hr : InReach 25 y.1) :
    ∃ c : Cf, cs = [.int .i64 c.sh, .int .i64 c.cl, .slice c.a c.ss.length c.cp, .int .i64 c.ca, .int .i64 c.pk, .int .u64 c.wi] ∧ c.Ok w ∧ c.ss.length ≤ 8796093022208 := by
  obtain ⟨ys, n, _, rfl, hl, hlen, hf⟩ := DataW.trod_struct Tryd.underlying25 h
  rw [cells_Cfg] at hl
  obtain ⟨c0, c1, c2, c3, c4, c5, rfl⟩ := list6 hl
  obtain ⟨y0, y1, y2, y3, y4, y5, rfl⟩ := list6 (cs := ys) (by simpa using hlen)
  obtain ⟨n0, e0, _, w0⟩ := DataW.trod_int Tryd.underlying3 (hf 0 _ rfl)
  obtain ⟨n1, e1, _, w1⟩ := DataW.trod_int Tryd.underlying3 (hf 1 _ rfl)
  obtain ⟨n3, e3, _, w3⟩ := DataW.trod_int Tryd.underlying3 (hf 3 _ rfl)
  obtain ⟨n4, e4, _, w4⟩ := DataW.trod_int Tryd.underlying3 (hf 4 _ rfl)
  obtain ⟨n5, e5, _, w5⟩ := DataW.trod_int Tryd.underlying23 (hf 5 _ rfl)
  have s2 : ([c0, c1, c2, c3, c4, c5].drop 2).take (Tryd.prog.cellsOf 22) = [c2] := by rw [cells_strs]; rfl
  have g2 : DataW.trod enc Tryd.prog w base (fun _ => true) true n 22 [c2] = some y2 := by rw [← s2]; exact hf 2 _ rfl
  obtain ⟨a, cp, ss, rfl, hrow, hsl⟩ := Text_cell g2 (InReach.part (ps := [y0.1, y1.1, y2.1, y3.1, y4.1, y5.1]) hr Tryd.underlying25 (j := 2) rfl rfl)
  simp [cells_int, cells_u64] at e0 e1 e3 e4 e5
  subst e0 e1 e3 e4 e5
  exact ⟨⟨n0, n1, a, cp, ss, n3, n4, n5⟩, rfl, ⟨hrow, by simp only; omega, i64_le w0⟩, hsl⟩
end

set_option maxRecDepth 100000 in
theorem open_asked {H : Type} {enc : TypeId × Value → H} {W : World} {r : Reach} {b : Nat} {v : Value} {d : DataW H} {p : List MemPlace}
    (hv : Value.okWide Tryd.prog W r b 29 v) (h : DataW.Trod enc Tryd.prog W 0 (fun _ => true) true 29 v d p) (hr : InReach 29 d) :
    ∃ x : Ak, v = x.val ∧ x.Ok W ∧ x.rs.length ≤ 4398046511104 ∧ x.ws.length ≤ 3518437208883 := by
  obtain ⟨cs, rfl, hs⟩ := okWide_struct Tryd.underlying29 hv
  obtain ⟨fuel, hf⟩ := h
  obtain ⟨ys, n, hfu, hd, hl, hlen, hfld⟩ := DataW.trod_struct Tryd.underlying29 hf
  rw [cells_Ask] at hl
  obtain ⟨cs⟩ := cs
  simp only [Value.cells] at hl hfld
  obtain ⟨c0, c1, c2, c3, c4, c5, c6, c7, c8, rfl⟩ := list9 hl
  obtain ⟨y0, y1, y2, y3, rfl⟩ := list4 (cs := ys) (by simpa using hlen)
  have hd1 : d = .agg [y0.1, y1.1, y2.1, y3.1] := by injection hd
  rw [hd1] at hr
  have s0 : ([c0, c1, c2, c3, c4, c5, c6, c7, c8].drop 0).take (Tryd.prog.cellsOf 25) = [c0, c1, c2, c3, c4, c5] := by rw [cells_Cfg]; rfl
  have g0 : DataW.trod enc Tryd.prog W 0 (fun _ => true) true n 25 [c0, c1, c2, c3, c4, c5] = some y0 := by rw [← s0]; exact hfld 0 _ rfl
  obtain ⟨c, ec, hok, hcl⟩ := trod_Cfg g0 (hr.part Tryd.underlying29 (j := 0) rfl rfl)
  have s1 : ([c0, c1, c2, c3, c4, c5, c6, c7, c8].drop 6).take (Tryd.prog.cellsOf 26) = [c6] := by rw [cells_spans]; rfl
  have g1 : DataW.trod enc Tryd.prog W 0 (fun _ => true) true n 26 [c6] = some y1 := by rw [← s1]; exact hfld 1 _ rfl
  obtain ⟨ra, rc, rs, rfl, hrr, hrl⟩ := Span_cell g1 (hr.part Tryd.underlying29 (j := 1) rfl rfl)
  have s2 : ([c0, c1, c2, c3, c4, c5, .slice ra rs.length rc, c7, c8].drop 7).take (Tryd.prog.cellsOf 27) = [c7] := by rw [cells_writes]; rfl
  have g2 : DataW.trod enc Tryd.prog W 0 (fun _ => true) true n 27 [c7] = some y2 := by rw [← s2]; exact hfld 2 _ rfl
  obtain ⟨wa, wc, ws, rfl, hwr, hwl⟩ := Write_cell g2 (hr.part Tryd.underlying29 (j := 2) rfl rfl)
  have s3 : ([c0, c1, c2, c3, c4, c5, .slice ra rs.length rc, .slice wa ws.length wc, c8].drop 8).take (Tryd.prog.cellsOf 22) = [c8] := by rw [cells_strs]; rfl
  have g3 : DataW.trod enc Tryd.prog W 0 (fun _ => true) true n 22 [c8] = some y3 := by rw [← s3]; exact hfld 3 _ rfl
  obtain ⟨ka, kc, ks, rfl, hkr, hkl⟩ := Text_cell g3 (hr.part Tryd.underlying29 (j := 3) rfl rfl)
  simp only [List.cons.injEq, and_true] at ec
  obtain ⟨rfl, rfl, rfl, rfl, rfl, rfl⟩ := ec
  exact ⟨⟨c, ra, rc, rs, wa, wc, ws, ka, kc, ks⟩, rfl, ⟨hok, hcl, hrr, by simp only; omega, hwr, by simp only; omega, hkr, hkl⟩, hrl, hwl⟩

end Go.Proofs.YtcghbjdmncggaaaDoor.Rt
