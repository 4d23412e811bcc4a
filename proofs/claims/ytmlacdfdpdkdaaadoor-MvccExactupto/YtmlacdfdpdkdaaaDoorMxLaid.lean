import Derived.Test.YtmlacdfdpdkdaaaDoorMxLaw
import Derived.Test.YtmlacdfdpdkdaaaDoorOpenRows
import Derived.Test.YtmlacdfdpdkdaaaDoorVItoa
import Derived.Deep.DeepHandedRow
import Derived.Deep.DeepWitnessRowRef
import Derived.Lib.LaidTab
import Derived.LaidLaws
import Derived.ProofKit
/- A script of steps, opened. -/
namespace Go.Proofs.YtmlacdfdpdkdaaaDoor.Bg
open Go.ChangeShapes Go.WideShapes Go.ChangeAt Go.RowKit Go.Deep Go.Proofs.YtmlacdfdpdkdaaaDoor Go.Proofs.YtmlacdfdpdkdaaaDoor.Vs
set_option linter.unusedVariables false

theorem cells_str : Tryd.prog.cellsOf 9 = 1 := by kernel_rfl
theorem cells_bool : Tryd.prog.cellsOf 4 = 1 := by kernel_rfl
theorem cells_i : Tryd.prog.cellsOf 3 = 1 := by kernel_rfl
theorem cells_u64 : Tryd.prog.cellsOf 30 = 1 := by kernel_rfl
theorem cells_u32 : Tryd.prog.cellsOf 31 = 1 := by kernel_rfl
theorem cells_stamp : Tryd.prog.cellsOf 33 = 3 := by kernel_rfl
theorem cells_span : Tryd.prog.cellsOf 38 = 2 := by kernel_rfl
theorem cells_writes : Tryd.prog.cellsOf 29 = 1 := by kernel_rfl
theorem cells_versions : Tryd.prog.cellsOf 56 = 1 := by kernel_rfl
theorem cells_Write : Tryd.prog.cellsOf 28 = 3 := by kernel_rfl
theorem cells_Version : Tryd.prog.cellsOf 76 = 6 := by kernel_rfl
theorem cells_Step : Tryd.prog.cellsOf 58 = 9 := by kernel_rfl
theorem list2 {α : Type} {cs : List α} (h : cs.length = 2) : ∃ c0 c1, cs = [c0, c1] := by
  match cs, h with
  | [c0, c1], _ => exact ⟨c0, c1, rfl⟩
theorem list3 {α : Type} {cs : List α} (h : cs.length = 3) : ∃ c0 c1 c2, cs = [c0, c1, c2] := by
  match cs, h with
  | [c0, c1, c2], _ => exact ⟨c0, c1, c2, rfl⟩
theorem list4 {α : Type} {cs : List α} (h : cs.length = 4) : ∃ c0 c1 c2 c3, cs = [c0, c1, c2, c3] := by
  match cs, h with
  | [c0, c1, c2, c3], _ => exact ⟨c0, c1, c2, c3, rfl⟩
theorem list6 {α : Type} {cs : List α} (h : cs.length = 6) : ∃ c0 c1 c2 c3 c4 c5, cs = [c0, c1, c2, c3, c4, c5] := by
  match cs, h with
  | [c0, c1, c2, c3, c4, c5], _ => exact ⟨c0, c1, c2, c3, c4, c5, rfl⟩
theorem list9 {α : Type} {cs : List α} (h : cs.length = 9) : ∃ c0 c1 c2 c3 c4 c5 c6 c7 c8, cs = [c0, c1, c2, c3, c4, c5, c6, c7, c8] := by
  match cs, h with
  | [c0, c1, c2, c3, c4, c5, c6, c7, c8], _ => exact ⟨c0, c1, c2, c3, c4, c5, c6, c7, c8, rfl⟩
theorem u64_le {a : Int} (h : (Lit.int .u64 a).wf = true) : a ≤ 18446744073709551615 := by
  simp [Lit.wf, IntKind.min, IntKind.max, IntKind.bits, IntKind.signed] at h; omega
section
variable {H : Type} {enc : TypeId × Value → H} {w : World} {base : Nat} {fuel : Nat} {cs : List Value} {y : DataW H × List MemPlace}
theorem trod_Wr (h : DataW.trod enc Tryd.prog w base (fun _ => true) true fuel 28 cs = some y) : ∃ x : Wr, cs = [.string x.key, .bool x.del, .string x.val] := by
  obtain ⟨ys, n, _, rfl, hl, hlen, hf⟩ := DataW.trod_struct Tryd.underlying28 h
  rw [cells_Write] at hl
  obtain ⟨c0, c1, c2, rfl⟩ := list3 hl
  obtain ⟨y0, y1, y2, rfl⟩ := list3 (cs := ys) (by simpa using hlen)
  obtain ⟨s0, e0, _, _⟩ := DataW.trod_string Tryd.underlying9 (hf 0 _ rfl)
  obtain ⟨b1, e1, _⟩ := DataW.trod_bool Tryd.underlying4 (hf 1 _ rfl)
  obtain ⟨s2, e2, _, _⟩ := DataW.trod_string Tryd.underlying9 (hf 2 _ rfl)
  simp [cells_str, cells_bool] at e0 e1 e2
  subst e0 e1 e2
  exact ⟨⟨s0, b1, s2⟩, rfl⟩
theorem trod_Sta (h : DataW.trod enc Tryd.prog w base (fun _ => true) true fuel 33 cs = some y) : ∃ s : Sp, cs = [.int .u64 s.a, .int .u32 s.b, .int .u32 s.c] ∧ s.a ≤ 18446744073709551615 := by
  obtain ⟨ys, n, _, rfl, hl, hlen, hf⟩ := DataW.trod_struct Tryd.underlying33 h
  rw [cells_stamp] at hl
  obtain ⟨c0, c1, c2, rfl⟩ := list3 hl
  obtain ⟨y0, y1, y2, rfl⟩ := list3 (cs := ys) (by simpa using hlen)
  obtain ⟨s0, e0, _, w0⟩ := DataW.trod_int Tryd.underlying30 (hf 0 _ rfl)
  obtain ⟨s1, e1, _, w1⟩ := DataW.trod_int Tryd.underlying31 (hf 1 _ rfl)
  obtain ⟨s2, e2, _, w2⟩ := DataW.trod_int Tryd.underlying31 (hf 2 _ rfl)
  simp [cells_u32, cells_u64] at e0 e1 e2
  subst e0 e1 e2
  exact ⟨⟨s0, s1, s2⟩, rfl, u64_le w0⟩
theorem trod_Spa (h : DataW.trod enc Tryd.prog w base (fun _ => true) true fuel 38 cs = some y) : ∃ lo hi : ByteArray, cs = [.string lo, .string hi] := by
  obtain ⟨ys, n, _, rfl, hl, hlen, hf⟩ := DataW.trod_struct Tryd.underlying38 h
  rw [cells_span] at hl
  obtain ⟨c0, c1, rfl⟩ := list2 hl
  obtain ⟨y0, y1, rfl⟩ := list2 (cs := ys) (by simpa using hlen)
  obtain ⟨s0, e0, _, _⟩ := DataW.trod_string Tryd.underlying9 (hf 0 _ rfl)
  obtain ⟨s1, e1, _, _⟩ := DataW.trod_string Tryd.underlying9 (hf 1 _ rfl)
  simp [cells_str] at e0 e1
  subst e0 e1
  exact ⟨s0, s1, rfl⟩
def kcs (e : Kv) : List Value := [.string e.1, .int .u64 e.2.s.a, .int .u32 e.2.s.b, .int .u32 e.2.s.c, .bool e.2.del, .string e.2.val]
def wcs (x : Wr) : List Value := [.string x.key, .bool x.del, .string x.val]
def kz : Kv := (⟨#[]⟩, ⟨⟨0, 0, 0⟩, false, ⟨#[]⟩⟩)
def wz : Wr := ⟨⟨#[]⟩, false, ⟨#[]⟩⟩
theorem trod_Ver (h : DataW.trod enc Tryd.prog w base (fun _ => true) true fuel 76 cs = some y) : ∃ e : Kv, cs = kcs e ∧ e.2.s.a ≤ 18446744073709551615 := by
  obtain ⟨ys, n, _, rfl, hl, hlen, hf⟩ := DataW.trod_struct Tryd.underlying76 h
  rw [cells_Version] at hl
  obtain ⟨c0, c1, c2, c3, c4, c5, rfl⟩ := list6 hl
  obtain ⟨y0, y1, y2, y3, rfl⟩ := list4 (cs := ys) (by simpa using hlen)
  obtain ⟨s0, e0, _, _⟩ := DataW.trod_string Tryd.underlying9 (hf 0 _ rfl)
  obtain ⟨t, e1, ht⟩ := trod_Sta (hf 1 _ rfl)
  obtain ⟨b2, e2, _⟩ := DataW.trod_bool Tryd.underlying4 (hf 2 _ rfl)
  obtain ⟨s3, e3, _, _⟩ := DataW.trod_string Tryd.underlying9 (hf 3 _ rfl)
  simp [cells_str, cells_bool, cells_stamp] at e0 e1 e2 e3
  obtain ⟨f1, f2, f3⟩ := e1
  subst e0 f1 f2 f3 e2 e3
  exact ⟨(s0, ⟨t, b2, s3⟩), rfl, ht⟩
theorem writes_cell {v : Value} (hf : DataW.trod enc Tryd.prog w base (fun _ => true) true fuel 29 [v] = some y) (hr : InReach 29 y.1) :
    ∃ a c, ∃ l : List Wr, v = .slice a l.length c ∧ RowW w a l ∧ l.length + 1 ≤ Rows.uptoBulk y.1 := by
  obtain ⟨a, cap, xs, rfl, hcap, _, hrow, hel⟩ := open_rows Tryd.underlying29 cells_Write (by decide) wz wcs (fun _ _ => True) (fun _ _ _ h _ => by obtain ⟨x, e⟩ := trod_Wr h; exact ⟨x, e, trivial⟩) hf hr
  refine ⟨a, cap, xs, rfl, fun i hi => ?_, ?_⟩
  · obtain ⟨b, off, ha, hc⟩ := hrow i hi
    exact ⟨b, off, ha, hc 0 _ rfl, hc 1 _ rfl, hc 2 _ rfl⟩
  · rcases hel with rfl | ⟨el, sp, e1, e2, _⟩
    · have := bulk_pos y.1
      simpa using this
    · have := bulkAll_len el
      rw [e1]; simp only [Rows.uptoBulk]; omega
theorem versions_cell {v : Value} (hf : DataW.trod enc Tryd.prog w base (fun _ => true) true fuel 56 [v] = some y) (hr : InReach 56 y.1) :
    ∃ a c, ∃ l : List Kv, v = .slice a l.length c ∧ RowV w a l ∧ (∀ e ∈ l, e.2.s.a ≤ 18446744073709551615) ∧ l.length + 1 ≤ Rows.uptoBulk y.1 := by
  obtain ⟨a, cap, xs, rfl, hcap, _, hrow, hel⟩ := open_rows Tryd.underlying56 cells_Version (by decide) kz kcs (fun e _ => e.2.s.a ≤ 18446744073709551615) (fun _ _ _ h _ => by obtain ⟨x, e, h1⟩ := trod_Ver h; exact ⟨x, e, h1⟩) hf hr
  refine ⟨a, cap, xs, rfl, fun i hi => ?_, ?_, ?_⟩
  · obtain ⟨b, off, ha, hc⟩ := hrow i hi
    exact ⟨b, off, ha, hc 0 _ rfl, hc 1 _ rfl, hc 2 _ rfl, hc 3 _ rfl, hc 4 _ rfl, hc 5 _ rfl⟩
  · rcases hel with rfl | ⟨el, sp, _, _, e3⟩
    · simp
    · intro x hx
      obtain ⟨i, hi, rfl⟩ := List.getElem_of_mem hx
      obtain ⟨d, _, hg⟩ := e3 i hi
      rw [List.getElem?_eq_getElem hi] at hg
      exact hg
  · rcases hel with rfl | ⟨el, sp, e1, e2, _⟩
    · have := bulk_pos y.1
      simpa using this
    · have := bulkAll_len el
      rw [e1]; simp only [Rows.uptoBulk]; omega
def scs (s : Sc) : List Value := [.int .i64 s.k, .int .i64 s.o, .int .u64 s.t.a, .int .u32 s.t.b, .int .u32 s.t.c, .string s.lo, .string s.hi, .slice s.wa s.ws.length s.wc, .slice s.va s.vs.length s.vc]
set_option maxRecDepth 100000 in
theorem trod_Step (h : DataW.trod enc Tryd.prog w base (fun _ => true) true fuel 58 cs = some y) (hr : InReach 58 y.1) : ∃ x : Sc, cs = scs x ∧ (x.ok w ∧ x.ws.length + x.vs.length + 1 ≤ Rows.uptoBulk y.1) := by
  obtain ⟨ys, n, _, rfl, hl, hlen, hf⟩ := DataW.trod_struct Tryd.underlying58 h
  rw [cells_Step] at hl
  obtain ⟨c0, c1, c2, c3, c4, c5, c6, c7, c8, rfl⟩ := list9 hl
  obtain ⟨y0, y1, y2, y3, y4, y5, rfl⟩ := list6 (cs := ys) (by simpa using hlen)
  obtain ⟨a0, e0, _, _⟩ := DataW.trod_int Tryd.underlying3 (hf 0 _ rfl)
  obtain ⟨a1, e1, _, _⟩ := DataW.trod_int Tryd.underlying3 (hf 1 _ rfl)
  obtain ⟨t, e2, ht⟩ := trod_Sta (hf 2 _ rfl)
  obtain ⟨lo, hi, e3⟩ := trod_Spa (hf 3 _ rfl)
  have h4 := hf 4 _ rfl
  have hc4 : DataW.trod enc Tryd.prog w base (fun _ => true) true n 29 [c7] = some y4 := by
    simpa [cells_i, cells_stamp, cells_span, cells_writes] using h4
  have h5 := hf 5 _ rfl
  have hc5 : DataW.trod enc Tryd.prog w base (fun _ => true) true n 56 [c8] = some y5 := by
    simpa [cells_i, cells_stamp, cells_span, cells_writes, cells_versions] using h5
  obtain ⟨wa, wc, ws, rfl, hw, hwl⟩ := writes_cell hc4 (InReach.part (ps := [y0.1, y1.1, y2.1, y3.1, y4.1, y5.1]) hr Tryd.underlying58 (j := 4) rfl rfl)
  obtain ⟨va, vc, vs, rfl, hv, hvs, hvl⟩ := versions_cell hc5 (InReach.part (ps := [y0.1, y1.1, y2.1, y3.1, y4.1, y5.1]) hr Tryd.underlying58 (j := 5) rfl rfl)
  simp [cells_i, cells_stamp, cells_span] at e0 e1 e2 e3
  obtain ⟨f2, f3, f4⟩ := e2
  obtain ⟨f5, f6⟩ := e3
  subst e0 e1 f2 f3 f4 f5 f6
  refine ⟨⟨a0, a1, t, lo, hi, wa, wc, ws, va, vc, vs⟩, rfl, ⟨hw, hv, ht, hvs⟩, ?_⟩
  simp only [Rows.uptoBulk, Rows.uptoBulkAll, List.map_cons, List.map_nil]
  show ws.length + vs.length + 1 ≤ _
  omega
end
set_option maxRecDepth 100000 in
theorem open_steps {H : Type} {enc : TypeId × Value → H} {W : World} {r : Reach} {b : Nat} {v : Value} {d : DataW H} {p : List MemPlace}
    (hv : Value.okWide Tryd.prog W r b 22 v) (h : DataW.Trod enc Tryd.prog W 0 (fun _ => true) true 22 v d p) (hk : Rows.uptoBulk d ≤ 1048576) :
    ∃ (a : Option Addr) (cap : Nat) (xs : List Sc), v = .slice a xs.length cap ∧ RowSc W a xs ∧ (∀ x ∈ xs, x.ok W) ∧ szS xs ≤ 1048576 := by
  obtain ⟨a0, len, cap, rfl⟩ := okWide_slice Tryd.underlying22 hv
  obtain ⟨fuel, hf⟩ := h
  obtain ⟨a, cap, xs, e, _, _, hrow, hel⟩ := open_rows Tryd.underlying22 cells_Step (by decide) scz scs (fun x d => x.ok W ∧ x.ws.length + x.vs.length + 1 ≤ Rows.uptoBulk d) (fun _ _ _ h k => trod_Step h k) hf (.inr hk)
  refine ⟨a, cap, xs, e, fun i hi => ?_, ?_, ?_⟩
  · obtain ⟨b, off, ha, hc⟩ := hrow i hi
    refine ⟨b, off, ha, fun o u hu => hc o u ?_⟩
    have h9 : (nthS xs i).cells.toList[o]? = some u := by rw [Array.getElem?_toList]; exact hu
    exact h9
  · rcases hel with rfl | ⟨el, sp, _, _, e3⟩
    · simp
    · intro x hx
      obtain ⟨i, hi, rfl⟩ := List.getElem_of_mem hx
      obtain ⟨d, _, hg⟩ := e3 i hi
      rw [List.getElem?_eq_getElem hi] at hg
      exact hg.1
  · rcases hel with rfl | ⟨el, sp, e1, e2, e3⟩
    · simp [szS]
    · have hs := bulkAll_sum scz (fun s : Sc => s.ws.length + s.vs.length + 1) e2 (fun i hi => by
        obtain ⟨d, hd, hg⟩ := e3 i hi
        exact ⟨d, hd, hg.2⟩)
      have e1 : d = .slice el sp := e1
      rw [e1] at hk
      simp only [Rows.uptoBulk] at hk
      unfold szS
      omega
end Go.Proofs.YtmlacdfdpdkdaaaDoor.Bg
/- The listed tables, and a world that has them. -/
namespace Go.Proofs.YtmlacdfdpdkdaaaDoor
open Vs
open Go.ChangeShapes Go.WideShapes Go.ChangeAt Go.RowKit Go.Deep
set_option linter.unusedVariables false

abbrev theLaid : List (String × DataW Unit) := [("math/bits.deBruijn32tab", Rows.laid_math_bits_deBruijn32tab), ("math/bits.deBruijn64tab", Rows.laid_math_bits_deBruijn64tab), ("internal/strconv.uint64pow10", Rows.laid_internal_strconv_uint64pow10)]
theorem tPow : (Tryd.prog.globals[0]?).map (·.type) = some 139 := by kernel_rfl
theorem powData : Rows.laid_internal_strconv_uint64pow10 (H := Unit) = Lib.tabData .u64 Lib.pow10Tab := by kernel_rfl
theorem pow_of {W : World} (hL : laidMetH Tryd.prog theLaid W) : PowTab W := by
  have hL' : laidMet Tryd.prog theLaid W := hL
  obtain ⟨ps, ⟨_, _, _, _, _, _, _, _, _, _, ⟨_, _, _, _, _, _, _, _, _, _, ⟨g, t, cs, fuel, p, q, hg, ht, hvar, hd, _, _⟩, _⟩, _⟩, _⟩ := hL'
  obtain rfl := Option.some.inj (gPow.symm.trans hg)
  obtain rfl := Option.some.inj (tPow.symm.trans ht)
  rw [powData] at hd
  show Lib.TabIs _ _ _ _ _
  unfold Lib.TabIs
  rw [hvar, ← Lib.cells_of_tab Tryd.underlying139 Tryd.underlying30 (by kernel_rfl) (by kernel_rfl) hd]

/-- a table's cells -/
def intsOf (d : DataW Unit) : Array Value := match d with
  | .agg ps => (ps.map fun x => match x with | .lit (.int k n) => Value.int k n | _ => Value.bool false).toArray
  | _ => #[]
def putG (h : Array Obj) (g : Nat) (cs : Array Value) : Array Obj := h.modify g fun
  | .cells _ t frozen => .cells cs t frozen
  | o => o

set_option maxRecDepth 1000000 in
theorem laid_met (os : Os) (args : Array Value) : laidMet Tryd.prog theLaid (({ World.holding Tryd.prog os ⟨#[], #[], []⟩ with heap := putG (putG (putG (World.holding Tryd.prog os ⟨#[], #[], []⟩).heap 0 (intsOf Rows.laid_internal_strconv_uint64pow10)) 1 (intsOf Rows.laid_math_bits_deBruijn32tab)) 2 (intsOf Rows.laid_math_bits_deBruijn64tab) } : World).forCall (fun _ _ => 0) ⟨#[], args, []⟩).memory :=
  laidMet_of_run' 8 (by kernel_rfl) (by kernel_rfl)

end Go.Proofs.YtmlacdfdpdkdaaaDoor
