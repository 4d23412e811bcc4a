import Derived.Test.YtaknkodjganacaaDoorVPt
import Derived.OpenShut
import Derived.Deep.Slices
import Derived.Deep.DeepHandedRow
import Derived.Deep.DeepWitnessRowRef
import Derived.Deep.SlicePairs
import Derived.Lib.LaidTab
import Derived.LaidLaws
import Derived.ProofKit
import Derived.SizedLaws
/- The openings: writes, Installs, a Replay. -/
namespace Go.Proofs.YtaknkodjganacaaDoor.Vs
open Go.ChangeShapes Go.WideShapes Go.ChangeAt Go.RowKit Go.Deep
set_option linter.unusedVariables false

theorem cells_str : Tryd.prog.cellsOf 9 = 1 := by kernel_rfl
theorem cells_bool : Tryd.prog.cellsOf 4 = 1 := by kernel_rfl
theorem cells_u64 : Tryd.prog.cellsOf 23 = 1 := by kernel_rfl
theorem cells_u32 : Tryd.prog.cellsOf 24 = 1 := by kernel_rfl
theorem cells_stamp : Tryd.prog.cellsOf 26 = 3 := by kernel_rfl
theorem cells_writes : Tryd.prog.cellsOf 39 = 1 := by kernel_rfl
theorem cells_puts : Tryd.prog.cellsOf 22 = 1 := by kernel_rfl
theorem cells_Write : Tryd.prog.cellsOf 38 = 3 := by kernel_rfl
theorem cells_Span : Tryd.prog.cellsOf 28 = 2 := by kernel_rfl
theorem cells_Put : Tryd.prog.cellsOf 59 = 4 := by kernel_rfl
theorem list2 {α : Type} {cs : List α} (h : cs.length = 2) : ∃ c0 c1, cs = [c0, c1] := by
  match cs, h with
  | [c0, c1], _ => exact ⟨c0, c1, rfl⟩
theorem list3 {α : Type} {cs : List α} (h : cs.length = 3) : ∃ c0 c1 c2, cs = [c0, c1, c2] := by
  match cs, h with
  | [c0, c1, c2], _ => exact ⟨c0, c1, c2, rfl⟩
theorem list4 {α : Type} {cs : List α} (h : cs.length = 4) : ∃ c0 c1 c2 c3, cs = [c0, c1, c2, c3] := by
  match cs, h with
  | [c0, c1, c2, c3], _ => exact ⟨c0, c1, c2, c3, rfl⟩
theorem list6 {α : Type} {cs : List α} (h : cs.length = 6) : ∃ c0 c1 c2 c3 c4 c5, cs = [c0, c1, c2, c3, c4, c5] := by
  match cs, h with
  | [c0, c1, c2, c3, c4, c5], _ => exact ⟨c0, c1, c2, c3, c4, c5, rfl⟩
theorem u64_nn {a : Int} (h : (Lit.int .u64 a).wf = true) : 0 ≤ a := by
  simp [Lit.wf, IntKind.min, IntKind.max, IntKind.bits, IntKind.signed] at h; omega
theorem u32_nn {a : Int} (h : (Lit.int .u32 a).wf = true) : 0 ≤ a := by
  simp [Lit.wf, IntKind.min, IntKind.max, IntKind.bits, IntKind.signed] at h; omega
theorem bulk_pos {H : Type} (d : DataW H) : 1 ≤ Rows.uptoBulk d := by
  cases d with
  | lit l => cases l <;> simp [Rows.uptoBulk]
  | _ => simp [Rows.uptoBulk]
theorem bulkAll_app {H : Type} (l r : List (DataW H)) : Rows.uptoBulkAll (l ++ r) = Rows.uptoBulkAll l + Rows.uptoBulkAll r := by
  induction l with
  | nil => simp [Rows.uptoBulkAll]
  | cons x l ih => simp only [List.cons_append, Rows.uptoBulkAll, ih]; omega
theorem bulkAll_len {H : Type} : ∀ l : List (DataW H), l.length ≤ Rows.uptoBulkAll l
  | [] => by simp
  | x :: l => by have := bulkAll_len l; have := bulk_pos x; simp only [List.length_cons, Rows.uptoBulkAll]; omega
theorem bulkAll_mem {H : Type} (D : Nat → DataW H) : ∀ n, n ≤ Rows.uptoBulkAll ((List.range n).map D) ∧ ∀ i, i < n → Rows.uptoBulk (D i) ≤ Rows.uptoBulkAll ((List.range n).map D)
  | 0 => by simp
  | n + 1 => by
    have ih := bulkAll_mem D n
    have e : Rows.uptoBulkAll ((List.range (n + 1)).map D) = Rows.uptoBulkAll ((List.range n).map D) + Rows.uptoBulk (D n) := by
      rw [List.range_succ, List.map_append, bulkAll_app]; simp [Rows.uptoBulkAll]
    have := bulk_pos (D n)
    rw [e]
    refine ⟨by omega, fun i hi => ?_⟩
    rcases Nat.lt_or_ge i n with h1 | h1
    · have := ih.2 i h1; omega
    · obtain rfl : i = n := by omega
      omega

theorem trod_Write {H : Type} {enc : TypeId × Value → H} {w : World} {base : Nat} {spare : Nat → Bool} {held : Bool} {fuel : Nat} {cs : List Value} {y : DataW H × List MemPlace}
    (h : DataW.trod enc Tryd.prog w base spare held fuel 38 cs = some y) : ∃ x : Wr, cs = [.string x.key, .bool x.del, .string x.val] := by
  obtain ⟨ys, n, _, rfl, hl, hlen, hf⟩ := DataW.trod_struct Tryd.underlying38 h
  rw [cells_Write] at hl
  obtain ⟨c0, c1, c2, rfl⟩ := list3 hl
  obtain ⟨y0, y1, y2, rfl⟩ := list3 (cs := ys) (by simpa using hlen)
  obtain ⟨s0, e0, _, _⟩ := DataW.trod_string Tryd.underlying9 (hf 0 _ rfl)
  obtain ⟨b1, e1, _⟩ := DataW.trod_bool Tryd.underlying4 (hf 1 _ rfl)
  obtain ⟨s2, e2, _, _⟩ := DataW.trod_string Tryd.underlying9 (hf 2 _ rfl)
  simp [cells_str, cells_bool] at e0 e1 e2
  subst e0 e1 e2
  exact ⟨⟨s0, b1, s2⟩, rfl⟩
theorem Write_cell {H : Type} {enc : TypeId × Value → H} {W : World} {base fuel : Nat} {v : Value} {y : DataW H × List MemPlace}
    (hf : DataW.trod enc Tryd.prog W base (fun _ => true) true fuel 39 [v] = some y) :
    ∃ (a : Option Addr) (cap : Nat) (xs : List Wr), v = .slice a xs.length cap ∧ RowW W a xs ∧ xs.length ≤ 9223372036854775807 ∧ (xs.length = 0 ∨ ∃ el sp, y.1 = .slice el sp ∧ el.length = xs.length) := by
  rcases open_slice Tryd.underlying39 hf with ⟨e3, _⟩ | ⟨a, len, cap, m, n', D, Pl, e3, hb, hlc, hm, hmm, hxx, hel⟩
  · injection e3 with e3
    subst e3
    exact ⟨none, 0, [], rfl, fun i hi => by simp at hi, by simp, .inl rfl⟩
  · injection e3 with e3
    subst e3
    have hlm : len ≤ m := by rw [hmm]; split <;> omega
    have each : ∀ i, i < len → ∃ x : Wr, ∃ bb off, a = ⟨bb, off, none⟩ ∧ W.cell? ⟨bb, off + i * 3, none⟩ = some (.string x.key) ∧ W.cell? ⟨bb, off + i * 3 + 1, none⟩ = some (.bool x.del) ∧ W.cell? ⟨bb, off + i * 3 + 2, none⟩ = some (.string x.val) := by
      intro i hi
      obtain ⟨cs', hc, ht⟩ := hel i (by omega)
      obtain ⟨x, rfl⟩ := trod_Write ht
      rw [cells_Write] at hc
      obtain ⟨_, _, hcell⟩ := World.cells?_some hc
      have e0 := hcell 0 (by omega)
      have e1 := hcell 1 (by omega)
      have e2 := hcell 2 (by omega)
      obtain ⟨bb, off, spot⟩ := a
      have hspot : spot = none := by
        obtain ⟨cs0, hc0, ht0⟩ := hel 0 (by omega)
        obtain ⟨y, rfl⟩ := trod_Write ht0
        simp only [cells_Write] at hc0
        obtain ⟨_, hl0, hcell0⟩ := World.cells?_some hc0
        have hv0 : W.cell? (((⟨bb, off, spot⟩ : Addr).add (0 * 3)).add 0) = some (.string y.key) := hcell0 0 (by omega)
        have hs := World.cell?_spot hv0
        clear hcell0 hcell e0 e1 e2
        simpa [Addr.add] using hs
      subst hspot
      simp only [Addr.add_lit, Nat.add_zero] at e0 e1 e2
      exact ⟨x, bb, off, rfl, by simpa using e0, by simpa using e1, by simpa using e2⟩
    obtain ⟨f, hq⟩ := @choose_lt Wr ⟨⟨⟨#[]⟩, false, ⟨#[]⟩⟩⟩ _ _ each
    refine ⟨some a, cap, (List.range len).map f, by simp, fun i hi => ?_, by simp [maxLen] at hm ⊢; omega, .inr ⟨_, _, by rw [hxx], by simp⟩⟩
    have hi' : i < len := by simpa using hi
    obtain ⟨bb, off, e, c0, c1, c2⟩ := hq i hi'
    have hn : nthW ((List.range len).map f) i = f i := by simp [nthW, hi']
    rw [hn]
    exact ⟨bb, off, by rw [e], c0, c1, c2⟩

theorem trod_Stm {H : Type} {enc : TypeId × Value → H} {w : World} {base : Nat} {spare : Nat → Bool} {held : Bool} {fuel : Nat} {cs : List Value} {y : DataW H × List MemPlace}
    (h : DataW.trod enc Tryd.prog w base spare held fuel 26 cs = some y) : ∃ s : Sp, cs = [.int .u64 s.a, .int .u32 s.b, .int .u32 s.c] ∧ s.nn := by
  obtain ⟨ys, n, _, rfl, hl, hlen, hf⟩ := DataW.trod_struct Tryd.underlying26 h
  rw [cells_stamp] at hl
  obtain ⟨c0, c1, c2, rfl⟩ := list3 hl
  obtain ⟨y0, y1, y2, rfl⟩ := list3 (cs := ys) (by simpa using hlen)
  obtain ⟨s0, e0, _, w0⟩ := DataW.trod_int Tryd.underlying23 (hf 0 _ rfl)
  obtain ⟨s1, e1, _, w1⟩ := DataW.trod_int Tryd.underlying24 (hf 1 _ rfl)
  obtain ⟨s2, e2, _, w2⟩ := DataW.trod_int Tryd.underlying24 (hf 2 _ rfl)
  simp [cells_u32, cells_u64] at e0 e1 e2
  subst e0 e1 e2
  exact ⟨⟨s0, s1, s2⟩, rfl, u64_nn w0, u32_nn w1, u32_nn w2⟩
theorem trod_Spn {H : Type} {enc : TypeId × Value → H} {w : World} {base : Nat} {spare : Nat → Bool} {held : Bool} {fuel : Nat} {cs : List Value} {y : DataW H × List MemPlace}
    (h : DataW.trod enc Tryd.prog w base spare held fuel 28 cs = some y) : ∃ lo hi : ByteArray, cs = [.string lo, .string hi] := by
  obtain ⟨ys, n, _, rfl, hl, hlen, hf⟩ := DataW.trod_struct Tryd.underlying28 h
  rw [cells_Span] at hl
  obtain ⟨c0, c1, rfl⟩ := list2 hl
  obtain ⟨y0, y1, rfl⟩ := list2 (cs := ys) (by simpa using hlen)
  obtain ⟨s0, e0, _, _⟩ := DataW.trod_string Tryd.underlying9 (hf 0 _ rfl)
  obtain ⟨s1, e1, _, _⟩ := DataW.trod_string Tryd.underlying9 (hf 1 _ rfl)
  simp [cells_str] at e0 e1
  subst e0 e1
  exact ⟨s0, s1, rfl⟩
theorem trod_Put {H : Type} {enc : TypeId × Value → H} {w : World} {base : Nat} {fuel : Nat} {cs : List Value} {y : DataW H × List MemPlace}
    (h : DataW.trod enc Tryd.prog w base (fun _ => true) true fuel 59 cs = some y) :
    ∃ q : Pt, cs = [.slice q.wa q.ws.length q.wc, .int .u64 q.t.a, .int .u32 q.t.b, .int .u32 q.t.c] ∧ RowW w q.wa q.ws ∧ q.ws.length ≤ Rows.uptoBulk y.1 ∧ q.t.nn := by
  obtain ⟨ys, n, _, rfl, hl, hlen, hf⟩ := DataW.trod_struct Tryd.underlying59 h
  rw [cells_Put] at hl
  obtain ⟨c0, c1, c2, c3, rfl⟩ := list4 hl
  obtain ⟨y0, y1, rfl⟩ := list2 (cs := ys) (by simpa using hlen)
  have g0 := hf 0 _ rfl
  have s0 : ([c0, c1, c2, c3].drop 0).take (Tryd.prog.cellsOf 39) = [c0] := by rw [cells_writes]; rfl
  have g0' : DataW.trod enc Tryd.prog w base (fun _ => true) true n 39 [c0] = some y0 := by rw [← s0]; exact g0
  obtain ⟨wa, wc, ws, rfl, hr, _, hwl⟩ := Write_cell g0'
  obtain ⟨s, e1, hs⟩ := trod_Stm (hf 1 _ rfl)
  simp [cells_stamp] at e1
  obtain ⟨rfl, rfl, rfl⟩ := e1
  refine ⟨⟨wa, wc, ws, s⟩, rfl, hr, ?_, hs⟩
  show ws.length ≤ _
  rcases hwl with h0 | ⟨el, sp, e, e'⟩
  · omega
  · have h1 := bulkAll_len el
    have h2 : Rows.uptoBulkAll el ≤ Rows.uptoBulk y0.1 := by rw [e]; simp only [Rows.uptoBulk]; omega
    simp only [List.map_cons, List.map_nil, Rows.uptoBulk, Rows.uptoBulkAll]
    omega

theorem sumT_bulk {H : Type} (D : Nat → DataW H) (f : Nat → Pt) : ∀ n, (∀ i, i < n → (f i).ws.length ≤ Rows.uptoBulk (D i)) → sumT ((List.range n).map f) ≤ Rows.uptoBulkAll ((List.range n).map D)
  | 0, _ => by simp [sumT]
  | n + 1, h => by
    have ih := sumT_bulk D f n fun i hi => h i (by omega)
    have hn := h n (by omega)
    rw [List.range_succ, List.map_append, List.map_append, sumT_append, bulkAll_app]
    simp only [List.map_cons, List.map_nil, sumT, List.sum_cons, List.sum_nil, Rows.uptoBulkAll] at ih ⊢
    omega
theorem puts_cell {H : Type} {enc : TypeId × Value → H} {W : World} {base fuel : Nat} {v : Value} {y : DataW H × List MemPlace}
    (hf : DataW.trod enc Tryd.prog W base (fun _ => true) true fuel 22 [v] = some y) (hk : Rows.uptoBulk y.1 ≤ 1048576) :
    ∃ (a : Option Addr) (cap : Nat) (ps : List Pt), v = .slice a ps.length cap ∧ RowT W a ps ∧ ps.length ≤ 1048576 ∧ sumT ps ≤ 1048576 := by
  rcases open_slice Tryd.underlying22 hf with ⟨e3, _⟩ | ⟨a, len, cap, m, n', D, Pl, e3, hb, hlc, hm, hmm, hxx, hel⟩
  · injection e3 with e3
    subst e3
    exact ⟨none, 0, [], rfl, fun i hi => by simp at hi, by simp, by simp [sumT]⟩
  · injection e3 with e3
    subst e3
    have hlm : len ≤ m := by rw [hmm]; split <;> omega
    have hx1 := congrArg Prod.fst hxx
    have each : ∀ i, i < len → ∃ x : Pt, (RowW W x.wa x.ws ∧ x.ws.length ≤ Rows.uptoBulk (D i) ∧ x.t.nn) ∧ ∃ bb off, a = ⟨bb, off, none⟩ ∧ W.cell? ⟨bb, off + i * 4, none⟩ = some (.slice x.wa x.ws.length x.wc) ∧ W.cell? ⟨bb, off + i * 4 + 1, none⟩ = some (.int .u64 x.t.a) ∧ W.cell? ⟨bb, off + i * 4 + 2, none⟩ = some (.int .u32 x.t.b)
        ∧ W.cell? ⟨bb, off + i * 4 + 3, none⟩ = some (.int .u32 x.t.c) := by
      intro i hi
      obtain ⟨cs', hc, ht⟩ := hel i (by omega)
      obtain ⟨x, rfl, hy1, hy2, hy3⟩ := trod_Put ht
      rw [cells_Put] at hc
      obtain ⟨_, _, hcell⟩ := World.cells?_some hc
      have e0 := hcell 0 (by omega)
      have e1 := hcell 1 (by omega)
      have e2 := hcell 2 (by omega)
      have e3 := hcell 3 (by omega)
      obtain ⟨bb, off, spot⟩ := a
      have hspot : spot = none := by
        obtain ⟨cs0, hc0, ht0⟩ := hel 0 (by omega)
        obtain ⟨y, rfl, -, -, -⟩ := trod_Put ht0
        simp only [cells_Put] at hc0
        obtain ⟨_, hl0, hcell0⟩ := World.cells?_some hc0
        have hv0 : W.cell? (((⟨bb, off, spot⟩ : Addr).add (0 * 4)).add 0) = some (.slice y.wa y.ws.length y.wc) := hcell0 0 (by omega)
        have hs := World.cell?_spot hv0
        clear hcell0 hcell e0 e1 e2 e3
        simpa [Addr.add] using hs
      subst hspot
      simp only [Addr.add_lit, Nat.add_zero] at e0 e1 e2 e3
      exact ⟨x, ⟨hy1, hy2, hy3⟩, bb, off, rfl, by simpa using e0, by simpa using e1, by simpa using e2, by simpa using e3⟩
    obtain ⟨f, hq⟩ := @choose_lt Pt ⟨⟨none, 0, [], ⟨0, 0, 0⟩⟩⟩ _ _ each
    obtain ⟨hb1, hb2⟩ := bulkAll_mem D len
    have hd : Rows.uptoBulkAll ((List.range len).map D) ≤ 1048576 := by
      rw [hx1] at hk
      simp only [Rows.uptoBulk] at hk
      omega
    refine ⟨some a, cap, (List.range len).map f, by simp, fun i hi => ?_, by simp; omega, Nat.le_trans (sumT_bulk D f len fun i hi => (hq i hi).1.2.1) hd⟩
    have hi' : i < len := by simpa using hi
    obtain ⟨⟨h1, h2, h3⟩, bb, off, e, c0, c1, c2, c3⟩ := hq i hi'
    have h4 := hb2 i hi'
    have hn : nthT ((List.range len).map f) i = f i := by simp [nthT, hi']
    rw [hn]
    exact ⟨bb, off, by rw [e], c0, c1, c2, c3, h1, by omega, h3⟩

end Go.Proofs.YtaknkodjganacaaDoor.Vs
namespace Go.Proofs.YtaknkodjganacaaDoor
open Go.RowKit Go.Sort Go.ChangeShapes Go.WideShapes Go.ChangeAt

abbrev theLaid : List (String × DataW Unit) := [("math/bits.deBruijn32tab", Rows.laid_math_bits_deBruijn32tab), ("math/bits.deBruijn64tab", Rows.laid_math_bits_deBruijn64tab), ("internal/strconv.uint64pow10", Rows.laid_internal_strconv_uint64pow10)]
theorem tPow : (Tryd.prog.globals[0]?).map (·.type) = some 128 := by kernel_rfl
theorem powData : Rows.laid_internal_strconv_uint64pow10 (H := Unit) = Lib.tabData .u64 Lib.pow10Tab := by kernel_rfl

theorem pow_of {W : World} (hL : laidMetH Tryd.prog theLaid W) : Vs.PowTab W := by
  have hL' : laidMet Tryd.prog theLaid W := hL
  obtain ⟨ps, ⟨_, _, _, _, _, _, _, _, _, _, ⟨_, _, _, _, _, _, _, _, _, _, ⟨g, t, cs, fuel, p, q, hg, ht, hvar, hd, _, _⟩, _⟩, _⟩, _⟩ := hL'
  obtain rfl := Option.some.inj (Vs.gPow.symm.trans hg)
  obtain rfl := Option.some.inj (tPow.symm.trans ht)
  rw [powData] at hd
  show Lib.TabIs _ _ _ _ _
  unfold Lib.TabIs
  rw [hvar, ← Lib.cells_of_tab Tryd.underlying128 Tryd.underlying23 (by kernel_rfl) (by kernel_rfl) hd]

/-- a table's cells -/
def intsOf (d : DataW Unit) : Array Value := match d with
  | .agg ps => (ps.map fun x => match x with | .lit (.int k n) => Value.int k n | _ => Value.bool false).toArray
  | _ => #[]
def putG (h : Array Obj) (g : Nat) (cs : Array Value) : Array Obj := h.modify g fun
  | .cells _ t frozen => .cells cs t frozen
  | o => o

set_option maxRecDepth 1000000 in
theorem laid_met (os : Os) (args : Array Value) : laidMet Tryd.prog theLaid (({ World.holding Tryd.prog os ⟨#[], #[], []⟩ with heap := putG (putG (putG (World.holding Tryd.prog os ⟨#[], #[], []⟩).heap 0 (intsOf Rows.laid_internal_strconv_uint64pow10)) 1 (intsOf Rows.laid_math_bits_deBruijn32tab)) 2 (intsOf Rows.laid_math_bits_deBruijn64tab) } : World).forCall (fun _ _ => 0) ⟨#[], args, []⟩).memory :=
  laidMet_of_run' 8 (by kernel_rfl) (by kernel_rfl)

end Go.Proofs.YtaknkodjganacaaDoor
