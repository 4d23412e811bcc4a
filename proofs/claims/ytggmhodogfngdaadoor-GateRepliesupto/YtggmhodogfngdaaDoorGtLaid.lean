import Derived.Test.YtggmhodogfngdaaDoorGtRepLaw
import Derived.Test.YtggmhodogfngdaaDoorRows
import Derived.Deep.DeepHandedRow
import Derived.Deep.DeepWitnessRowRef
import Derived.Lib.LaidTab
import Derived.LaidLaws
import Derived.LaidHandle
import Derived.Stop.LaidTwo
import Derived.OpenShut
import Derived.ProofKit
/- The listed tables, and a world that has them. -/
namespace Go.Proofs.YtggmhodogfngdaaDoor.Gt
open Go.Proofs.YtggmhodogfngdaaDoor Go.ChangeShapes Go.WideShapes Go.ChangeAt Go.RowKit Go.Deep
set_option linter.unusedVariables false

abbrev theLaid : List (String × DataW Unit) := [("math/bits.deBruijn32tab", Rows.laid_math_bits_deBruijn32tab), ("math/bits.deBruijn64tab", Rows.laid_math_bits_deBruijn64tab), ("internal/strconv.uint64pow10", Rows.laid_internal_strconv_uint64pow10), ("tidemark/gate.statusNames", Rows.laid_tidemark_gate_statusNames)]
theorem tPow : (Tryd.prog.globals[1]?).map (·.type) = some 108 := by kernel_rfl
theorem powData : Rows.laid_internal_strconv_uint64pow10 (H := Unit) = Lib.tabData .u64 Lib.pow10Tab := by kernel_rfl
theorem pow_of {W : World} (hL : laidMetH Tryd.prog theLaid W) : PowTab W := by
  have hL' : laidMet Tryd.prog theLaid W := hL
  obtain ⟨ps, ⟨g, t, cs, fuel, p, q, hg, ht, hvar, hd, _, _⟩, _⟩ := hL'.tail.tail
  obtain rfl := Option.some.inj (gPow.symm.trans hg)
  obtain rfl := Option.some.inj (tPow.symm.trans ht)
  rw [powData] at hd
  show Lib.TabIs _ _ _ _ _
  unfold Lib.TabIs
  rw [hvar, ← Lib.cells_of_tab Tryd.underlying108 Tryd.underlying29 (by kernel_rfl) (by kernel_rfl) hd]
theorem gNm : Tryd.prog.globalNamed "tidemark/gate.statusNames" = some 0 := by kernel_rfl
theorem tNm : (Tryd.prog.globals[0]?).map (·.type) = some 62 := by kernel_rfl
theorem cNm : Tryd.prog.cellsOf 62 = 30 := by kernel_rfl
theorem cNe : Tryd.prog.cellsOf 61 = 2 := by kernel_rfl
theorem cEr : Tryd.prog.cellsOf 28 = 1 := by kernel_rfl
theorem cSt : Tryd.prog.cellsOf 9 = 1 := by kernel_rfl
def nmZ : List (Int × List UInt8) := tabN.map fun x => ((x.1 : Int), x.2.map UInt8.ofNat)
def nmData {H : Type} (zs : List (Int × List UInt8)) : DataW H := .agg (zs.map fun z => .agg [.lit (.int .i64 z.1), .lit (.string z.2)])
theorem nmIs : Rows.laid_tidemark_gate_statusNames (H := Unit) = nmData nmZ := by kernel_rfl
theorem nmZ_len : nmZ.length = 15 := by kernel_rfl
theorem tabC_is : ∀ (i : Nat) (z : Int × List UInt8), nmZ[i]? = some z → tabC[i * 2]? = some (.int .i64 z.1) ∧ tabC[i * 2 + 1]? = some (.string ⟨z.2.toArray⟩)
  | 0, z, h => by injection h with h; subst h; exact ⟨rfl, rfl⟩
  | 1, z, h => by injection h with h; subst h; exact ⟨rfl, rfl⟩
  | 2, z, h => by injection h with h; subst h; exact ⟨rfl, rfl⟩
  | 3, z, h => by injection h with h; subst h; exact ⟨rfl, rfl⟩
  | 4, z, h => by injection h with h; subst h; exact ⟨rfl, rfl⟩
  | 5, z, h => by injection h with h; subst h; exact ⟨rfl, rfl⟩
  | 6, z, h => by injection h with h; subst h; exact ⟨rfl, rfl⟩
  | 7, z, h => by injection h with h; subst h; exact ⟨rfl, rfl⟩
  | 8, z, h => by injection h with h; subst h; exact ⟨rfl, rfl⟩
  | 9, z, h => by injection h with h; subst h; exact ⟨rfl, rfl⟩
  | 10, z, h => by injection h with h; subst h; exact ⟨rfl, rfl⟩
  | 11, z, h => by injection h with h; subst h; exact ⟨rfl, rfl⟩
  | 12, z, h => by injection h with h; subst h; exact ⟨rfl, rfl⟩
  | 13, z, h => by injection h with h; subst h; exact ⟨rfl, rfl⟩
  | 14, z, h => by injection h with h; subst h; exact ⟨rfl, rfl⟩
  | i + 15, z, h => by
    have := (List.getElem?_eq_some_iff.1 h).1
    rw [nmZ_len] at this
    omega
/-- cells that read as the names are the names -/
theorem cells_of_names {H : Type} {enc : TypeId × Value → H} {w : World} {base : Nat} {sp : Nat → Bool} {held : Bool} {fuel : Nat} {cs : List Value} {p : List MemPlace}
    (h : DataW.trod enc Tryd.prog w base sp held fuel 62 cs = some (nmData nmZ, p)) : cs = tabC := by
  obtain ⟨xs, m, _, hx, hl, hlen, hel⟩ := DataW.trod_array Tryd.underlying62 h
  rw [cNm] at hl
  have hxs : xs.map (·.1) = nmZ.map fun z => (DataW.agg [.lit (.int .i64 z.1), .lit (.string z.2)] : DataW H) := by
    have := congrArg Prod.fst hx
    simpa [nmData] using this.symm
  have key : ∀ i, i < 15 → cs[i * 2]? = tabC[i * 2]? ∧ cs[i * 2 + 1]? = tabC[i * 2 + 1]? := by
    intro i hi
    have h1 := hel i hi
    rw [cNe] at h1
    cases hxi : xs[i]? with
    | none => rw [List.getElem?_eq_none_iff] at hxi; omega
    | some y =>
      rw [hxi] at h1
      obtain ⟨y0, y1, n, hy, _, f0, f1⟩ := trod_struct2 Tryd.underlying61 h1
      obtain ⟨a0, e0, d0, _⟩ := DataW.trod_int Tryd.underlying28 f0
      obtain ⟨a1, e1, d1, _⟩ := DataW.trod_string Tryd.underlying9 f1
      have hz : (xs.map (·.1))[i]? = some y.1 := by simp [hxi]
      rw [hxs, List.getElem?_map] at hz
      cases hzi : nmZ[i]? with
      | none => rw [hzi] at hz; cases hz
      | some z =>
        rw [hzi] at hz
        simp only [Option.map_some, Option.some.injEq] at hz
        rw [hy] at hz
        simp only [DataW.agg.injEq, List.cons.injEq, and_true, d0, d1, DataW.lit.injEq, Lit.int.injEq, Lit.string.injEq, true_and] at hz
        obtain ⟨hz0, hz1⟩ := hz
        obtain ⟨t0, t1⟩ := tabC_is i z hzi
        rw [t0, t1]
        have g0 := congrArg (·[0]?) e0
        have g1 := congrArg (·[0]?) e1
        simp [cEr, List.getElem?_drop] at g0
        simp [cSt, List.getElem?_drop] at g1
        refine ⟨by rw [g0, hz0], ?_⟩
        rw [g1, hz1]
  apply List.ext_getElem?
  intro j
  by_cases hj : j < 30
  · have hk := key (j / 2) (by omega)
    rcases Nat.mod_two_eq_zero_or_one j with h2 | h2
    · have e : j / 2 * 2 = j := by omega
      rw [e] at hk; exact hk.1
    · have e : j / 2 * 2 + 1 = j := by omega
      rw [e] at hk; exact hk.2
  · have hc : tabC.length = 30 := rfl
    rw [List.getElem?_eq_none (by omega), List.getElem?_eq_none (by omega)]
theorem nm_of {W : World} (hL : laidMetH Tryd.prog theLaid W) : NmTab W ∧ 0 < W.heap.size := by
  have hL' : laidMet Tryd.prog theLaid W := hL
  obtain ⟨ps, ⟨g, t, cs, fuel, p, q, hg, ht, hvar, hd, _, _⟩, _⟩ := hL'.tail.tail.tail
  obtain rfl := Option.some.inj (gNm.symm.trans hg)
  obtain rfl := Option.some.inj (tNm.symm.trans ht)
  rw [nmIs] at hd
  have hcs := cells_of_names hd
  have hn : NmTab W := fun j v hj => by
    have := World.var?_cell gNm hvar j
    rw [this, ← Array.getElem?_toList, hcs]; exact hj
  exact ⟨hn, World.block_lt_of_cell? _ _ (hn 0 _ rfl)⟩

/-- a table's cells -/
def intsOf (d : DataW Unit) : Array Value := match d with
  | .agg ps => (ps.map fun x => match x with | .lit (.int k n) => Value.int k n | _ => Value.bool false).toArray
  | _ => #[]
def putG (h : Array Obj) (g : Nat) (cs : Array Value) : Array Obj := h.modify g fun
  | .cells _ t frozen => .cells cs t frozen
  | o => o

set_option maxRecDepth 1000000 in
theorem laid_met (os : Os) (args : Array Value) : laidMet Tryd.prog theLaid (({ World.holding Tryd.prog os ⟨#[], #[], []⟩ with heap := putG (putG (putG (putG (World.holding Tryd.prog os ⟨#[], #[], []⟩).heap 1 (intsOf Rows.laid_internal_strconv_uint64pow10)) 7 (intsOf Rows.laid_math_bits_deBruijn32tab)) 8 (intsOf Rows.laid_math_bits_deBruijn64tab)) 0 tabC.toArray } : World).forCall (fun _ _ => 0) ⟨#[], args, []⟩).memory :=
  laidMet_of_run' 8 (by kernel_rfl) (by kernel_rfl)

end Go.Proofs.YtggmhodogfngdaaDoor.Gt
