import Derived.Test.YtfkiccdjffhhhaaGreatDoorRdDraft
import Derived.Test.YtfkiccdjffhhhaaGreatDoorDOnl
import Derived.WalkKit
import Derived.LaidEql
import Derived.Stop.Asserts
import Derived.RowKitTokens
/- errors.Is at a fault of the program's own. -/
namespace Go.Proofs.YtfkiccdjffhhhaaGreatDoor.Rt
open Go.RowKit Go.Extern.Stop Go.Stop Go.Extern Go.Sort
set_option linter.unusedVariables false

theorem isTypeOf (v : Value) (w : World) : (Extern.ReflectliteType.typeOf #[.iface 164 v]).run Tryz.prog w = .ok (.iface 111 (.agg #[.pointer (some ⟨11, 164, none⟩)])) w := by kernel_rfl
theorem isComparable : ∃ g, Extern.find Tryz.f129 = some g ∧ ∀ w, (g #[.agg #[.pointer (some ⟨11, 164, none⟩)]]).run Tryz.prog w = .ok (.bool true) w :=
  ⟨(Extern.find Tryz.f129).get (by kernel_rfl), by kernel_rfl, fun w => by kernel_rfl⟩
theorem isMethodComparable (v : Value) (w : World) : (Go.method 293 111 v "Comparable").run Tryz.prog w = .ok (129, v) w := by kernel_rfl
theorem isComp : (Tryz.prog.info? 164).map (·.comparable) = some true := by kernel_rfl
theorem isSize : (Tryz.prog.info? 166).map (·.size) = some 1 := by kernel_rfl
theorem noIsE (v : Value) (xT : TypeId) (w : World) : (Instr.typeAssert (.iface 164 v) xT 123 true).run Tryz.prog w = .ok (.tuple #[.nilIface, .bool false]) w := run_typeAssert_lacksB Tryz.underlying123 (by kernel_rfl) (by kernel_rfl) v xT w
theorem noUnwrapE (v : Value) (xT : TypeId) (w : World) : (Instr.typeAssert (.iface 164 v) xT 118 true).run Tryz.prog w = .ok (.tuple #[.nilIface, .bool false]) w := run_typeAssert_lacksB Tryz.underlying118 (by kernel_rfl) (by kernel_rfl) v xT w
theorem noUnwrapsE (v : Value) (xT : TypeId) (w : World) : (Instr.typeAssert (.iface 164 v) xT 120 true).run Tryz.prog w = .ok (.tuple #[.nilIface, .bool false]) w := run_typeAssert_lacksB Tryz.underlying120 (by kernel_rfl) (by kernel_rfl) v xT w
theorem noIsF (v : Value) (xT : TypeId) (w : World) : (Instr.typeAssert (.iface 60 v) xT 123 true).run Tryz.prog w = .ok (.tuple #[.nilIface, .bool false]) w := run_typeAssert_lacksB Tryz.underlying123 (by kernel_rfl) (by kernel_rfl) v xT w
theorem hasUnwrapF (v : Value) (xT : TypeId) (w : World) : (Instr.typeAssert (.iface 60 v) xT 118 true).run Tryz.prog w = .ok (.tuple #[.iface 60 v, .bool true]) w := run_typeAssert_hasB Tryz.underlying118 (by kernel_rfl) v xT w
theorem methodUnwrapF (v : Value) (w : World) : (Go.method 293 60 v "Unwrap").run Tryz.prog w = .ok (123, v) w := by kernel_rfl
/-- a fault -/
abbrev fltV (l : Int) (x : Value) : Value := .iface 60 (.agg #[.int .i64 l, x])
abbrev errV (a : Addr) : Value := .iface 164 (.pointer (some a))

theorem cells_lt {w : World} {b : Nat} {o : Obj} (h : w.heap[b]? = some o) : b < w.heap.size := (Array.getElem?_eq_some_iff.1 h).1
set_option maxRecDepth 16000 in
set_option maxHeartbeats 2000000 in
theorem is_flt_other (l : Int) (a b : Addr) (ca cb : Array Value) (ta tb : TypeId) (w : World) (hne : a ≠ b) (ha : w.heap[a.block]? = some (.cells ca ta (0, 0))) (hb : w.heap[b.block]? = some (.cells cb tb (0, 0))) :
    Calls Tryz.prog 30 #[fltV l (errV a), errV b] w fun e w' => e = .returned (.bool false) ∧ Below w.heap.size w w' := by
  obtain ⟨i, hi, hcmp⟩ := Option.map_eq_some_iff.1 isComp
  obtain ⟨j, hj, hjs⟩ := Option.map_eq_some_iff.1 isSize
  have h8 := @run_callFunc_extern Tryz.prog 45 _ Extern.ReflectliteType.typeOf Tryz.func45 (by kernel_rfl) (by kernel_rfl) (by kernel_rfl) (by kernel_rfl)
  obtain ⟨g, hg, cT⟩ := isComparable
  have h32 := @run_callFunc_extern Tryz.prog 129 _ g Tryz.func129 (by kernel_rfl) (by kernel_rfl) (by kernel_rfl) hg
  have tT := isTypeOf
  have mR := isMethodComparable
  have nE := noIsE
  have uE := noUnwrapE
  have vE := noUnwrapsE
  have nW := noIsF
  have uW := hasUnwrapF
  have mU := methodUnwrapF
  have heq := run_eql_iface_ptr_other (P := Tryz.prog) (w.alloc (.cells #[.int .i64 l, errV a] 60)) Tryz.underlying44 Tryz.underlying164 hi hcmp hj (by rw [hjs]; decide) hne (((Below.al (Below.refl w.heap.size w) _).block _ (cells_lt ha)).trans ha) (((Below.al (Below.refl w.heap.size w) _).block _ (cells_lt hb)).trans hb)
  have hty := run_eql_iface_types (P := Tryz.prog) 60 164 (.agg #[.int .i64 l, errV a]) (.pointer (some b)) Tryz.underlying44 (by decide) w
  go_enter Tryz.func30, Tryz.ntmps30
  go_wp2
  refine wp_loop_rounds 2 ?_
  rw [rounds_succ]
  go_wp2
  rw [rounds_succ]
  go_wp2
  go_ret
  exact ⟨rfl, by (repeat (first | with_reducible exact Below.refl _ _ | with_reducible assumption | with_reducible refine Below.drew ?_ | with_reducible refine Below.al ?_ _ | with_reducible refine Below.setCell ?_ (by first | exact Nat.le_refl _ | (simp; omega) | (simp; done)) _ | with_reducible refine Below.on ?_ (by assumption)))⟩
end Go.Proofs.YtfkiccdjffhhhaaGreatDoor.Rt
