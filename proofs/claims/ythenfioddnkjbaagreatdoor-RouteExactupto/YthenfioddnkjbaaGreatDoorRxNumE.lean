import Derived.Test.YthenfioddnkjbaaGreatDoorRxNum
import Derived.Test.YthenfioddnkjbaaGreatDoorDOnl
import Derived.Lib.QuietBelow
import Derived.BigQuiet
import Derived.WalkKit
import Derived.LaidEql
import Derived.Stop.Asserts
import Derived.RowKitTokens
/- What the lines have said so far, as it lies in memory. -/
namespace Go.Proofs.YthenfioddnkjbaaGreatDoor.Rt
open Go.RowKit Go.Sort
set_option linter.unusedVariables false

/-- a draft at p; v: the row of its split keys -/
structure BoxD (w : World) (p : Nat) (d : Dr) (v : Value) : Prop where
  s0 : w.cell? ⟨p, 0, none⟩ = some (.bool (d.f 0).isSome)
  v0 : w.cell? ⟨p, 1, none⟩ = some (.int .u64 ((d.f 0).getD 0 : Nat))
  s1 : w.cell? ⟨p, 2, none⟩ = some (.bool (d.f 1).isSome)
  v1 : w.cell? ⟨p, 3, none⟩ = some (.int .u64 ((d.f 1).getD 0 : Nat))
  s2 : w.cell? ⟨p, 4, none⟩ = some (.bool (d.f 2).isSome)
  v2 : w.cell? ⟨p, 5, none⟩ = some (.int .u64 ((d.f 2).getD 0 : Nat))
  s3 : w.cell? ⟨p, 6, none⟩ = some (.bool (d.f 3).isSome)
  v3 : w.cell? ⟨p, 7, none⟩ = some (.int .u64 ((d.f 3).getD 0 : Nat))
  s4 : w.cell? ⟨p, 8, none⟩ = some (.bool (d.f 4).isSome)
  v4 : w.cell? ⟨p, 9, none⟩ = some (.int .u64 ((d.f 4).getD 0 : Nat))
  sp : w.cell? ⟨p, 10, none⟩ = some v
theorem BoxD.later {w w' : World} {p : Nat} {d : Dr} {v : Value} (h : BoxD w p d v) (hb : Below w.heap.size w w') : BoxD w' p d v :=
  ⟨cell_later hb h.s0, cell_later hb h.v0, cell_later hb h.s1, cell_later hb h.v1, cell_later hb h.s2, cell_later hb h.v2, cell_later hb h.s3, cell_later hb h.v3, cell_later hb h.s4, cell_later hb h.v4, cell_later hb h.sp⟩

/-- a number as an int: above every limit it stays so -/
def smallN (n : Nat) : Nat := if n ≤ 1048577 then n else 1048577
set_option maxHeartbeats 1000000 in
theorem small_is {w : World} {p o n : Nat} (hn : n < 18446744073709551616) (h : w.cell? ⟨p, o + 1, none⟩ = some (.int .u64 (n : Nat))) :
    Calls Tryz.prog 90 #[.pointer (some ⟨p, o, none⟩)] w fun e w' => e = .returned (.int .i64 (smallN n : Nat)) ∧ w' = w := by
  by_cases hs : n ≤ 1048577
  · have hm : min (n : Int) 1048577 = (n : Int) := by omega
    have hv : smallN n = n := if_pos hs
    rw [hv]
    go_enter Tryz.func90, Tryz.ntmps90
    go_wp2_with fail
    go_ret
    exact ⟨by go_num, rfl⟩
  · have hm : min (n : Int) 1048577 = 1048577 := by omega
    have hv : smallN n = 1048577 := if_neg hs
    rw [hv]
    go_enter Tryz.func90, Tryz.ntmps90
    go_wp2_with fail
    go_ret
    exact ⟨by go_num, rfl⟩
set_option maxHeartbeats 2000000 in
theorem whole_is {w : World} {p : Nat} {d : Dr} {v : Value} (h : BoxD w p d v) :
    Calls Tryz.prog 88 #[.pointer (some ⟨p, 0, none⟩)] w fun e w' => e = .returned (.bool d.whole) ∧ Below w.heap.size w w' := by
  obtain ⟨h0, _, h1, _, h2, _, h3, _, h4, _, _⟩ := h
  unfold Dr.whole
  generalize (d.f 0).isSome = b0 at h0 ⊢
  generalize (d.f 1).isSome = b1 at h1 ⊢
  generalize (d.f 2).isSome = b2 at h2 ⊢
  generalize (d.f 3).isSome = b3 at h3 ⊢
  generalize (d.f 4).isSome = b4 at h4 ⊢
  cases b0 <;> cases b1 <;> cases b2 <;> cases b3 <;> cases b4
  all_goals
    go_enter Tryz.func88, Tryz.ntmps88
    go_wp2_with fail
    go_ret
    exact ⟨rfl, Below.refl _ _⟩
end Go.Proofs.YthenfioddnkjbaaGreatDoor.Rt
/- errors.Is at a fault of the program's own. -/
namespace Go.Proofs.YthenfioddnkjbaaGreatDoor.Rt
open Go.RowKit Go.Extern.Stop Go.Stop Go.Extern Go.Sort
set_option linter.unusedVariables false

theorem isTypeOf (v : Value) (w : World) : (Extern.ReflectliteType.typeOf #[.iface 230 v]).run Tryz.prog w = .ok (.iface 170 (.agg #[.pointer (some ⟨11, 230, none⟩)])) w := by kernel_rfl
theorem isComparable : ∃ g, Extern.find Tryz.f190 = some g ∧ ∀ w, (g #[.agg #[.pointer (some ⟨11, 230, none⟩)]]).run Tryz.prog w = .ok (.bool true) w :=
  ⟨(Extern.find Tryz.f190).get (by kernel_rfl), by kernel_rfl, fun w => by kernel_rfl⟩
theorem isMethodComparable (v : Value) (w : World) : (Go.method 359 170 v "Comparable").run Tryz.prog w = .ok (190, v) w := by kernel_rfl
theorem isComp : (Tryz.prog.info? 230).map (·.comparable) = some true := by kernel_rfl
theorem isSize : (Tryz.prog.info? 232).map (·.size) = some 1 := by kernel_rfl
theorem noIsE (v : Value) (xT : TypeId) (w : World) : (Instr.typeAssert (.iface 230 v) xT 182 true).run Tryz.prog w = .ok (.tuple #[.nilIface, .bool false]) w := run_typeAssert_lacksB Tryz.underlying182 (by kernel_rfl) (by kernel_rfl) v xT w
theorem noUnwrapE (v : Value) (xT : TypeId) (w : World) : (Instr.typeAssert (.iface 230 v) xT 177 true).run Tryz.prog w = .ok (.tuple #[.nilIface, .bool false]) w := run_typeAssert_lacksB Tryz.underlying177 (by kernel_rfl) (by kernel_rfl) v xT w
theorem noUnwrapsE (v : Value) (xT : TypeId) (w : World) : (Instr.typeAssert (.iface 230 v) xT 179 true).run Tryz.prog w = .ok (.tuple #[.nilIface, .bool false]) w := run_typeAssert_lacksB Tryz.underlying179 (by kernel_rfl) (by kernel_rfl) v xT w
theorem noIsF (v : Value) (xT : TypeId) (w : World) : (Instr.typeAssert (.iface 89 v) xT 182 true).run Tryz.prog w = .ok (.tuple #[.nilIface, .bool false]) w := run_typeAssert_lacksB Tryz.underlying182 (by kernel_rfl) (by kernel_rfl) v xT w
theorem hasUnwrapF (v : Value) (xT : TypeId) (w : World) : (Instr.typeAssert (.iface 89 v) xT 177 true).run Tryz.prog w = .ok (.tuple #[.iface 89 v, .bool true]) w := run_typeAssert_hasB Tryz.underlying177 (by kernel_rfl) v xT w
theorem methodUnwrapF (v : Value) (w : World) : (Go.method 359 89 v "Unwrap").run Tryz.prog w = .ok (183, v) w := by kernel_rfl
/-- a fault -/
abbrev fltV (l : Int) (x : Value) : Value := .iface 89 (.agg #[.int .i64 l, x])
abbrev errV (a : Addr) : Value := .iface 230 (.pointer (some a))

theorem cells_lt {w : World} {b : Nat} {o : Obj} (h : w.heap[b]? = some o) : b < w.heap.size := (Array.getElem?_eq_some_iff.1 h).1
set_option maxRecDepth 16000 in
set_option maxHeartbeats 2000000 in
theorem is_flt_other (l : Int) (a b : Addr) (ca cb : Array Value) (ta tb : TypeId) (w : World) (hne : a ≠ b) (ha : w.heap[a.block]? = some (.cells ca ta (0, 0))) (hb : w.heap[b.block]? = some (.cells cb tb (0, 0))) :
    Calls Tryz.prog 56 #[fltV l (errV a), errV b] w fun e w' => e = .returned (.bool false) ∧ Below w.heap.size w w' := by
  obtain ⟨i, hi, hcmp⟩ := Option.map_eq_some_iff.1 isComp
  obtain ⟨j, hj, hjs⟩ := Option.map_eq_some_iff.1 isSize
  have h8 := @run_callFunc_extern Tryz.prog 95 _ Extern.ReflectliteType.typeOf Tryz.func95 (by kernel_rfl) (by kernel_rfl) (by kernel_rfl) (by kernel_rfl)
  obtain ⟨g, hg, cT⟩ := isComparable
  have h32 := @run_callFunc_extern Tryz.prog 190 _ g Tryz.func190 (by kernel_rfl) (by kernel_rfl) (by kernel_rfl) hg
  have tT := isTypeOf
  have mR := isMethodComparable
  have nE := noIsE
  have uE := noUnwrapE
  have vE := noUnwrapsE
  have nW := noIsF
  have uW := hasUnwrapF
  have mU := methodUnwrapF
  have heq := run_eql_iface_ptr_other (P := Tryz.prog) (w.alloc (.cells #[.int .i64 l, errV a] 89)) Tryz.underlying57 Tryz.underlying230 hi hcmp hj (by rw [hjs]; decide) hne (((Below.al (Below.refl w.heap.size w) _).block _ (cells_lt ha)).trans ha) (((Below.al (Below.refl w.heap.size w) _).block _ (cells_lt hb)).trans hb)
  have hty := run_eql_iface_types (P := Tryz.prog) 89 230 (.agg #[.int .i64 l, errV a]) (.pointer (some b)) Tryz.underlying57 (by decide) w
  go_enter Tryz.func56, Tryz.ntmps56
  go_wp2
  refine wp_loop_rounds 2 ?_
  rw [rounds_succ]
  go_wp2
  rw [rounds_succ]
  go_wp2
  go_ret
  exact ⟨rfl, by (repeat (first | with_reducible exact Below.refl _ _ | with_reducible assumption | with_reducible refine Below.drew ?_ | with_reducible refine Below.al ?_ _ | with_reducible refine Below.setCell ?_ (by first | exact Nat.le_refl _ | (simp; omega) | (simp; done)) _ | with_reducible refine Below.on ?_ (by assumption)))⟩
end Go.Proofs.YthenfioddnkjbaaGreatDoor.Rt
/- errors.Is at a fault, where it is the same; at a number's error. -/
namespace Go.Proofs.YthenfioddnkjbaaGreatDoor.Rt
open Go.RowKit Go.Extern.Stop Go.Stop Go.Extern Go.Sort
set_option linter.unusedVariables false

set_option maxRecDepth 16000 in
set_option maxHeartbeats 2000000 in
theorem is_flt_same (l : Int) (a : Addr) (w : World) :
    Calls Tryz.prog 56 #[fltV l (errV a), errV a] w fun e w' => e = .returned (.bool true) ∧ Below w.heap.size w w' := by
  obtain ⟨i, hi, hcmp⟩ := Option.map_eq_some_iff.1 isComp
  obtain ⟨j, hj, hjs⟩ := Option.map_eq_some_iff.1 isSize
  have h8 := @run_callFunc_extern Tryz.prog 95 _ Extern.ReflectliteType.typeOf Tryz.func95 (by kernel_rfl) (by kernel_rfl) (by kernel_rfl) (by kernel_rfl)
  obtain ⟨g, hg, cT⟩ := isComparable
  have h32 := @run_callFunc_extern Tryz.prog 190 _ g Tryz.func190 (by kernel_rfl) (by kernel_rfl) (by kernel_rfl) hg
  have tT := isTypeOf
  have mR := isMethodComparable
  have nW := noIsF
  have uW := hasUnwrapF
  have mU := methodUnwrapF
  have heq : ∀ w : World, (binOp .eql 57 (errV a) (errV a)).run Tryz.prog w = .ok (.bool true) w := fun w => run_eql_iface_ptr_same (P := Tryz.prog) (w := w) a Tryz.underlying57 Tryz.underlying230 hi hcmp hj
  have hty := run_eql_iface_types (P := Tryz.prog) 89 230 (.agg #[.int .i64 l, errV a]) (.pointer (some a)) Tryz.underlying57 (by decide) w
  go_enter Tryz.func56, Tryz.ntmps56
  go_wp2
  refine wp_loop_rounds 2 ?_
  rw [rounds_succ]
  go_wp2
  rw [rounds_succ]
  go_wp2
  go_ret
  exact ⟨rfl, by (repeat (first | with_reducible exact Below.refl _ _ | with_reducible assumption | with_reducible refine Below.drew ?_ | with_reducible refine Below.al ?_ _ | with_reducible refine Below.setCell ?_ (by first | exact Nat.le_refl _ | (simp; omega) | (simp; done)) _ | with_reducible refine Below.on ?_ (by assumption)))⟩
theorem noIsN (v : Value) (xT : TypeId) (w : World) : (Instr.typeAssert (.iface 223 v) xT 182 true).run Tryz.prog w = .ok (.tuple #[.nilIface, .bool false]) w := run_typeAssert_lacksB Tryz.underlying182 (by kernel_rfl) (by kernel_rfl) v xT w
theorem hasUnwrapN (v : Value) (xT : TypeId) (w : World) : (Instr.typeAssert (.iface 223 v) xT 177 true).run Tryz.prog w = .ok (.tuple #[.iface 223 v, .bool true]) w := run_typeAssert_hasB Tryz.underlying177 (by kernel_rfl) v xT w
theorem methodUnwrapN (v : Value) (w : World) : (Go.method 359 223 v "Unwrap").run Tryz.prog w = .ok (201, v) w := by kernel_rfl
set_option maxRecDepth 16000 in
set_option maxHeartbeats 2000000 in
theorem is_num_same (N : Nat) (a : Addr) (w : World) (hN : w.cell? ⟨N, 2, none⟩ = some (errV a)) :
    Calls Tryz.prog 56 #[.iface 223 (.pointer (some ⟨N, 0, none⟩)), errV a] w fun e w' => e = .returned (.bool true) ∧ Below w.heap.size w w' := by
  obtain ⟨i, hi, hcmp⟩ := Option.map_eq_some_iff.1 isComp
  obtain ⟨j, hj, hjs⟩ := Option.map_eq_some_iff.1 isSize
  have h8 := @run_callFunc_extern Tryz.prog 95 _ Extern.ReflectliteType.typeOf Tryz.func95 (by kernel_rfl) (by kernel_rfl) (by kernel_rfl) (by kernel_rfl)
  obtain ⟨g, hg, cT⟩ := isComparable
  have h32 := @run_callFunc_extern Tryz.prog 190 _ g Tryz.func190 (by kernel_rfl) (by kernel_rfl) (by kernel_rfl) hg
  have tT := isTypeOf
  have mR := isMethodComparable
  have nW := noIsN
  have uW := hasUnwrapN
  have mU := methodUnwrapN
  have heq : ∀ w : World, (binOp .eql 57 (errV a) (errV a)).run Tryz.prog w = .ok (.bool true) w := fun w => run_eql_iface_ptr_same (P := Tryz.prog) (w := w) a Tryz.underlying57 Tryz.underlying230 hi hcmp hj
  have hty := run_eql_iface_types (P := Tryz.prog) 223 230 (.pointer (some ⟨N, 0, none⟩)) (.pointer (some a)) Tryz.underlying57 (by decide) w
  go_enter Tryz.func56, Tryz.ntmps56
  go_wp2
  refine wp_loop_rounds 2 ?_
  rw [rounds_succ]
  go_wp2
  rw [rounds_succ]
  go_wp2
  go_ret
  exact ⟨rfl, by (repeat (first | with_reducible exact Below.refl _ _ | with_reducible assumption | with_reducible refine Below.drew ?_ | with_reducible refine Below.al ?_ _ | with_reducible refine Below.setCell ?_ (by first | exact Nat.le_refl _ | (simp; omega) | (simp; done)) _ | with_reducible refine Below.on ?_ (by assumption)))⟩
end Go.Proofs.YthenfioddnkjbaaGreatDoor.Rt
/- The program's number at words that are none. -/
namespace Go.Proofs.YthenfioddnkjbaaGreatDoor.Rt
open Go.RowKit Go.Sort
set_option linter.unusedVariables false

theorem not_in {b : UInt8} (h : isD b = false) : digits.data.toList.contains b = false := by
  have : ∀ n : Fin 256, (decide (48 ≤ n.val) && decide (n.val ≤ 57)) = false → digits.data.toList.contains (UInt8.ofNat n.val) = false := by decide +kernel
  have e := this ⟨b.toNat, b.toNat_lt⟩ h
  simpa using e
/-- something is left -/
def TrB (w : World) (e : Ending) (w' : World) : Prop := (∃ r : ByteArray, e = .returned (.string r) ∧ r.toList.isEmpty = false) ∧ Below w.heap.size w w'
theorem trim_bad {t : ByteArray} (hs : t.size ≤ 1000) {k : Nat} {c : UInt8} (hc : t.data.toList[k]? = some c) (hd : isD c = false) (w : World) :
    Calls Tryz.prog 133 #[.string t, .string ⟨#[48, 49, 50, 51, 52, 53, 54, 55, 56, 57]⟩] w (TrB w) := by
  have h0 : 0 < t.size := by
    have := (List.getElem?_eq_some_iff.1 hc).1
    rw [Lib.size_eq]; omega
  refine (Any.strings_Trim_set Tryz.lays160 (by intro w; kernel_rfl) (by kernel_rfl) t digits w (by decide) h0 (by omega) (by decide) (fun j b hj => ?_)).mono ?_
  · have : ∀ x ∈ digits.data.toList, x.toNat < 128 := by decide
    exact this b (List.mem_of_getElem? hj)
  · rintro e w' ⟨rfl, q, rfl⟩
    have e0 : Lib.trimS t.data.toList digits.data.toList ≠ [] := fun e => by
      have := (trim_nil _ _).1 e c (List.mem_of_getElem? hc)
      rw [not_in hd] at this; cases this
    refine ⟨⟨_, rfl, ?_⟩, drew_n (Below.al (Below.al (Below.refl _ _) _) _) q⟩
    rw [ByteArray.toList_eq]
    cases hz : Lib.trimS t.data.toList digits.data.toList with
    | nil => exact absurd hz e0
    | cons a l => rfl
set_option maxRecDepth 16000 in
set_option maxHeartbeats 2000000 in
/-- a word with another byte than a digit -/
theorem number_bad {t : ByteArray} {x : Value} {w : World} (hs : t.size ≤ 1000) {k : Nat} {c : UInt8} (hc : t.data.toList[k]? = some c) (hd : isD c = false) (hg : w.cell? ⟨0, 0, none⟩ = some x) :
    Calls Tryz.prog 122 #[.string t] w fun e w' => e = .returned (.tuple #[.int .u64 0, x]) ∧ Below w.heap.size w w' := by
  have HT := hid (trim_bad hs hc hd)
  have HG := hid hg
  clear hc hd hg
  go_enter Tryz.func122, Tryz.ntmps122
  go_wp2_with fail
  refine (HT.out _).mono ?_
  rintro e w1 ⟨⟨r, rfl, hr⟩, hb1⟩
  have g := cell_later hb1 HG.out
  go_wp2_with fail
  go_region
  all_goals go_wp2_with fail
  all_goals go_ret2
  all_goals exact ⟨rfl, by (repeat (first | with_reducible exact Below.refl _ _ | with_reducible assumption | with_reducible refine Below.drew ?_ | with_reducible refine Below.al ?_ _ | with_reducible refine Below.setCell ?_ (by first | exact Nat.le_refl _ | (simp; omega) | (simp; done)) _ | with_reducible refine Below.on ?_ (by assumption)))⟩
set_option maxRecDepth 16000 in
set_option maxHeartbeats 2000000 in
/-- digits that begin with a zero -/
theorem number_led {t : ByteArray} {x : Value} {w : World} (hs : t.size ≤ 1000) (h1 : 1 < t.size) (hh : t.data.toList[0]? = some 48) (hd : ∀ b ∈ t.data.toList, 48 ≤ b.toNat ∧ b.toNat ≤ 57) (hg : w.cell? ⟨0, 0, none⟩ = some x) :
    Calls Tryz.prog 122 #[.string t] w fun e w' => e = .returned (.tuple #[.int .u64 0, x]) ∧ Below w.heap.size w w' := by
  have HT := hid (trim_is (by omega) hs hd)
  have hix : ∀ w, (Instr.index 9 (.string t) (.int .i64 0)).run Tryz.prog w = .ok (.int .u8 48) w := index_bytes (k := 0) hh
  have HG := hid hg
  clear hh hd hg
  go_enter Tryz.func122, Tryz.ntmps122
  go_wp2_with fail
  refine (HT.out _).mono ?_
  rintro e w1 ⟨rfl, hb1⟩
  have g := cell_later hb1 HG.out
  go_wp2_with fail
  go_region
  all_goals go_wp2_with fail
  all_goals go_ret2
  all_goals exact ⟨rfl, by (repeat (first | with_reducible exact Below.refl _ _ | with_reducible assumption | with_reducible refine Below.drew ?_ | with_reducible refine Below.al ?_ _ | with_reducible refine Below.setCell ?_ (by first | exact Nat.le_refl _ | (simp; omega) | (simp; done)) _ | with_reducible refine Below.on ?_ (by assumption)))⟩
/-- ParseUint, beyond all numbers -/
def PrR (w : World) (a : Addr) (e : Ending) (w' : World) : Prop := (∃ N, e = .returned (.tuple #[.int .u64 18446744073709551615, .iface 223 (.pointer (some ⟨N, 0, none⟩))]) ∧ w'.cell? ⟨N, 2, none⟩ = some (errV a)) ∧ Below w.heap.size w w'
theorem parse_over {t : ByteArray} {a : Addr} (hs : t.size ≤ 1000) (h0 : t.data.toList ≠ []) (h : Lib.parseUint10 0 t.data.toList = .range) (w : World) (hr : w.cell? ⟨4, 0, none⟩ = some (errV a)) :
    Calls Tryz.prog 134 #[.string t, .int .i64 10, .int .i64 64] w (PrR w a) := by
  refine (Tryz.strconv_ParseUint_10_at64_range t (by omega) ?_ (errV a) w hr (.inr ⟨_, _, rfl⟩)).mono ?_
  · unfold Lib.parseUintB
    simp [h0, h, Lib.parseUintM_64]
  · rintro e w' ⟨N, rfl, h1, h2, h3⟩
    refine ⟨⟨N, rfl, ?_⟩, h3⟩
    simp only [World.cell?, h2]
    rfl
set_option maxRecDepth 16000 in
set_option maxHeartbeats 2000000 in
/-- a number beyond all -/
theorem number_over {t : ByteArray} {x : Value} {a : Addr} {w : World} (hs : t.size ≤ 1000) (h0 : t.data.toList ≠ []) (hz : ¬ (1 < t.size ∧ t.data.toList[0]? = some 48)) (hd : ∀ b ∈ t.data.toList, 48 ≤ b.toNat ∧ b.toNat ≤ 57) (h : Lib.parseUint10 0 t.data.toList = .range)
    (hr : w.cell? ⟨4, 0, none⟩ = some (errV a)) (hg : w.cell? ⟨1, 0, none⟩ = some x) :
    Calls Tryz.prog 122 #[.string t] w fun e w' => e = .returned (.tuple #[.int .u64 0, x]) ∧ Below w.heap.size w w' := by
  have hp : 0 < t.size := by rw [Lib.size_eq]; exact List.length_pos_iff.2 h0
  have HT := hid (trim_is hp hs hd)
  have HP := hid (parse_over (a := a) hs h0 h)
  have HG := hid hg
  have HR := hid hr
  obtain ⟨c, hc⟩ : ∃ c, t.data.toList[0]? = some c := by
    cases e : t.data.toList with
    | nil => exact absurd e h0
    | cons b r => exact ⟨b, rfl⟩
  have hix : ∀ w, (Instr.index 9 (.string t) (.int .i64 0)).run Tryz.prog w = .ok (.int .u8 (c.toNat : Int)) w := index_bytes (k := 0) hc
  have HK : ∀ P : Prop, (decide ((1 : Int) < (t.size : Int)) = false → P) → ((1 : Int) < (t.size : Int) → ((c.toNat : Int) == 48) = false → P) → P := fun P p1 p2 => by
    by_cases h1 : 1 < t.size
    · refine p2 (by omega) ?_
      rw [beq_eq_false_iff_ne]; intro h; apply hz
      refine ⟨h1, ?_⟩
      rw [hc]; congr 1; apply UInt8.toNat_inj.1
      have : (48 : UInt8).toNat = 48 := rfl
      omega
    · exact p1 (decide_eq_false (by omega))
  clear hd hg hr h h0 hz hc
  apply HK
  all_goals
    intros
    clear HK
    go_enter Tryz.func122, Tryz.ntmps122
    go_wp2_with fail
    refine (HT.out _).mono ?_
    rintro e w1 ⟨rfl, hb1⟩
    go_wp2_with fail
    refine (HP.out _ (cell_later hb1 HR.out)).mono ?_
    rintro e w2 ⟨⟨N, rfl, hN⟩, hb2⟩
    have hb02 := Below.on hb1 hb2
    have g := cell_later hb02 HR.out
    have HN := hid hN
    have HB2 := hid hb02
    clear hN hb1 hb2 hb02
    go_wp2_with fail
    refine (is_num_same N a _ HN.out).mono ?_
    rintro e w3 ⟨rfl, hb3⟩
    have hB := Below.on HB2.out hb3
    have g3 := cell_later hB HG.out
    go_wp2_with fail
    go_region
    all_goals go_wp2_with fail
    all_goals go_ret2
    all_goals exact ⟨rfl, by (repeat (first | with_reducible exact Below.refl _ _ | with_reducible assumption | with_reducible refine Below.drew ?_ | with_reducible refine Below.al ?_ _ | with_reducible refine Below.setCell ?_ (by first | exact Nat.le_refl _ | (simp; omega) | (simp; done)) _ | with_reducible refine Below.on ?_ (by assumption)))⟩
end Go.Proofs.YthenfioddnkjbaaGreatDoor.Rt
/- The program's number at the empty word. -/
namespace Go.Proofs.YthenfioddnkjbaaGreatDoor.Rt
open Go.RowKit Go.Extern.Stop Go.Stop Go.Extern Go.Sort
set_option linter.unusedVariables false

set_option maxRecDepth 16000 in
set_option maxHeartbeats 2000000 in
/-- errors.Is at a number's error that holds another error -/
theorem is_num_other (N : Nat) (a b : Addr) (ca cb : Array Value) (ta tb : TypeId) (w : World) (hne : a ≠ b) (hN : w.cell? ⟨N, 2, none⟩ = some (errV a)) (ha : w.heap[a.block]? = some (.cells ca ta (0, 0))) (hb : w.heap[b.block]? = some (.cells cb tb (0, 0))) :
    Calls Tryz.prog 56 #[.iface 223 (.pointer (some ⟨N, 0, none⟩)), errV b] w fun e w' => e = .returned (.bool false) ∧ Below w.heap.size w w' := by
  obtain ⟨i, hi, hcmp⟩ := Option.map_eq_some_iff.1 isComp
  obtain ⟨j, hj, hjs⟩ := Option.map_eq_some_iff.1 isSize
  have h8 := @run_callFunc_extern Tryz.prog 95 _ Extern.ReflectliteType.typeOf Tryz.func95 (by kernel_rfl) (by kernel_rfl) (by kernel_rfl) (by kernel_rfl)
  obtain ⟨g, hg, cT⟩ := isComparable
  have h32 := @run_callFunc_extern Tryz.prog 190 _ g Tryz.func190 (by kernel_rfl) (by kernel_rfl) (by kernel_rfl) hg
  have tT := isTypeOf
  have mR := isMethodComparable
  have nE := noIsE
  have uE := noUnwrapE
  have vE := noUnwrapsE
  have nW := noIsN
  have uW := hasUnwrapN
  have mU := methodUnwrapN
  have heq := run_eql_iface_ptr_other (P := Tryz.prog) w Tryz.underlying57 Tryz.underlying230 hi hcmp hj (by rw [hjs]; decide) hne ha hb
  have hty := run_eql_iface_types (P := Tryz.prog) 223 230 (.pointer (some ⟨N, 0, none⟩)) (.pointer (some b)) Tryz.underlying57 (by decide) w
  go_enter Tryz.func56, Tryz.ntmps56
  go_wp2
  refine wp_loop_rounds 2 ?_
  rw [rounds_succ]
  go_wp2
  rw [rounds_succ]
  go_wp2
  go_ret
  exact ⟨rfl, by (repeat (first | with_reducible exact Below.refl _ _ | with_reducible assumption | with_reducible refine Below.drew ?_ | with_reducible refine Below.al ?_ _ | with_reducible refine Below.setCell ?_ (by first | exact Nat.le_refl _ | (simp; omega) | (simp; done)) _ | with_reducible refine Below.on ?_ (by assumption)))⟩
theorem trim_none (w : World) : Calls Tryz.prog 133 #[.string ⟨#[]⟩, .string ⟨#[48, 49, 50, 51, 52, 53, 54, 55, 56, 57]⟩] w fun e w' => e = .returned (.string ⟨#[]⟩) ∧ Below w.heap.size w w' := by
  go_enter Tryz.func133, Tryz.ntmps133
  go_wp2
  go_ret
  exact ⟨rfl, by (repeat (first | with_reducible exact Below.refl _ _ | with_reducible assumption | with_reducible refine Below.drew ?_ | with_reducible refine Below.al ?_ _ | with_reducible refine Below.setCell ?_ (by first | exact Nat.le_refl _ | (simp; omega) | (simp; done)) _ | with_reducible refine Below.on ?_ (by assumption)))⟩
/-- ParseUint at nothing -/
def PrS (w : World) (a : Addr) (e : Ending) (w' : World) : Prop := (∃ N, e = .returned (.tuple #[.int .u64 0, .iface 223 (.pointer (some ⟨N, 0, none⟩))]) ∧ w'.cell? ⟨N, 2, none⟩ = some (errV a)) ∧ Below w.heap.size w w'
theorem parse_none {a : Addr} (w : World) (hr : w.cell? ⟨10, 0, none⟩ = some (errV a)) :
    Calls Tryz.prog 134 #[.string ⟨#[]⟩, .int .i64 10, .int .i64 64] w (PrS w a) := by
  refine (Any.strconv_ParseUint_10_at64_syntax Tryz.laysPu14 ⟨#[]⟩ (by decide) (by decide) (errV a) w hr (.inr ⟨_, _, rfl⟩)).mono ?_
  rintro e w' ⟨N, rfl, h1, h2, h3⟩
  refine ⟨⟨N, rfl, ?_⟩, h3⟩
  simp only [World.cell?, h2]
  rfl
theorem obj_later {w w' : World} (hb : Below w.heap.size w w') {k : Nat} {o : Obj} (h : w.heap[k]? = some o) : w'.heap[k]? = some o := (hb.block _ (cells_lt h)).trans h
set_option maxRecDepth 16000 in
set_option maxHeartbeats 2000000 in
/-- the empty word -/
theorem number_none {x : Value} {a b : Addr} {ca cb : Array Value} {ta tb : TypeId} {w : World} (hne : a ≠ b) (ha : w.heap[a.block]? = some (.cells ca ta (0, 0))) (hb : w.heap[b.block]? = some (.cells cb tb (0, 0)))
    (hs : w.cell? ⟨10, 0, none⟩ = some (errV a)) (hr : w.cell? ⟨4, 0, none⟩ = some (errV b)) (hg : w.cell? ⟨0, 0, none⟩ = some x) :
    Calls Tryz.prog 122 #[.string ⟨#[]⟩] w fun e w' => e = .returned (.tuple #[.int .u64 0, x]) ∧ Below w.heap.size w w' := by
  have HT := hid trim_none
  have HP := hid (@parse_none a)
  have HG := hid hg
  have HS := hid hs
  have HR := hid hr
  have HA := hid (And.intro ha hb)
  clear hg hs hr ha hb
  go_enter Tryz.func122, Tryz.ntmps122
  go_wp2_with fail
  refine (HT.out _).mono ?_
  rintro e w1 ⟨rfl, hb1⟩
  go_wp2_with fail
  refine (HP.out _ (cell_later hb1 HS.out)).mono ?_
  rintro e w2 ⟨⟨N, rfl, hN⟩, hb2⟩
  have hb02 := Below.on hb1 hb2
  have g := cell_later hb02 HR.out
  have HN := hid hN
  have HB2 := hid hb02
  clear hN hb1 hb2 hb02
  go_wp2_with fail
  refine (is_num_other N a b ca cb ta tb _ hne HN.out (obj_later HB2.out HA.out.1) (obj_later HB2.out HA.out.2)).mono ?_
  rintro e w3 ⟨rfl, hb3⟩
  have hB := Below.on HB2.out hb3
  have g3 := cell_later hB HG.out
  go_wp2_with fail
  go_region
  all_goals go_wp2_with fail
  all_goals go_ret2
  all_goals exact ⟨rfl, by (repeat (first | with_reducible exact Below.refl _ _ | with_reducible assumption | with_reducible refine Below.drew ?_ | with_reducible refine Below.al ?_ _ | with_reducible refine Below.setCell ?_ (by first | exact Nat.le_refl _ | (simp; omega) | (simp; done)) _ | with_reducible refine Below.on ?_ (by assumption)))⟩
end Go.Proofs.YthenfioddnkjbaaGreatDoor.Rt
