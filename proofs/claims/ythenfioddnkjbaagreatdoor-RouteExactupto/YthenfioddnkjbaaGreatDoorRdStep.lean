import Derived.Test.YthenfioddnkjbaaGreatDoorRxNum
import Derived.Test.YthenfioddnkjbaaGreatDoorRxNumE
import Derived.Test.YthenfioddnkjbaaGreatDoorRdSplit
import Derived.WalkSmall
/- A line, taken. -/
namespace Go.Proofs.YthenfioddnkjbaaGreatDoor.Rt
open Go.RowKit Go.Sort
set_option linter.unusedVariables false

theorem line_facts {k : Nat} {L t : ByteArray} (hL : L.data.toList = ln k t.data.toList) : ∃ h0 : 0 < L.size, (((L[0]'h0).toNat : Int) == 35) = false ∧ L.toList.isEmpty = false ∧ (⟨(Lib.cut L.data.toList [32]).1.toArray⟩ : ByteArray) = ⟨(nm k).toArray⟩ ∧ (⟨(Lib.cut L.data.toList [32]).2.1.toArray⟩ : ByteArray) = t := by
  obtain ⟨b, r, e, hb, _⟩ := nm_head k
  have h0 : 0 < L.size := by rw [Lib.size_eq, hL]; unfold ln; rw [e]; simp
  have h6 : L.data.toList.head? = some (L[0]'h0) := by
    rw [List.head?_eq_getElem?, Array.getElem?_toList]
    exact Array.getElem?_eq_getElem (by exact h0)
  refine ⟨h0, ?_, ?_, ?_, ?_⟩
  · rw [hL] at h6
    unfold ln at h6
    rw [e] at h6
    have h7 : b = L[0]'h0 := by simpa using h6
    rw [← h7, beq_eq_false_iff_ne]
    intro h8
    apply hb
    apply UInt8.toNat_inj.1
    have : (35 : UInt8).toNat = 35 := rfl
    omega
  · rw [Lib.toList_data, hL]; unfold ln; rw [e]; rfl
  · rw [(lcut_is _).1, hL, ln_head]
  · rw [(lcut_is _).2, hL, ln_tail]
set_option maxRecDepth 16000 in
set_option maxHeartbeats 2000000 in
theorem take0_is {p : Nat} {L t : ByteArray} {w : World} {m : Int} {r : Value} {R : World → Prop} (hL : L.data.toList = ln 0 t.data.toList) (hs : L.size ≤ 1000) (hg : w.cell? ⟨5, 0, none⟩ = some (.int .i64 m))
    (FT : ∀ n, Calls Tryz.prog 106 #[.pointer (some ⟨p, 0, none⟩), .string t] (w.drewN n) fun e w' => e = .returned r ∧ R w') :
    Calls Tryz.prog 87 #[.pointer (some ⟨p, 0, none⟩), .string L] w fun e w' => e = .returned r ∧ R w' := by
  obtain ⟨h0, h35, hne, e1, e2⟩ := line_facts hL
  have HC := hid (Tryz.strings_Cut L ⟨#[32]⟩ m w (by omega) hg)
  have hd : (⟨#[32]⟩ : ByteArray).data.toList = [32] := rfl
  rw [hd, e1, e2] at HC
  have FT' := hid FT
  clear FT
  go_enter Tryz.func87, Tryz.ntmps87
  go_wp2_with fail
  refine HC.out.mono ?_
  rintro e w1 ⟨rfl, n, rfl⟩
  go_wp2_with fail
  refine (FT'.out n).mono ?_
  rintro e w2 ⟨rfl, h2⟩
  go_wp2_with fail
  go_ret
  exact ⟨rfl, h2⟩
set_option maxRecDepth 16000 in
set_option maxHeartbeats 2000000 in
theorem take1_is {p : Nat} {L t : ByteArray} {w : World} {m : Int} {r : Value} {R : World → Prop} (hL : L.data.toList = ln 1 t.data.toList) (hs : L.size ≤ 1000) (hg : w.cell? ⟨5, 0, none⟩ = some (.int .i64 m))
    (FT : ∀ n, Calls Tryz.prog 106 #[.pointer (some ⟨p, 2, none⟩), .string t] (w.drewN n) fun e w' => e = .returned r ∧ R w') :
    Calls Tryz.prog 87 #[.pointer (some ⟨p, 0, none⟩), .string L] w fun e w' => e = .returned r ∧ R w' := by
  obtain ⟨h0, h35, hne, e1, e2⟩ := line_facts hL
  have HC := hid (Tryz.strings_Cut L ⟨#[32]⟩ m w (by omega) hg)
  have hd : (⟨#[32]⟩ : ByteArray).data.toList = [32] := rfl
  rw [hd, e1, e2] at HC
  have FT' := hid FT
  clear FT
  go_enter Tryz.func87, Tryz.ntmps87
  go_wp2_with fail
  refine HC.out.mono ?_
  rintro e w1 ⟨rfl, n, rfl⟩
  go_wp2_with fail
  refine (FT'.out n).mono ?_
  rintro e w2 ⟨rfl, h2⟩
  go_wp2_with fail
  go_ret
  exact ⟨rfl, h2⟩
set_option maxRecDepth 16000 in
set_option maxHeartbeats 2000000 in
theorem take2_is {p : Nat} {L t : ByteArray} {w : World} {m : Int} {r : Value} {R : World → Prop} (hL : L.data.toList = ln 2 t.data.toList) (hs : L.size ≤ 1000) (hg : w.cell? ⟨5, 0, none⟩ = some (.int .i64 m))
    (FT : ∀ n, Calls Tryz.prog 106 #[.pointer (some ⟨p, 4, none⟩), .string t] (w.drewN n) fun e w' => e = .returned r ∧ R w') :
    Calls Tryz.prog 87 #[.pointer (some ⟨p, 0, none⟩), .string L] w fun e w' => e = .returned r ∧ R w' := by
  obtain ⟨h0, h35, hne, e1, e2⟩ := line_facts hL
  have HC := hid (Tryz.strings_Cut L ⟨#[32]⟩ m w (by omega) hg)
  have hd : (⟨#[32]⟩ : ByteArray).data.toList = [32] := rfl
  rw [hd, e1, e2] at HC
  have FT' := hid FT
  clear FT
  go_enter Tryz.func87, Tryz.ntmps87
  go_wp2_with fail
  refine HC.out.mono ?_
  rintro e w1 ⟨rfl, n, rfl⟩
  go_wp2_with fail
  refine (FT'.out n).mono ?_
  rintro e w2 ⟨rfl, h2⟩
  go_wp2_with fail
  go_ret
  exact ⟨rfl, h2⟩
set_option maxRecDepth 16000 in
set_option maxHeartbeats 2000000 in
theorem take3_is {p : Nat} {L t : ByteArray} {w : World} {m : Int} {r : Value} {R : World → Prop} (hL : L.data.toList = ln 3 t.data.toList) (hs : L.size ≤ 1000) (hg : w.cell? ⟨5, 0, none⟩ = some (.int .i64 m))
    (FT : ∀ n, Calls Tryz.prog 106 #[.pointer (some ⟨p, 6, none⟩), .string t] (w.drewN n) fun e w' => e = .returned r ∧ R w') :
    Calls Tryz.prog 87 #[.pointer (some ⟨p, 0, none⟩), .string L] w fun e w' => e = .returned r ∧ R w' := by
  obtain ⟨h0, h35, hne, e1, e2⟩ := line_facts hL
  have HC := hid (Tryz.strings_Cut L ⟨#[32]⟩ m w (by omega) hg)
  have hd : (⟨#[32]⟩ : ByteArray).data.toList = [32] := rfl
  rw [hd, e1, e2] at HC
  have FT' := hid FT
  clear FT
  go_enter Tryz.func87, Tryz.ntmps87
  go_wp2_with fail
  refine HC.out.mono ?_
  rintro e w1 ⟨rfl, n, rfl⟩
  go_wp2_with fail
  refine (FT'.out n).mono ?_
  rintro e w2 ⟨rfl, h2⟩
  go_wp2_with fail
  go_ret
  exact ⟨rfl, h2⟩
set_option maxRecDepth 16000 in
set_option maxHeartbeats 2000000 in
theorem take4_is {p : Nat} {L t : ByteArray} {w : World} {m : Int} {r : Value} {R : World → Prop} (hL : L.data.toList = ln 4 t.data.toList) (hs : L.size ≤ 1000) (hg : w.cell? ⟨5, 0, none⟩ = some (.int .i64 m))
    (FT : ∀ n, Calls Tryz.prog 106 #[.pointer (some ⟨p, 8, none⟩), .string t] (w.drewN n) fun e w' => e = .returned r ∧ R w') :
    Calls Tryz.prog 87 #[.pointer (some ⟨p, 0, none⟩), .string L] w fun e w' => e = .returned r ∧ R w' := by
  obtain ⟨h0, h35, hne, e1, e2⟩ := line_facts hL
  have HC := hid (Tryz.strings_Cut L ⟨#[32]⟩ m w (by omega) hg)
  have hd : (⟨#[32]⟩ : ByteArray).data.toList = [32] := rfl
  rw [hd, e1, e2] at HC
  have FT' := hid FT
  clear FT
  go_enter Tryz.func87, Tryz.ntmps87
  go_wp2_with fail
  refine HC.out.mono ?_
  rintro e w1 ⟨rfl, n, rfl⟩
  go_wp2_with fail
  refine (FT'.out n).mono ?_
  rintro e w2 ⟨rfl, h2⟩
  go_wp2_with fail
  go_ret
  exact ⟨rfl, h2⟩
set_option maxRecDepth 16000 in
set_option maxHeartbeats 2000000 in
theorem take5_is {p : Nat} {L t : ByteArray} {w : World} {m : Int} {r : Value} {R : World → Prop} (hL : L.data.toList = ln 5 t.data.toList) (hs : L.size ≤ 1000) (hg : w.cell? ⟨5, 0, none⟩ = some (.int .i64 m))
    (FT : ∀ n, Calls Tryz.prog 107 #[.pointer (some ⟨p, 0, none⟩), .string t] (w.drewN n) fun e w' => e = .returned r ∧ R w') :
    Calls Tryz.prog 87 #[.pointer (some ⟨p, 0, none⟩), .string L] w fun e w' => e = .returned r ∧ R w' := by
  obtain ⟨h0, h35, hne, e1, e2⟩ := line_facts hL
  have HC := hid (Tryz.strings_Cut L ⟨#[32]⟩ m w (by omega) hg)
  have hd : (⟨#[32]⟩ : ByteArray).data.toList = [32] := rfl
  rw [hd, e1, e2] at HC
  have FT' := hid FT
  clear FT
  go_enter Tryz.func87, Tryz.ntmps87
  go_wp2_with fail
  refine HC.out.mono ?_
  rintro e w1 ⟨rfl, n, rfl⟩
  go_wp2_with fail
  refine (FT'.out n).mono ?_
  rintro e w2 ⟨rfl, h2⟩
  go_wp2_with fail
  go_ret
  exact ⟨rfl, h2⟩
theorem takeE_is {p : Nat} {w : World} : Calls Tryz.prog 87 #[.pointer (some ⟨p, 0, none⟩), .string ⟨#[]⟩] w fun e w' => e = .returned .nilIface ∧ w' = w := by
  go_enter Tryz.func87, Tryz.ntmps87
  go_wp2_with fail
  go_ret
  exact ⟨rfl, rfl⟩
theorem takeH_is {p : Nat} {L : ByteArray} {r : List UInt8} {w : World} (hL : L.data.toList = 35 :: r) : Calls Tryz.prog 87 #[.pointer (some ⟨p, 0, none⟩), .string L] w fun e w' => e = .returned .nilIface ∧ w' = w := by
  have h0 : 0 < L.size := by rw [Lib.size_eq, hL]; simp
  have hne : L.toList.isEmpty = false := by rw [Lib.toList_data, hL]; rfl
  have h35 : (((L[0]'h0).toNat : Int) == 35) = true := by
    have h6 : L.data.toList.head? = some (L[0]'h0) := by
      rw [List.head?_eq_getElem?, Array.getElem?_toList]
      exact Array.getElem?_eq_getElem (by exact h0)
    rw [hL] at h6
    have h7 : (35 : UInt8) = L[0]'h0 := by simpa using h6
    rw [← h7]
    rfl
  go_enter Tryz.func87, Tryz.ntmps87
  go_wp2_with fail
  go_ret
  exact ⟨rfl, rfl⟩
end Go.Proofs.YthenfioddnkjbaaGreatDoor.Rt
/- errors.As at a fault of the program's own; reason. -/
namespace Go.Proofs.YthenfioddnkjbaaGreatDoor.Rt
open Go.RowKit Go.Extern.Stop Go.Stop Go.Extern Go.Sort
set_option linter.unusedVariables false

abbrev hdl (t : Nat) : Value := .pointer (some ⟨11, t, none⟩)
abbrev typV (t : Nat) : Value := .iface 170 (.agg #[hdl t])
abbrev refV (t : Nat) (a : Addr) (f : Int) : Value := .agg #[hdl t, .pointer (some a), .int .u64 f]
theorem valueOfP (t : Addr) (w : World) : (ReflectliteValue.unpack (.iface 98 (.pointer (some t)))).run Tryz.prog w
    = .ok (refV 98 ⟨w.heap.size, 0, none⟩ 150) (w.alloc (.cells #[.pointer (some t)] 98)) := by kernel_rfl
theorem valueOfF (l : Int) (x : Value) (w : World) : (ReflectliteValue.unpack (fltV l x)).run Tryz.prog w
    = .ok (refV 89 ⟨w.heap.size, 0, none⟩ 153) (w.alloc (.cells #[.int .i64 l, x] 89)) := by kernel_rfl
theorem typeX : ∃ g, Extern.find Tryz.f92 = some g ∧ ∀ a w, (g #[refV 98 a 150]).run Tryz.prog w = .ok (typV 98) w :=
  ⟨(Extern.find Tryz.f92).get (by kernel_rfl), by kernel_rfl, fun a w => by kernel_rfl⟩
theorem kindX : ∃ g, Extern.find Tryz.f179 = some g ∧ (∀ w, (g #[hdl 98]).run Tryz.prog w = .ok (.int .u8 22) w) ∧ ∀ w, (g #[hdl 89]).run Tryz.prog w = .ok (.int .u8 25) w :=
  ⟨(Extern.find Tryz.f179).get (by kernel_rfl), by kernel_rfl, fun w => by kernel_rfl, fun w => by kernel_rfl⟩
theorem elemX : ∃ g, Extern.find Tryz.f191 = some g ∧ ∀ w, (g #[.agg #[hdl 98]]).run Tryz.prog w = .ok (typV 89) w :=
  ⟨(Extern.find Tryz.f191).get (by kernel_rfl), by kernel_rfl, fun w => by kernel_rfl⟩
theorem implX : ∃ g, Extern.find Tryz.f192 = some g ∧ ∀ w, (g #[.agg #[hdl 89], typV 57]).run Tryz.prog w = .ok (.bool true) w :=
  ⟨(Extern.find Tryz.f192).get (by kernel_rfl), by kernel_rfl, fun w => by kernel_rfl⟩
theorem asgnX : ∃ g, Extern.find Tryz.f189 = some g ∧ ∀ w, (g #[.agg #[hdl 89], typV 89]).run Tryz.prog w = .ok (.bool true) w :=
  ⟨(Extern.find Tryz.f189).get (by kernel_rfl), by kernel_rfl, fun w => by kernel_rfl⟩
theorem typeOfF (v : Value) (w : World) : (ReflectliteType.typeOf #[.iface 89 v]).run Tryz.prog w = .ok (typV 89) w := by kernel_rfl
theorem methodKind (h : Value) (w : World) : (Go.method 359 170 (.agg #[h]) "Kind").run Tryz.prog w = .ok (179, h) w := by kernel_rfl
theorem methodElem (h : Value) (w : World) : (Go.method 359 170 (.agg #[h]) "Elem").run Tryz.prog w = .ok (191, .agg #[h]) w := by kernel_rfl
theorem methodImplements (h : Value) (w : World) : (Go.method 359 170 (.agg #[h]) "Implements").run Tryz.prog w = .ok (192, .agg #[h]) w := by kernel_rfl
theorem methodAssignableTo (h : Value) (w : World) : (Go.method 359 170 (.agg #[h]) "AssignableTo").run Tryz.prog w = .ok (189, .agg #[h]) w := by kernel_rfl
theorem partsP (a : Addr) (w : World) : (ReflectliteValue.parts (refV 98 a 150)).run Tryz.prog w = .ok (some (98, a, 150)) w := by kernel_rfl
theorem partsA (a : Addr) (w : World) : (ReflectliteValue.parts (refV 89 a 409)).run Tryz.prog w = .ok (some (89, a, 409)) w := by kernel_rfl
theorem partsF (a : Addr) (w : World) : (ReflectliteValue.parts (refV 89 a 153)).run Tryz.prog w = .ok (some (89, a, 153)) w := by kernel_rfl
theorem mt2 (v : Value) (h1 : Value → Sem Value) (h2 : Array Value → Sem Value) : ReflectliteValue.method.match_2 (fun _ => Sem Value) #[v] h1 h2 = h1 v := rfl
theorem mt3 (v x : Value) (h1 : Value → Value → Sem Value) (h2 : Array Value → Sem Value) : ReflectliteValue.set.match_3 (fun _ => Sem Value) #[v, x] h1 h2 = h1 v x := rfl
theorem isNilP (a p : Addr) (W : World) (ha : W.cell? a = some (.pointer (some p))) :
    (ReflectliteValue.method (ReflectliteValue.valueError "reflectlite.Value.IsNil" 0) ReflectliteValue.isNil #[refV 98 a 150]).run Tryz.prog W = .ok (.bool false) W := by
  delta ReflectliteValue.method
  rw [mt2]
  simp only [Sem.run_bind, partsP, Result.andThen]
  simp [ReflectliteValue.isNil, loadVar, isAgg, underlying, Tryz.underlying98, ha, Result.andThen]
theorem elemOfP (w : World) : (Rtype.elem? 98).run Tryz.prog w = .ok (some 89) w := by kernel_rfl
theorem mkF (p : Addr) (w : World) : (ReflectliteValue.mk 89 p ReflectliteValue.flagAddr).run Tryz.prog w = .ok (refV 89 p 409) w := by kernel_rfl
theorem elemVP (a p : Addr) (W : World) (ha : W.cell? a = some (.pointer (some p))) :
    (ReflectliteValue.method (ReflectliteValue.valueError "reflectlite.Value.Elem" 0) ReflectliteValue.elem #[refV 98 a 150]).run Tryz.prog W = .ok (refV 89 p 409) W := by
  delta ReflectliteValue.method
  rw [mt2]
  simp only [Sem.run_bind, partsP, Result.andThen]
  simp [ReflectliteValue.elem, loadVar, isAgg, underlying, Tryz.underlying98, ha, Result.andThen, elemOfP, mkF]
theorem directF (w : World) : (Rtype.directlyAssignable 89 89).run Tryz.prog w = .ok true w := by kernel_rfl
theorem setF (p b : Nat) (l : Int) (x o0 o1 : Value) (W : World) (hx : x.oneCell' = true) (h0 : W.cell? ⟨b, 0, none⟩ = some (.int .i64 l)) (h1 : W.cell? ⟨b, 1, none⟩ = some x) (t0 : W.cell? ⟨p, 0, none⟩ = some o0) (t1 : W.cell? ⟨p, 1, none⟩ = some o1) (hf : ∀ o, W.frozen? ⟨p, o, none⟩ = false) :
    (ReflectliteValue.set #[refV 89 ⟨p, 0, none⟩ 409, refV 89 ⟨b, 0, none⟩ 153]).run Tryz.prog W
      = .ok (.tuple #[]) ((W.setCell ⟨p, 0, none⟩ (.int .i64 l)).setCell ⟨p, 1, none⟩ x) := by
  have hl : (loadCells ⟨b, 0, none⟩ 2).run Tryz.prog W = .ok #[.int .i64 l, x] W := run_loadCells_list (P := Tryz.prog) W ⟨b, 0, none⟩ [.int .i64 l, x] (by
    intro j v hj
    match j, hj with
    | 0, hj => simp at hj; rw [← hj]; exact h0
    | 1, hj => simp at hj; rw [← hj]; exact h1
    | j + 2, hj => simp at hj)
  have t1' : (W.setCell ⟨p, 0, none⟩ (.int .i64 l)).cell? ⟨p, 1, none⟩ = some o1 := by rw [World.cell?_setCell_other (h := fun e => by have := congrArg Addr.off e; simp at this)]; exact t1
  have hf1 : (W.setCell ⟨p, 0, none⟩ (.int .i64 l)).frozen? ⟨p, 1, none⟩ = false := by rw [World.frozen?_setCell]; exact hf 1
  delta ReflectliteValue.set
  rw [mt3]
  simp only [Sem.run_bind, partsA, partsF, Result.andThen]
  simp [ReflectliteValue.flagAddr, loadVar, hl, Result.andThen, directF, storeVar, Value.cells, storeCells, Addr.add]
  rw [run_store Tryz.prog W ⟨p, 0, none⟩ _ _ (by rfl)]
  simp [t0, hf]
  rw [run_store Tryz.prog _ ⟨p, 1, none⟩ _ _ hx]
  simp [t1', hf1]
set_option maxRecDepth 16000 in
set_option maxHeartbeats 4000000 in
/-- errors.As(a fault, &f): it is taken over -/
theorem as_flt (p : Nat) (l : Int) (x o0 o1 : Value) (w : World) (hx : x.oneCell' = true) (hg : w.cell? ⟨2, 0, none⟩ = some (typV 57)) (t0 : w.cell? ⟨p, 0, none⟩ = some o0) (t1 : w.cell? ⟨p, 1, none⟩ = some o1) (hf : ∀ o, w.frozen? ⟨p, o, none⟩ = false) :
    Calls Tryz.prog 55 #[fltV l x, .iface 98 (.pointer (some ⟨p, 0, none⟩))] w fun e w' => e = .returned (.bool true) ∧ ∃ w1, Below w.heap.size w w1 ∧ w' = (w1.setCell ⟨p, 0, none⟩ (.int .i64 l)).setCell ⟨p, 1, none⟩ x := by
  have hU := @run_callFunc_extern Tryz.prog 91 _ (fun args => ReflectliteValue.unpack (args.getD 0 (.tuple #[]))) Tryz.func91 (by kernel_rfl) (by kernel_rfl) (by kernel_rfl) (by kernel_rfl)
  have hN := @run_callFunc_extern Tryz.prog 93 _ (ReflectliteValue.method (ReflectliteValue.valueError "reflectlite.Value.IsNil" 0) ReflectliteValue.isNil) Tryz.func93 (by kernel_rfl) (by kernel_rfl) (by kernel_rfl) (by kernel_rfl)
  have hE := @run_callFunc_extern Tryz.prog 111 _ (ReflectliteValue.method (ReflectliteValue.valueError "reflectlite.Value.Elem" 0) ReflectliteValue.elem) Tryz.func111 (by kernel_rfl) (by kernel_rfl) (by kernel_rfl) (by kernel_rfl)
  have hS := @run_callFunc_extern Tryz.prog 112 _ ReflectliteValue.set Tryz.func112 (by kernel_rfl) (by kernel_rfl) (by kernel_rfl) (by kernel_rfl)
  have hT := @run_callFunc_extern Tryz.prog 95 _ ReflectliteType.typeOf Tryz.func95 (by kernel_rfl) (by kernel_rfl) (by kernel_rfl) (by kernel_rfl)
  obtain ⟨gT, fT, tY⟩ := typeX
  have hY := @run_callFunc_extern Tryz.prog 92 _ gT Tryz.func92 (by kernel_rfl) (by kernel_rfl) (by kernel_rfl) fT
  obtain ⟨gK, fK, k1, k2⟩ := kindX
  have hK := @run_callFunc_extern Tryz.prog 179 _ gK Tryz.func179 (by kernel_rfl) (by kernel_rfl) (by kernel_rfl) fK
  obtain ⟨gL, fL, l1⟩ := elemX
  have hL := @run_callFunc_extern Tryz.prog 191 _ gL Tryz.func191 (by kernel_rfl) (by kernel_rfl) (by kernel_rfl) fL
  obtain ⟨gI, fI, i1⟩ := implX
  have hI := @run_callFunc_extern Tryz.prog 192 _ gI Tryz.func192 (by kernel_rfl) (by kernel_rfl) (by kernel_rfl) fI
  obtain ⟨gA, fA, a1⟩ := asgnX
  have hA := @run_callFunc_extern Tryz.prog 189 _ gA Tryz.func189 (by kernel_rfl) (by kernel_rfl) (by kernel_rfl) fA
  have tO := typeOfF
  have mA := methodAssignableTo
  have mK := methodKind
  have mE := methodElem
  have mI := methodImplements
  have vF := valueOfF l x
  have vP := valueOfP ⟨p, 0, none⟩
  obtain ⟨wA, hwA⟩ : ∃ wA, wA = (w.alloc (.cells #[.pointer (some ⟨p, 0, none⟩)] 98)).alloc (.cells #[hdl 98, .pointer (some ⟨w.heap.size, 0, none⟩), .int .u64 150] 148) := ⟨_, rfl⟩
  have hbA : Below w.heap.size w wA := by rw [hwA]; (repeat (first | with_reducible exact Below.refl _ _ | with_reducible assumption | with_reducible refine Below.drew ?_ | with_reducible refine Below.al ?_ _ | with_reducible refine Below.setCell ?_ (by first | exact Nat.le_refl _ | (simp; omega) | (simp; done)) _ | with_reducible refine Below.on ?_ (by assumption)))
  have hg2 := cell_later hbA hg
  have n8 := isNilP ⟨w.heap.size, 0, none⟩ ⟨p, 0, none⟩ wA (by rw [hwA]; simp)
  obtain ⟨wB, hwB⟩ : ∃ wB, wB = wA.alloc (.cells #[hdl 98, .pointer (some ⟨w.heap.size, 0, none⟩), .int .u64 150] 148) := ⟨_, rfl⟩
  have el := elemVP ⟨w.heap.size, 0, none⟩ ⟨p, 0, none⟩ wB (by rw [hwB, World.cell?_alloc_lt _ _ ⟨w.heap.size, 0, none⟩ (by rw [hwA]; simp; omega), hwA]; simp)
  obtain ⟨wC, hwC⟩ : ∃ wC, wC = wB.alloc (.cells #[.int .i64 l, x] 89) := ⟨_, rfl⟩
  have hbC : Below w.heap.size w wC := by rw [hwC, hwB]; (repeat (first | with_reducible exact Below.refl _ _ | with_reducible assumption | with_reducible refine Below.drew ?_ | with_reducible refine Below.al ?_ _ | with_reducible refine Below.setCell ?_ (by first | exact Nat.le_refl _ | (simp; omega) | (simp; done)) _ | with_reducible refine Below.on ?_ (by assumption)))
  have hsz : wB.heap.size = w.heap.size + 1 + 1 + 1 := by rw [hwB, hwA]; simp
  have hpl : p < w.heap.size := by
    rcases Nat.lt_or_ge p w.heap.size with h | h
    · exact h
    · simp [World.cell?, Array.getElem?_eq_none h] at t0
  have st := setF p wB.heap.size l x o0 o1 wC hx (by rw [hwC, World.cell?_alloc_at _ _ _ _ rfl]; rfl) (by rw [hwC, World.cell?_alloc_at _ _ _ _ rfl]; rfl) (cell_later hbC t0) (cell_later hbC t1) (fun o => (hbC.frozen (p := ⟨p, o, none⟩) hpl).trans (hf o))
  rw [hwA] at hg2 n8
  rw [hsz, hwC, hwB, hwA] at st
  rw [hwB, hwA] at el
  have HBC := hid hbC
  have HWC := hid hwC
  have HWB := hid hwB
  have HWA := hid hwA
  clear hbA hwA hwB hwC hbC hsz
  go_enter Tryz.func55, Tryz.ntmps55
  go_wp2
  refine wp_loop_rounds 1 ?_
  rw [rounds_succ]
  go_wp2
  go_ret
  exact ⟨rfl, wC, HBC.out, by rw [HWC.out, HWB.out, HWA.out]⟩
end Go.Proofs.YthenfioddnkjbaaGreatDoor.Rt
/- reason: a fault of the form. -/
namespace Go.Proofs.YthenfioddnkjbaaGreatDoor.Rt
open Go.RowKit Go.Extern.Stop Go.Stop Go.Extern Go.Sort
set_option linter.unusedVariables false

/-- the program's two words for what may be wrong -/
structure Errs (w : World) (a b : Addr) : Prop where
  form : w.cell? ⟨0, 0, none⟩ = some (errV a)
  limit : w.cell? ⟨1, 0, none⟩ = some (errV b)
  typ : w.cell? ⟨2, 0, none⟩ = some (typV 57)
  ne : a ≠ b
  rowA : ∃ ca ta, w.heap[a.block]? = some (.cells ca ta (0, 0))
  rowB : ∃ cb tb, w.heap[b.block]? = some (.cells cb tb (0, 0))
theorem Errs.later {w w' : World} {a b : Addr} (h : Errs w a b) (hb : Below w.heap.size w w') : Errs w' a b := by
  obtain ⟨ca, ta, ha⟩ := h.rowA
  obtain ⟨cb, tb, hB⟩ := h.rowB
  exact ⟨cell_later hb h.form, cell_later hb h.limit, cell_later hb h.typ, h.ne, ⟨ca, ta, (hb.block _ (cells_lt ha)).trans ha⟩, ⟨cb, tb, (hb.block _ (cells_lt hB)).trans hB⟩⟩
set_option maxRecDepth 16000 in
set_option maxHeartbeats 4000000 in
theorem reason_form (l : Int) {a b : Addr} {w : World} (h : Errs w a b) :
    Calls Tryz.prog 11 #[fltV l (errV a)] w fun e w' => e = .returned (.int .i64 120) ∧ Below w.heap.size w w' := by
  obtain ⟨wA, hwA⟩ : ∃ wA, wA = w.alloc (.cells #[.int .i64 0, .nilIface] 89) := ⟨_, rfl⟩
  have hbA : Below w.heap.size w wA := by rw [hwA]; (repeat (first | with_reducible exact Below.refl _ _ | with_reducible assumption | with_reducible refine Below.drew ?_ | with_reducible refine Below.al ?_ _ | with_reducible refine Below.setCell ?_ (by first | exact Nat.le_refl _ | (simp; omega) | (simp; done)) _ | with_reducible refine Below.on ?_ (by assumption)))
  have HA := hid (as_flt w.heap.size l (errV a) (.int .i64 0) .nilIface wA rfl (h.later hbA).typ (by rw [hwA]; simp) (by rw [hwA]; simp) (fun o => by rw [hwA]; simp [go_sem]))
  have HE := hid h
  have HBA := hid hbA
  have hsA : Hid (wA.heap.size = w.heap.size + 1) := hid (by rw [hwA]; simp)
  have HC : Hid (wA.cell? ⟨w.heap.size, 0, none⟩ = some (.int .i64 0) ∧ wA.cell? ⟨w.heap.size, 1, none⟩ = some .nilIface) := hid ⟨by rw [hwA]; simp, by rw [hwA]; simp⟩
  clear h hbA
  go_enter Tryz.func11, Tryz.ntmps11
  go_wp2_with fail
  rw [← hwA]
  clear hwA
  refine HA.out.mono ?_
  rintro e w1 ⟨rfl, w2, hb2, rfl⟩
  have HB2 := hid (HBA.out.trans (hb2.mono (by rw [hsA.out]; omega)))
  have k0 : ((w2.setCell ⟨w.heap.size, 0, none⟩ (.int .i64 l)).setCell ⟨w.heap.size, 1, none⟩ (errV a)).cell? ⟨w.heap.size, 0, none⟩ = some (.int .i64 l) := by
    rw [World.cell?_setCell_other (h := fun e => by have := congrArg Addr.off e; simp at this)]
    exact World.cell?_setCell_same _ _ _ (cell_later hb2 HC.out.1)
  have k1 : ((w2.setCell ⟨w.heap.size, 0, none⟩ (.int .i64 l)).setCell ⟨w.heap.size, 1, none⟩ (errV a)).cell? ⟨w.heap.size, 1, none⟩ = some (errV a) := by
    have h1 : (w2.setCell ⟨w.heap.size, 0, none⟩ (.int .i64 l)).cell? ⟨w.heap.size, 1, none⟩ = some .nilIface := by
      rw [World.cell?_setCell_other (h := fun e => by have := congrArg Addr.off e; simp at this)]
      exact cell_later hb2 HC.out.2
    exact World.cell?_setCell_same _ _ _ h1
  obtain ⟨w3, hw3⟩ : ∃ w3, w3 = (w2.setCell ⟨w.heap.size, 0, none⟩ (.int .i64 l)).setCell ⟨w.heap.size, 1, none⟩ (errV a) := ⟨_, rfl⟩
  have hb3 : Below w.heap.size w w3 := by rw [hw3]; exact Below.setCell (Below.setCell HB2.out (p := ⟨w.heap.size, 0, none⟩) (Nat.le_refl _) _) (p := ⟨w.heap.size, 1, none⟩) (Nat.le_refl _) _
  rw [← hw3] at k0 k1 ⊢
  have hE3 := HE.out.later hb3
  have g1 := hE3.limit
  obtain ⟨ca, ta, ha⟩ := hE3.rowA
  obtain ⟨cb, tb, hB⟩ := hE3.rowB
  have HI := hid (is_flt_other l a b ca cb ta tb w3 hE3.ne ha hB)
  have HB3 := hid hb3
  clear hw3 hE3 ha hB hb3 hb2
  go_wp2_with fail
  refine HI.out.mono ?_
  rintro e w4 ⟨rfl, hb4⟩
  go_wp2_with fail
  go_ret
  exact ⟨rfl, Below.on HB3.out hb4⟩
end Go.Proofs.YthenfioddnkjbaaGreatDoor.Rt
/- A draft while the lines are taken; one line, taken. -/
namespace Go.Proofs.YthenfioddnkjbaaGreatDoor.Rt
open Go.RowKit Go.Sort
set_option linter.unusedVariables false

/-- what the program asks of the variables -/
structure Gl (w : World) (a b : Addr) : Prop where
  errs : Errs w a b
  max : ∃ m, w.cell? ⟨5, 0, none⟩ = some (.int .i64 m)
  rng : ∃ ty ad, w.cell? ⟨4, 0, none⟩ = some (.iface ty (.pointer ad))
theorem Gl.later {w w' : World} {a b : Addr} (h : Gl w a b) (hb : Below w.heap.size w w') : Gl w' a b := by
  obtain ⟨m, hm⟩ := h.max
  obtain ⟨ty, ad, hr⟩ := h.rng
  exact ⟨h.errs.later hb, ⟨m, cell_later hb hm⟩, ⟨ty, ad, cell_later hb hr⟩⟩
theorem Gl.rlt {w : World} {a b : Addr} (h : Gl w a b) : 4 < w.heap.size := by
  obtain ⟨ty, ad, hr⟩ := h.rng
  exact World.block_lt_of_cell? _ _ hr
/-- the draft at p; wg: a world ahead of it; wl: the world ahead of the lines -/
structure StD (wg wl w : World) (p : Nat) (d : Dr) (v : Value) : Prop where
  box : BoxD w p d v
  loose : ∀ o, w.frozen? ⟨p, o, none⟩ = false
  row : w.ownsRow wl.heap.size 9 1 v d.sp.length (d.sp.map fun s => .string (ofNats s))
  onl : Onl (fun k => k = p) wl w
  bel : Below wg.heap.size wg w
  num : ∀ k, (d.f k).getD 0 < 18446744073709551616
  lt : p < wl.heap.size
  gp : wg.heap.size ≤ p
section
variable {wg wl w : World} {p : Nat} {d : Dr} {v : Value}
theorem StD.ltw (h : StD wg wl w p d v) : p < w.heap.size := Nat.lt_of_lt_of_le h.lt h.onl.size
theorem StD.own (h : StD wg wl w p d v) : v.ownBlock ≠ some p := fun e => by
  have := (World.ownsRow.lt h.row p e).1
  have := h.lt
  omega
theorem StD.drew (h : StD wg wl w p d v) (n : Nat) : StD wg wl (w.drewN n) p d v :=
  ⟨⟨h.box.s0, h.box.v0, h.box.s1, h.box.v1, h.box.s2, h.box.v2, h.box.s3, h.box.v3, h.box.s4, h.box.v4, h.box.sp⟩, h.loose, owns_keep h.row fun g _ => rfl, ⟨h.onl.os, h.onl.tape, h.onl.output, h.onl.size, h.onl.block⟩, below_drewN h.bel n, h.num, h.lt, h.gp⟩
theorem StD.later (h : StD wg wl w p d v) {w' : World} (hb : Below w.heap.size w w') : StD wg wl w' p d v :=
  ⟨h.box.later hb, fun o => (hb.frozen (p := ⟨p, o, none⟩) h.ltw).trans (h.loose o), owns_keep h.row fun g hg => hb.block g (World.ownsRow.lt h.row g hg).2, h.onl.on hb, Below.on h.bel hb, h.num, h.lt, h.gp⟩
/-- a number said -/
theorem StD.put (h : StD wg wl w p d v) {k n : Nat} (hk : k < 5) (hn : n < 18446744073709551616) {w1 : World} (hb : Below w.heap.size (w.setCell ⟨p, 2 * k, none⟩ (.bool true)) w1) :
    StD wg wl (w1.setCell ⟨p, 2 * k + 1, none⟩ (.int .u64 (n : Nat))) p (d.put k n) v := by
  obtain ⟨wa, hwa⟩ : ∃ wa, wa = w.setCell ⟨p, 2 * k, none⟩ (.bool true) := ⟨_, rfl⟩
  obtain ⟨wz, hwz⟩ : ∃ wz, wz = w1.setCell ⟨p, 2 * k + 1, none⟩ (.int .u64 (n : Nat)) := ⟨_, rfl⟩
  have hsa : wa.heap.size = w.heap.size := by rw [hwa, World.size_setCell]
  rw [← hwa, ← hsa] at hb
  rw [← hwz]
  have key : ∀ (j : Nat) (x : Value), w.cell? ⟨p, j, none⟩ = some x → wz.cell? ⟨p, j, none⟩ = some (if j = 2 * k then .bool true else if j = 2 * k + 1 then .int .u64 (n : Nat) else x) := by
    intro j x hx
    by_cases h1 : j = 2 * k
    · subst h1
      rw [if_pos rfl, hwz, World.cell?_setCell_other (h := fun e => by have := congrArg Addr.off e; simp at this)]
      exact cell_later hb (by rw [hwa]; exact World.cell?_setCell_same _ _ _ hx)
    · rw [if_neg h1]
      have hx1 : w1.cell? ⟨p, j, none⟩ = some x := cell_later hb (by rw [hwa, World.cell?_setCell_other (h := fun e => h1 (congrArg Addr.off e).symm)]; exact hx)
      by_cases h2 : j = 2 * k + 1
      · subst h2
        rw [if_pos rfl, hwz]
        exact World.cell?_setCell_same _ _ _ hx1
      · rw [if_neg h2, hwz, World.cell?_setCell_other (h := fun e => h2 (congrArg Addr.off e).symm)]
        exact hx1
  have o1 : Onl (fun k => k = p) w wz := by
    rw [hwz]
    exact Onl.set (F := fun k => k = p) (Onl.on (F := fun k => k = p) (by rw [hwa]; exact Onl.set (F := fun k => k = p) (Onl.refl _ _) rfl _ _) hb) rfl _ _
  have hz : ∀ g, g ≠ p → g < w.heap.size → wz.heap[g]? = w.heap[g]? := fun g hg hl => o1.block g hl hg
  refine ⟨?_, fun o => ?_, owns_keep h.row fun g hg => hz g (fun e => h.own (e ▸ hg)) (World.ownsRow.lt h.row g hg).2, h.onl.trans o1, ?_, fun j => ?_, h.lt, h.gp⟩
  · match k, hk with
    | 0, _ => exact ⟨key 0 _ h.box.s0, key 1 _ h.box.v0, key 2 _ h.box.s1, key 3 _ h.box.v1, key 4 _ h.box.s2, key 5 _ h.box.v2, key 6 _ h.box.s3, key 7 _ h.box.v3, key 8 _ h.box.s4, key 9 _ h.box.v4, key 10 _ h.box.sp⟩
    | 1, _ => exact ⟨key 0 _ h.box.s0, key 1 _ h.box.v0, key 2 _ h.box.s1, key 3 _ h.box.v1, key 4 _ h.box.s2, key 5 _ h.box.v2, key 6 _ h.box.s3, key 7 _ h.box.v3, key 8 _ h.box.s4, key 9 _ h.box.v4, key 10 _ h.box.sp⟩
    | 2, _ => exact ⟨key 0 _ h.box.s0, key 1 _ h.box.v0, key 2 _ h.box.s1, key 3 _ h.box.v1, key 4 _ h.box.s2, key 5 _ h.box.v2, key 6 _ h.box.s3, key 7 _ h.box.v3, key 8 _ h.box.s4, key 9 _ h.box.v4, key 10 _ h.box.sp⟩
    | 3, _ => exact ⟨key 0 _ h.box.s0, key 1 _ h.box.v0, key 2 _ h.box.s1, key 3 _ h.box.v1, key 4 _ h.box.s2, key 5 _ h.box.v2, key 6 _ h.box.s3, key 7 _ h.box.v3, key 8 _ h.box.s4, key 9 _ h.box.v4, key 10 _ h.box.sp⟩
    | 4, _ => exact ⟨key 0 _ h.box.s0, key 1 _ h.box.v0, key 2 _ h.box.s1, key 3 _ h.box.v1, key 4 _ h.box.s2, key 5 _ h.box.v2, key 6 _ h.box.s3, key 7 _ h.box.v3, key 8 _ h.box.s4, key 9 _ h.box.v4, key 10 _ h.box.sp⟩
  · rw [hwz, World.frozen?_setCell, hb.frozen (p := ⟨p, o, none⟩) (by rw [hsa]; exact h.ltw), hwa, World.frozen?_setCell]
    exact h.loose o
  · exact h.bel.trans (o1.below (fun k hk => by rw [hk]; exact h.gp) h.bel.size)
  · show ((if j = k then some n else d.f j).getD 0) < _
    by_cases hj : j = k
    · rw [if_pos hj]; exact hn
    · rw [if_neg hj]; exact h.num j
/-- a split key said -/
theorem StD.add (h : StD wg wl w p d v) {s : List Nat} {v' : Value} {w1 : World} (hr : w1.ownsRow wl.heap.size 9 1 v' (d.sp.length + 1) (d.sp.map (fun s => .string (ofNats s)) ++ [.string (ofNats s)])) (hc : w1.cell? ⟨p, 10, none⟩ = some v) (ho : Onl (fun k => v.ownBlock = some k) w w1) :
    StD wg wl (w1.setCell ⟨p, 10, none⟩ v') p (d.add s) v' := by
  obtain ⟨wz, hwz⟩ : ∃ wz, wz = w1.setCell ⟨p, 10, none⟩ v' := ⟨_, rfl⟩
  rw [← hwz]
  have key : ∀ (j : Nat) (x : Value), j ≠ 10 → w.cell? ⟨p, j, none⟩ = some x → wz.cell? ⟨p, j, none⟩ = some x := by
    intro j x hj hx
    rw [hwz, World.cell?_setCell_other (h := fun e => hj (congrArg Addr.off e).symm)]
    exact ho.cell h.own hx
  have hlo : ∀ k, v.ownBlock = some k → wl.heap.size ≤ k := fun k hk => (World.ownsRow.lt h.row k hk).1
  have hp1 : p ≠ v'.ownBlock.getD (p + 1) := by
    intro e
    cases hb : v'.ownBlock with
    | none => rw [hb] at e; simp at e
    | some g =>
      rw [hb] at e
      have := (World.ownsRow.lt hr g hb).1
      have := h.lt
      simp at e
      omega
  have o1 : Onl (fun k => k = p) wl w1 := h.onl.fresh ho fun i hi => .inr (hlo i hi)
  refine ⟨⟨key 0 _ (by decide) h.box.s0, key 1 _ (by decide) h.box.v0, key 2 _ (by decide) h.box.s1, key 3 _ (by decide) h.box.v1, key 4 _ (by decide) h.box.s2, key 5 _ (by decide) h.box.v2, key 6 _ (by decide) h.box.s3, key 7 _ (by decide) h.box.v3, key 8 _ (by decide) h.box.s4, key 9 _ (by decide) h.box.v4, ?_⟩, fun o => ?_, ?_, ?_, ?_, h.num, h.lt, h.gp⟩
  · rw [hwz]; exact World.cell?_setCell_same _ _ _ hc
  · rw [hwz, World.frozen?_setCell]
    exact (ho.loose h.own h.ltw h.loose) o
  · have hl : (d.add s).sp.length = d.sp.length + 1 := by simp [Dr.add]
    have hm : ((d.add s).sp.map fun s => Value.string (ofNats s)) = d.sp.map (fun s => .string (ofNats s)) ++ [.string (ofNats s)] := by simp [Dr.add]
    rw [hl, hm]
    refine owns_keep hr fun g hg => ?_
    rw [hwz]
    exact Below.heap_setCell _ _ _ _ (by show g ≠ p; intro e; rw [hg, e] at hp1; exact hp1 rfl)
  · rw [hwz]; exact Onl.set (F := fun k => k = p) o1 rfl _ _
  · rw [hwz]
    refine Below.setCell (h.bel.trans (ho.below (fun k hk => ?_) h.bel.size)) (p := ⟨p, 10, none⟩) h.gp _
    have := hlo k hk
    have := h.lt
    have := h.gp
    omega
end
/-- lines that the statement's texts are made of -/
def Gd (l : List UInt8) : Prop := l = [] ∨ (∃ r, l = 35 :: r) ∨ (∃ k n, k < 5 ∧ n < 18446744073709551616 ∧ l = ln k (Lib.decDigits n)) ∨ ∃ t s, unword (t.map UInt8.toNat) = some s ∧ l = ln 5 t
/-- how a line fares -/
def rOf (a : Addr) (c : Nat) : Value := if c = 0 then .nilIface else errV a
theorem ba_eq {L t : ByteArray} (h : L.data.toList = t.data.toList) : L = t := by
  cases L; cases t; simp at h; rw [h]
theorem mk_data (l : List UInt8) : (⟨l.toArray⟩ : ByteArray).data.toList = l := by simp
theorem mk_size (l : List UInt8) : (⟨l.toArray⟩ : ByteArray).size = l.length := by rw [Lib.size_eq]
theorem take_num_is {wg wl w : World} {p k n : Nat} {d : Dr} {v : Value} {a b : Addr} {t : ByteArray} (hg : Gl wg a b) (h : StD wg wl w p d v) (hk : k < 5) (hn : n < 18446744073709551616) (ht : t.data.toList = Lib.decDigits n) (hs : t.size ≤ 1000) (m : Nat) :
    Calls Tryz.prog 106 #[.pointer (some ⟨p, 2 * k, none⟩), .string t] (w.drewN m) fun e w' => e = .returned (rOf a (if (d.f k).isSome then 1 else 0)) ∧ ∃ v', StD wg wl w' p (if (d.f k).isSome then d else d.put k n) v' := by
  have h' := h.drew m
  have c0 : (w.drewN m).cell? ⟨p, 2 * k, none⟩ = some (.bool (d.f k).isSome) := by
    match k, hk with
    | 0, _ => exact h'.box.s0
    | 1, _ => exact h'.box.s1
    | 2, _ => exact h'.box.s2
    | 3, _ => exact h'.box.s3
    | 4, _ => exact h'.box.s4
  have c1 : ∃ x, (w.drewN m).cell? ⟨p, 2 * k + 1, none⟩ = some x := by
    match k, hk with
    | 0, _ => exact ⟨_, h'.box.v0⟩
    | 1, _ => exact ⟨_, h'.box.v1⟩
    | 2, _ => exact ⟨_, h'.box.v2⟩
    | 3, _ => exact ⟨_, h'.box.v3⟩
    | 4, _ => exact ⟨_, h'.box.v4⟩
  obtain ⟨x, c1⟩ := c1
  cases hf : (d.f k).isSome with
  | true =>
    rw [hf] at c0
    refine (ftwice_is c0 (hg.later h'.bel).errs.form).mono ?_
    rintro e w' ⟨rfl, rfl⟩
    exact ⟨rfl, v, h'⟩
  | false =>
    rw [hf] at c0
    obtain ⟨ty, ad, hr⟩ := (hg.later h'.bel).rng
    refine (ftake_is hn ht hs hr (by have := hg.rlt; have := h.gp; omega) c0 c1 h'.loose h'.ltw).mono ?_
    rintro e w' ⟨rfl, w1, hb, rfl⟩
    exact ⟨rfl, v, h'.put hk hn hb⟩
theorem gd_01 {d : Dr} {l : List UInt8} (hG : Gd l) : (takeL d l).1 = 0 ∨ (takeL d l).1 = 1 := by
  rcases hG with rfl | ⟨r, rfl⟩ | ⟨k, n, hk, hn, rfl⟩ | ⟨t, s, hu, rfl⟩
  · rw [take_nil]; exact .inl rfl
  · rw [take_note]; exact .inl rfl
  · rw [take_num d hk (num_dec hn)]
    cases (d.f k).isSome
    · exact .inl rfl
    · exact .inr rfl
  · rw [take_split d hu]; exact .inl rfl
theorem gd_len {d : Dr} {l : List UInt8} (hG : Gd l) : (takeL d l).2.sp.length ≤ d.sp.length + 1 := by
  rcases hG with rfl | ⟨r, rfl⟩ | ⟨k, n, hk, hn, rfl⟩ | ⟨t, s, hu, rfl⟩
  · rw [take_nil]; exact Nat.le_succ _
  · rw [take_note]; exact Nat.le_succ _
  · rw [take_num d hk (num_dec hn)]
    cases (d.f k).isSome
    · exact Nat.le_succ _
    · exact Nat.le_succ _
  · rw [take_split d hu]; simp [Dr.add]
theorem take_is {wg wl w : World} {p : Nat} {d : Dr} {v : Value} {a b : Addr} {L : ByteArray} (hg : Gl wg a b) (h : StD wg wl w p d v) (hG : Gd L.data.toList) (hs : L.size ≤ 1000) (hn : d.sp.length ≤ 1000) :
    Calls Tryz.prog 87 #[.pointer (some ⟨p, 0, none⟩), .string L] w fun e w' => e = .returned (rOf a (takeL d L.data.toList).1) ∧ ∃ v', StD wg wl w' p (takeL d L.data.toList).2 v' := by
  obtain ⟨m, hm⟩ := (hg.later h.bel).max
  rcases hG with hL | ⟨r, hL⟩ | ⟨k, n, hk, hn', hL⟩ | ⟨t, s, hu, hL⟩
  · have e0 : L = ⟨#[]⟩ := ba_eq (by rw [hL])
    subst e0
    refine (takeE_is (p := p) (w := w)).mono ?_
    rintro e w' ⟨rfl, rfl⟩
    rw [show (⟨#[]⟩ : ByteArray).data.toList = [] from rfl, take_nil]
    exact ⟨rfl, v, h⟩
  · refine (takeH_is (p := p) (w := w) hL).mono ?_
    rintro e w' ⟨rfl, rfl⟩
    rw [hL, take_note]
    exact ⟨rfl, v, h⟩
  · have hT := take_num d hk (num_dec hn')
    obtain ⟨t, ht⟩ : ∃ t : ByteArray, t = ⟨(Lib.decDigits n).toArray⟩ := ⟨_, rfl⟩
    have htd : t.data.toList = Lib.decDigits n := by rw [ht]
    have hts : t.size ≤ 1000 := by
      have : L.size = (ln k (Lib.decDigits n)).length := by rw [Lib.size_eq, hL]
      have h2 : (ln k (Lib.decDigits n)).length = (nm k).length + 1 + (Lib.decDigits n).length := by unfold ln; simp; omega
      have h3 : t.size = (Lib.decDigits n).length := by rw [Lib.size_eq, htd]
      omega
    have hL' : L.data.toList = ln k t.data.toList := by rw [hL, htd]
    have FT := fun q => take_num_is hg h hk hn' htd hts q
    rw [hL, hT]
    have e1 : ∀ {c : Bool} {x y : Dr}, (if c = true then (1, x) else (0, y) : Nat × Dr).1 = if c then 1 else 0 := fun {c x y} => by cases c <;> rfl
    have e2 : ∀ {c : Bool} {x y : Dr}, (if c = true then (1, x) else (0, y) : Nat × Dr).2 = if c then x else y := fun {c x y} => by cases c <;> rfl
    rw [e1, e2]
    match k, hk, hL', FT with
    | 0, _, hL', FT => exact take0_is hL' hs hm FT
    | 1, _, hL', FT => exact take1_is hL' hs hm FT
    | 2, _, hL', FT => exact take2_is hL' hs hm FT
    | 3, _, hL', FT => exact take3_is hL' hs hm FT
    | 4, _, hL', FT => exact take4_is hL' hs hm FT
  · rw [hL, take_split d hu]
    obtain ⟨T, hT⟩ : ∃ T : ByteArray, T = ⟨t.toArray⟩ := ⟨_, rfl⟩
    have hTd : T.data.toList = t := by rw [hT]
    have hTs : T.size ≤ 1000 := by
      have : L.size = (ln 5 t).length := by rw [Lib.size_eq, hL]
      have h2 : (ln 5 t).length = (nm 5).length + 1 + t.length := by unfold ln; simp; omega
      have h3 : T.size = t.length := by rw [Lib.size_eq, hTd]
      omega
    have hL' : L.data.toList = ln 5 T.data.toList := by rw [hL, hTd]
    refine take5_is hL' hs hm fun q => ?_
    have h' := h.drew q
    have hun : unA (nums T) = (s, 0) := by
      have : nums T = t.map UInt8.toNat := by unfold nums; rw [hTd]
      rw [this, unA, hu]
    have C := tsplit_is (w := w.drewN q) (p := p) (nums_b8 T) (by rw [nums_length]; exact hTs) hun h'.box.sp h'.loose h'.ltw h'.row h'.onl.size hn h'.own
    rw [ofNats_nums] at C
    refine C.mono ?_
    rintro e w' ⟨rfl, v', w1, hr, hc, ho, rfl⟩
    exact ⟨rfl, v', h'.add hr hc ho⟩
end Go.Proofs.YthenfioddnkjbaaGreatDoor.Rt
