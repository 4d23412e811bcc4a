import Derived.Test.YtfkiccdjffhhhaaGreatDoorRdIs
/- errors.As at a fault of the program's own; reason. -/
namespace Go.Proofs.YtfkiccdjffhhhaaGreatDoor.Rt
open Go.RowKit Go.Extern.Stop Go.Stop Go.Extern Go.Sort
set_option linter.unusedVariables false

abbrev hdl (t : Nat) : Value := .pointer (some ⟨11, t, none⟩)
abbrev typV (t : Nat) : Value := .iface 111 (.agg #[hdl t])
abbrev refV (t : Nat) (a : Addr) (f : Int) : Value := .agg #[hdl t, .pointer (some a), .int .u64 f]
theorem valueOfP (t : Addr) (w : World) : (ReflectliteValue.unpack (.iface 69 (.pointer (some t)))).run Tryz.prog w
    = .ok (refV 69 ⟨w.heap.size, 0, none⟩ 150) (w.alloc (.cells #[.pointer (some t)] 69)) := by kernel_rfl
theorem valueOfF (l : Int) (x : Value) (w : World) : (ReflectliteValue.unpack (fltV l x)).run Tryz.prog w
    = .ok (refV 60 ⟨w.heap.size, 0, none⟩ 153) (w.alloc (.cells #[.int .i64 l, x] 60)) := by kernel_rfl
theorem typeX : ∃ g, Extern.find Tryz.f42 = some g ∧ ∀ a w, (g #[refV 69 a 150]).run Tryz.prog w = .ok (typV 69) w :=
  ⟨(Extern.find Tryz.f42).get (by kernel_rfl), by kernel_rfl, fun a w => by kernel_rfl⟩
theorem kindX : ∃ g, Extern.find Tryz.f118 = some g ∧ (∀ w, (g #[hdl 69]).run Tryz.prog w = .ok (.int .u8 22) w) ∧ ∀ w, (g #[hdl 60]).run Tryz.prog w = .ok (.int .u8 25) w :=
  ⟨(Extern.find Tryz.f118).get (by kernel_rfl), by kernel_rfl, fun w => by kernel_rfl, fun w => by kernel_rfl⟩
theorem elemX : ∃ g, Extern.find Tryz.f130 = some g ∧ ∀ w, (g #[.agg #[hdl 69]]).run Tryz.prog w = .ok (typV 60) w :=
  ⟨(Extern.find Tryz.f130).get (by kernel_rfl), by kernel_rfl, fun w => by kernel_rfl⟩
theorem implX : ∃ g, Extern.find Tryz.f131 = some g ∧ ∀ w, (g #[.agg #[hdl 60], typV 44]).run Tryz.prog w = .ok (.bool true) w :=
  ⟨(Extern.find Tryz.f131).get (by kernel_rfl), by kernel_rfl, fun w => by kernel_rfl⟩
theorem asgnX : ∃ g, Extern.find Tryz.f128 = some g ∧ ∀ w, (g #[.agg #[hdl 60], typV 60]).run Tryz.prog w = .ok (.bool true) w :=
  ⟨(Extern.find Tryz.f128).get (by kernel_rfl), by kernel_rfl, fun w => by kernel_rfl⟩
theorem typeOfF (v : Value) (w : World) : (ReflectliteType.typeOf #[.iface 60 v]).run Tryz.prog w = .ok (typV 60) w := by kernel_rfl
theorem methodKind (h : Value) (w : World) : (Go.method 293 111 (.agg #[h]) "Kind").run Tryz.prog w = .ok (118, h) w := by kernel_rfl
theorem methodElem (h : Value) (w : World) : (Go.method 293 111 (.agg #[h]) "Elem").run Tryz.prog w = .ok (130, .agg #[h]) w := by kernel_rfl
theorem methodImplements (h : Value) (w : World) : (Go.method 293 111 (.agg #[h]) "Implements").run Tryz.prog w = .ok (131, .agg #[h]) w := by kernel_rfl
theorem methodAssignableTo (h : Value) (w : World) : (Go.method 293 111 (.agg #[h]) "AssignableTo").run Tryz.prog w = .ok (128, .agg #[h]) w := by kernel_rfl
theorem partsP (a : Addr) (w : World) : (ReflectliteValue.parts (refV 69 a 150)).run Tryz.prog w = .ok (some (69, a, 150)) w := by kernel_rfl
theorem partsA (a : Addr) (w : World) : (ReflectliteValue.parts (refV 60 a 409)).run Tryz.prog w = .ok (some (60, a, 409)) w := by kernel_rfl
theorem partsF (a : Addr) (w : World) : (ReflectliteValue.parts (refV 60 a 153)).run Tryz.prog w = .ok (some (60, a, 153)) w := by kernel_rfl
theorem mt2 (v : Value) (h1 : Value → Sem Value) (h2 : Array Value → Sem Value) : ReflectliteValue.method.match_2 (fun _ => Sem Value) #[v] h1 h2 = h1 v := rfl
theorem mt3 (v x : Value) (h1 : Value → Value → Sem Value) (h2 : Array Value → Sem Value) : ReflectliteValue.set.match_3 (fun _ => Sem Value) #[v, x] h1 h2 = h1 v x := rfl
theorem isNilP (a p : Addr) (W : World) (ha : W.cell? a = some (.pointer (some p))) :
    (ReflectliteValue.method (ReflectliteValue.valueError "reflectlite.Value.IsNil" 0) ReflectliteValue.isNil #[refV 69 a 150]).run Tryz.prog W = .ok (.bool false) W := by
  delta ReflectliteValue.method
  rw [mt2]
  simp only [Sem.run_bind, partsP, Result.andThen]
  simp [ReflectliteValue.isNil, loadVar, isAgg, underlying, Tryz.underlying69, ha, Result.andThen]
theorem elemOfP (w : World) : (Rtype.elem? 69).run Tryz.prog w = .ok (some 60) w := by kernel_rfl
theorem mkF (p : Addr) (w : World) : (ReflectliteValue.mk 60 p ReflectliteValue.flagAddr).run Tryz.prog w = .ok (refV 60 p 409) w := by kernel_rfl
theorem elemVP (a p : Addr) (W : World) (ha : W.cell? a = some (.pointer (some p))) :
    (ReflectliteValue.method (ReflectliteValue.valueError "reflectlite.Value.Elem" 0) ReflectliteValue.elem #[refV 69 a 150]).run Tryz.prog W = .ok (refV 60 p 409) W := by
  delta ReflectliteValue.method
  rw [mt2]
  simp only [Sem.run_bind, partsP, Result.andThen]
  simp [ReflectliteValue.elem, loadVar, isAgg, underlying, Tryz.underlying69, ha, Result.andThen, elemOfP, mkF]
theorem directF (w : World) : (Rtype.directlyAssignable 60 60).run Tryz.prog w = .ok true w := by kernel_rfl
theorem setF (p b : Nat) (l : Int) (x o0 o1 : Value) (W : World) (hx : x.oneCell' = true) (h0 : W.cell? ⟨b, 0, none⟩ = some (.int .i64 l)) (h1 : W.cell? ⟨b, 1, none⟩ = some x) (t0 : W.cell? ⟨p, 0, none⟩ = some o0) (t1 : W.cell? ⟨p, 1, none⟩ = some o1) (hf : ∀ o, W.frozen? ⟨p, o, none⟩ = false) :
    (ReflectliteValue.set #[refV 60 ⟨p, 0, none⟩ 409, refV 60 ⟨b, 0, none⟩ 153]).run Tryz.prog W
      = .ok (.tuple #[]) ((W.setCell ⟨p, 0, none⟩ (.int .i64 l)).setCell ⟨p, 1, none⟩ x) := by
  have hl : (loadCells ⟨b, 0, none⟩ 2).run Tryz.prog W = .ok #[.int .i64 l, x] W := run_loadCells_list (P := Tryz.prog) W ⟨b, 0, none⟩ [.int .i64 l, x] (by
    intro j v hj
    match j, hj with
    | 0, hj => simp at hj; rw [← hj]; exact h0
    | 1, hj => simp at hj; rw [← hj]; exact h1
    | j + 2, hj => simp at hj)
  have t1' : (W.setCell ⟨p, 0, none⟩ (.int .i64 l)).cell? ⟨p, 1, none⟩ = some o1 := by rw [World.cell?_setCell_other (h := fun e => by have := congrArg Addr.off e; simp at this)]; exact t1
  have hf1 : (W.setCell ⟨p, 0, none⟩ (.int .i64 l)).frozen? ⟨p, 1, none⟩ = false := by rw [World.frozen?_setCell]; exact hf 1
  delta ReflectliteValue.set
  rw [mt3]
  simp only [Sem.run_bind, partsA, partsF, Result.andThen]
  simp [ReflectliteValue.flagAddr, loadVar, hl, Result.andThen, directF, storeVar, Value.cells, storeCells, Addr.add]
  rw [run_store Tryz.prog W ⟨p, 0, none⟩ _ _ (by rfl)]
  simp [t0, hf]
  rw [run_store Tryz.prog _ ⟨p, 1, none⟩ _ _ hx]
  simp [t1', hf1]
set_option maxRecDepth 16000 in
set_option maxHeartbeats 4000000 in
/-- errors.As(a fault, &f): it is taken over -/
theorem as_flt (p : Nat) (l : Int) (x o0 o1 : Value) (w : World) (hx : x.oneCell' = true) (hg : w.cell? ⟨2, 0, none⟩ = some (typV 44)) (t0 : w.cell? ⟨p, 0, none⟩ = some o0) (t1 : w.cell? ⟨p, 1, none⟩ = some o1) (hf : ∀ o, w.frozen? ⟨p, o, none⟩ = false) :
    Calls Tryz.prog 29 #[fltV l x, .iface 69 (.pointer (some ⟨p, 0, none⟩))] w fun e w' => e = .returned (.bool true) ∧ ∃ w1, Below w.heap.size w w1 ∧ w' = (w1.setCell ⟨p, 0, none⟩ (.int .i64 l)).setCell ⟨p, 1, none⟩ x := by
  have hU := @run_callFunc_extern Tryz.prog 41 _ (fun args => ReflectliteValue.unpack (args.getD 0 (.tuple #[]))) Tryz.func41 (by kernel_rfl) (by kernel_rfl) (by kernel_rfl) (by kernel_rfl)
  have hN := @run_callFunc_extern Tryz.prog 43 _ (ReflectliteValue.method (ReflectliteValue.valueError "reflectlite.Value.IsNil" 0) ReflectliteValue.isNil) Tryz.func43 (by kernel_rfl) (by kernel_rfl) (by kernel_rfl) (by kernel_rfl)
  have hE := @run_callFunc_extern Tryz.prog 59 _ (ReflectliteValue.method (ReflectliteValue.valueError "reflectlite.Value.Elem" 0) ReflectliteValue.elem) Tryz.func59 (by kernel_rfl) (by kernel_rfl) (by kernel_rfl) (by kernel_rfl)
  have hS := @run_callFunc_extern Tryz.prog 60 _ ReflectliteValue.set Tryz.func60 (by kernel_rfl) (by kernel_rfl) (by kernel_rfl) (by kernel_rfl)
  have hT := @run_callFunc_extern Tryz.prog 45 _ ReflectliteType.typeOf Tryz.func45 (by kernel_rfl) (by kernel_rfl) (by kernel_rfl) (by kernel_rfl)
  obtain ⟨gT, fT, tY⟩ := typeX
  have hY := @run_callFunc_extern Tryz.prog 42 _ gT Tryz.func42 (by kernel_rfl) (by kernel_rfl) (by kernel_rfl) fT
  obtain ⟨gK, fK, k1, k2⟩ := kindX
  have hK := @run_callFunc_extern Tryz.prog 118 _ gK Tryz.func118 (by kernel_rfl) (by kernel_rfl) (by kernel_rfl) fK
  obtain ⟨gL, fL, l1⟩ := elemX
  have hL := @run_callFunc_extern Tryz.prog 130 _ gL Tryz.func130 (by kernel_rfl) (by kernel_rfl) (by kernel_rfl) fL
  obtain ⟨gI, fI, i1⟩ := implX
  have hI := @run_callFunc_extern Tryz.prog 131 _ gI Tryz.func131 (by kernel_rfl) (by kernel_rfl) (by kernel_rfl) fI
  obtain ⟨gA, fA, a1⟩ := asgnX
  have hA := @run_callFunc_extern Tryz.prog 128 _ gA Tryz.func128 (by kernel_rfl) (by kernel_rfl) (by kernel_rfl) fA
  have tO := typeOfF
  have mA := methodAssignableTo
  have mK := methodKind
  have mE := methodElem
  have mI := methodImplements
  have vF := valueOfF l x
  have vP := valueOfP ⟨p, 0, none⟩
  obtain ⟨wA, hwA⟩ : ∃ wA, wA = (w.alloc (.cells #[.pointer (some ⟨p, 0, none⟩)] 69)).alloc (.cells #[hdl 69, .pointer (some ⟨w.heap.size, 0, none⟩), .int .u64 150] 86) := ⟨_, rfl⟩
  have hbA : Below w.heap.size w wA := by rw [hwA]; (repeat (first | with_reducible exact Below.refl _ _ | with_reducible assumption | with_reducible refine Below.drew ?_ | with_reducible refine Below.al ?_ _ | with_reducible refine Below.setCell ?_ (by first | exact Nat.le_refl _ | (simp; omega) | (simp; done)) _ | with_reducible refine Below.on ?_ (by assumption)))
  have hg2 := cell_later hbA hg
  have n8 := isNilP ⟨w.heap.size, 0, none⟩ ⟨p, 0, none⟩ wA (by rw [hwA]; simp)
  obtain ⟨wB, hwB⟩ : ∃ wB, wB = wA.alloc (.cells #[hdl 69, .pointer (some ⟨w.heap.size, 0, none⟩), .int .u64 150] 86) := ⟨_, rfl⟩
  have el := elemVP ⟨w.heap.size, 0, none⟩ ⟨p, 0, none⟩ wB (by rw [hwB, World.cell?_alloc_lt _ _ ⟨w.heap.size, 0, none⟩ (by rw [hwA]; simp; omega), hwA]; simp)
  obtain ⟨wC, hwC⟩ : ∃ wC, wC = wB.alloc (.cells #[.int .i64 l, x] 60) := ⟨_, rfl⟩
  have hbC : Below w.heap.size w wC := by rw [hwC, hwB]; (repeat (first | with_reducible exact Below.refl _ _ | with_reducible assumption | with_reducible refine Below.drew ?_ | with_reducible refine Below.al ?_ _ | with_reducible refine Below.setCell ?_ (by first | exact Nat.le_refl _ | (simp; omega) | (simp; done)) _ | with_reducible refine Below.on ?_ (by assumption)))
  have hsz : wB.heap.size = w.heap.size + 1 + 1 + 1 := by rw [hwB, hwA]; simp
  have hpl : p < w.heap.size := by
    rcases Nat.lt_or_ge p w.heap.size with h | h
    · exact h
    · simp [World.cell?, Array.getElem?_eq_none h] at t0
  have st := setF p wB.heap.size l x o0 o1 wC hx (by rw [hwC, World.cell?_alloc_at _ _ _ _ rfl]; rfl) (by rw [hwC, World.cell?_alloc_at _ _ _ _ rfl]; rfl) (cell_later hbC t0) (cell_later hbC t1) (fun o => (hbC.frozen (p := ⟨p, o, none⟩) hpl).trans (hf o))
  rw [hwA] at hg2 n8
  rw [hsz, hwC, hwB, hwA] at st
  rw [hwB, hwA] at el
  have HBC := hid hbC
  have HWC := hid hwC
  have HWB := hid hwB
  have HWA := hid hwA
  clear hbA hwA hwB hwC hbC hsz
  go_enter Tryz.func29, Tryz.ntmps29
  go_wp2
  refine wp_loop_rounds 1 ?_
  rw [rounds_succ]
  go_wp2
  go_ret
  exact ⟨rfl, wC, HBC.out, by rw [HWC.out, HWB.out, HWA.out]⟩
end Go.Proofs.YtfkiccdjffhhhaaGreatDoor.Rt
