import Derived.Test.YtmlacdfdpdkdaaaDoorVItoa
import Derived.Test.YtmlacdfdpdkdaaaDoorVRowsV
import Derived.Test.YtmlacdfdpdkdaaaDoorBgStage
/- The law's marks of pairs and of versions. -/
namespace Go.Proofs.YtmlacdfdpdkdaaaDoor.Vs
open Go.RowKit Go.Sort
set_option linter.unusedVariables false

theorem itS_size {i : Nat} (hi : i ≤ 4611686018427387904) : (itS i).size ≤ 40 := by
  show (Lib.itoa (i : Int)).length ≤ 40
  unfold Lib.itoa
  rw [if_neg (by omega), Lib.decDigits_length]
  have := Lib.nDigits_le20 (i : Int).toNat (by omega)
  omega
/-- what stands in a mark's key -/
def markK (i : Nat) : ByteArray := ⟨#[35]⟩ ++ itS i
/-- the mark of a pair -/
def markQ (i j : Nat) : ByteArray × ByteArray := (markK i, itS j)
/-- the mark of a version -/
def markV (i j : Nat) : Kv := (markK i, ⟨⟨j, 0, 77⟩, true, itS j⟩)
theorem markPair_is (i j : Nat) (hi : i ≤ 4611686018427387904) (hj : j ≤ 4611686018427387904) (w : World) (ht : PowTab w) :
    Calls Tryd.prog 68 #[.int .i64 (i : Int), .int .i64 (j : Int)] w fun e w' => e = .returned (.agg #[.string (markK i), .string (itS j)]) ∧ Below w.heap.size w w' := by
  obtain ⟨wa, hwa⟩ : ∃ wa, wa = w.alloc (.cells #[.string ⟨#[]⟩, .string ⟨#[]⟩] 40) := ⟨_, rfl⟩
  have hba : Below w.heap.size w wa := by rw [hwa]; exact Below.al (Below.refl _ _) _
  have kb : wa.heap[w.heap.size]? = some (.cells #[.string ⟨#[]⟩, .string ⟨#[]⟩] 40 (0, 0)) := by rw [hwa]; exact World.alloc_heap_new _ _
  have HLT : Hid (w.heap.size < wa.heap.size) := (Array.getElem?_eq_some_iff.1 kb).1
  have HBA := hid hba
  have HBK := hid kb
  have z1 := itS_size hi
  have HM : Hid (markK i = (⟨#[35]⟩ ++ itS i : ByteArray)) := rfl
  generalize markK i = mm at HM
  have C1 := hid (itoa_is i hi wa (ht.later hba))
  have C2 : Hid (∀ w1, Below wa.heap.size wa w1 → Calls Tryd.prog 78 #[.int .i64 (j : Int)] w1 fun e w' => e = .returned (.string (itS j)) ∧ Below w1.heap.size w1 w') := fun w1 hb => itoa_is j hj w1 ((ht.later hba).later hb)
  generalize itS i = s1 at z1 HM C1
  generalize itS j = s2 at C2 ⊢
  have k1 : (9223372036854775807 < 1 + s1.size) = False := by simp; omega
  clear ht hba kb
  go_enter Tryd.func68, Tryd.ntmps68
  go_wp2_with fail
  rw [← hwa]
  refine C1.out.mono ?_
  rintro e w1 ⟨rfl, hb1⟩
  have HB1 := hid hb1
  clear hb1
  go_wp2_with fail
  refine (C2.out w1 HB1.out).mono ?_
  rintro e w2 ⟨rfl, hb2⟩
  have HB2 := hid (Below.on HB1.out hb2)
  clear hb2
  have q := (HB2.out.block w.heap.size HLT.out).trans HBK.out
  have d0 : w2.cell? ⟨w.heap.size, 0, none⟩ = some (.string ⟨#[]⟩) := cell_of_obj q rfl
  have d1 : w2.cell? ⟨w.heap.size, 1, none⟩ = some (.string ⟨#[]⟩) := cell_of_obj q rfl
  have fz : ∀ o, w2.frozen? ⟨w.heap.size, o, none⟩ = false := fun o => frozen_of_row w2 w.heap.size o _ _ q
  clear q
  go_wp2_with fail
  refine bodyPost_ret (v := .agg #[.string mm, .string s2]) (by simp [results, Tryd.results68, go_sem, d0, d1, HM.out]) rfl ⟨rfl, ?_⟩
  exact Below.setCell (Below.setCell (Below.on HBA.out HB2.out) (Nat.le_refl _) _) (Nat.le_refl _) _
set_option maxHeartbeats 400000 in
theorem markVersion_is (i j : Nat) (hi : i ≤ 4611686018427387904) (hj : j ≤ 4611686018427387904) (w : World) (ht : PowTab w) :
    Calls Tryd.prog 63 #[.int .i64 (i : Int), .int .i64 (j : Int)] w fun e w' => e = .returned (.agg #[.string (markK i), .int .u64 (j : Int), .int .u32 0, .int .u32 77, .bool true, .string (itS j)]) ∧ Below w.heap.size w w' := by
  obtain ⟨wa, hwa⟩ : ∃ wa, wa = w.alloc (.cells #[.string ⟨#[]⟩, .int .u64 0, .int .u32 0, .int .u32 0, .bool false, .string ⟨#[]⟩] 76) := ⟨_, rfl⟩
  have hba : Below w.heap.size w wa := by rw [hwa]; exact Below.al (Below.refl _ _) _
  have kb : wa.heap[w.heap.size]? = some (.cells #[.string ⟨#[]⟩, .int .u64 0, .int .u32 0, .int .u32 0, .bool false, .string ⟨#[]⟩] 76 (0, 0)) := by rw [hwa]; exact World.alloc_heap_new _ _
  have HLT : Hid (w.heap.size < wa.heap.size) := (Array.getElem?_eq_some_iff.1 kb).1
  have HBA := hid hba
  have HBK := hid kb
  have z1 := itS_size hi
  have HM : Hid (markK i = (⟨#[35]⟩ ++ itS i : ByteArray)) := rfl
  generalize markK i = mm at HM
  have C1 := hid (itoa_is i hi wa (ht.later hba))
  have C2 : Hid (∀ w1, Below wa.heap.size wa w1 → Calls Tryd.prog 78 #[.int .i64 (j : Int)] w1 fun e w' => e = .returned (.string (itS j)) ∧ Below w1.heap.size w1 w') := fun w1 hb => itoa_is j hj w1 ((ht.later hba).later hb)
  generalize itS i = s1 at z1 HM C1
  generalize itS j = s2 at C2 ⊢
  have k1 : (9223372036854775807 < 1 + s1.size) = False := by simp; omega
  clear ht hba kb
  go_enter Tryd.func63, Tryd.ntmps63
  go_wp2_with fail
  rw [← hwa]
  refine C1.out.mono ?_
  rintro e w1 ⟨rfl, hb1⟩
  have HB1 := hid hb1
  clear hb1
  go_wp2_with fail
  refine (C2.out w1 HB1.out).mono ?_
  rintro e w2 ⟨rfl, hb2⟩
  have HB2 := hid (Below.on HB1.out hb2)
  clear hb2
  have q := (HB2.out.block w.heap.size HLT.out).trans HBK.out
  have d0 : w2.cell? ⟨w.heap.size, 0, none⟩ = some (.string ⟨#[]⟩) := cell_of_obj q rfl
  have d1 : w2.cell? ⟨w.heap.size, 1, none⟩ = some (.int .u64 0) := cell_of_obj q rfl
  have d2 : w2.cell? ⟨w.heap.size, 2, none⟩ = some (.int .u32 0) := cell_of_obj q rfl
  have d3 : w2.cell? ⟨w.heap.size, 3, none⟩ = some (.int .u32 0) := cell_of_obj q rfl
  have d4 : w2.cell? ⟨w.heap.size, 4, none⟩ = some (.bool false) := cell_of_obj q rfl
  have d5 : w2.cell? ⟨w.heap.size, 5, none⟩ = some (.string ⟨#[]⟩) := cell_of_obj q rfl
  have fz : ∀ o, w2.frozen? ⟨w.heap.size, o, none⟩ = false := fun o => frozen_of_row w2 w.heap.size o _ _ q
  clear q
  go_wp2_with fail
  refine bodyPost_ret (v := .agg #[.string mm, .int .u64 (j : Int), .int .u32 0, .int .u32 77, .bool true, .string s2]) (by simp [results, Tryd.results63, go_sem, d0, d1, d2, d3, d4, d5, HM.out]) rfl ⟨rfl, ?_⟩
  exact Below.setCell (Below.setCell (Below.setCell (Below.setCell (Below.setCell (Below.setCell (Below.on HBA.out HB2.out) (Nat.le_refl _) _) (Nat.le_refl _) _) (Nat.le_refl _) _) (Nat.le_refl _) _) (Nat.le_refl _) _) (Nat.le_refl _) _
end Go.Proofs.YtmlacdfdpdkdaaaDoor.Vs
/- The two kinds of lists of law 9. -/
namespace Go.Proofs.YtmlacdfdpdkdaaaDoor.Bg
open Go.RowKit Go.Sort Go.Proofs.YtmlacdfdpdkdaaaDoor Go.Proofs.YtmlacdfdpdkdaaaDoor.Vs
set_option linter.unusedVariables false

theorem info_ofB {P : Program} {t : TypeId} {z : Value} {n m : Nat} (h : (P.info? t).map (fun i => (i.zero, i.size, i.bytes)) = some (some z, n, m)) : ∃ i, P.info? t = some i ∧ i.zero = some z ∧ i.size = n ∧ i.bytes = m := info_ofV h
abbrev elP : El (ByteArray × ByteArray) := ⟨40, 34, 2, 32, .agg #[.string ⟨#[]⟩, .string ⟨#[]⟩], fun x => [.string x.1, .string x.2]⟩
theorem infoPb : (Tryd.prog.info? 40).map (fun i => (i.zero, i.size, i.bytes)) = some (some (.agg #[.string ⟨#[]⟩, .string ⟨#[]⟩]), 2, 32) := by kernel_rfl
theorem infoPs : (Tryd.prog.info? 34).map (fun i => (i.zero, i.size, i.bytes)) = some (some (.slice none 0 0), 1, 24) := by kernel_rfl
theorem okP : elP.Ok := ⟨Tryd.underlying34, info_ofB infoPb, fun _ => rfl, fun x u hu => by
  simp at hu
  rcases hu with rfl | rfl <;> rfl, by decide, rfl, by decide⟩
theorem okP2 : elP.Ok2 45 := ⟨Tryd.underlying45, info_ofB infoPs⟩
abbrev elV : El Kv := ⟨76, 56, 6, 56, vv ⟨#[]⟩ ⟨⟨0, 0, 0⟩, false, ⟨#[]⟩⟩, fun e => [.string e.1, .int .u64 e.2.s.a, .int .u32 e.2.s.b, .int .u32 e.2.s.c, .bool e.2.del, .string e.2.val]⟩
theorem infoVs2 : (Tryd.prog.info? 56).map (fun i => (i.zero, i.size, i.bytes)) = some (some (.slice none 0 0), 1, 24) := by kernel_rfl
theorem okV : elV.Ok := ⟨Tryd.underlying56, info_ofB infoVr, fun _ => rfl, fun x u hu => by
  simp at hu
  rcases hu with rfl | rfl | rfl | rfl | rfl | rfl <;> rfl, by decide, rfl, by decide⟩
theorem okV2 : elV.Ok2 48 := ⟨Tryd.underlying48, info_ofB infoVs2⟩
/-- an append whose run is known, as one step of a region that draws -/
theorem step_append_runB {P : Program} {ops : Array Oper} {o : Oper} {a : Act} {w : World} {K : Act → World → Prop} {Q : Exit → Act → World → Prop} {E : Prop}
    (hg : o.guard = none) (s x : Operand) (dT sT : TypeId) (hop : o.op = Op.call { callee := Callee.builtin Builtin.append, args := #[s, x], argTypes := #[dT, sT] })
    (v u : Value) (hd : a.eval s = v) (hx : a.eval x = u) {v' : Value} {w' : World} (hr : (Builtin.append_ #[dT, sT] o.type #[v, u]).run P w = .ok v' w') (hK : K (a.put o.dst v') w') :
    if Region.wanted o (yielded ops a.tmps) = true then Oper.wp P o a w K Q else E := by
  have hw : Region.wanted o (yielded ops a.tmps) = true := by simp [Region.wanted, hg]
  rw [if_pos hw]
  unfold Oper.wp
  simp [execOp, hop, resolve, invoke, builtin, hd, hx, hr, Result.andThen]
  exact hK
end Go.Proofs.YtmlacdfdpdkdaaaDoor.Bg
