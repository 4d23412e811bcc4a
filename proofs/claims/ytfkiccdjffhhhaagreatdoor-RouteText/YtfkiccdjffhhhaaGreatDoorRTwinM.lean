import Derived.Test.YtfkiccdjffhhhaaGreatDoorRTxt
import Derived.Test.YtfkiccdjffhhhaaGreatDoorLItoa
import Derived.Laws.MakeOwn
import Derived.Laws.CopyOwn
import Derived.RangeFuncBox
/- A configuration with split keys of its own. -/
namespace Go.Proofs.YtfkiccdjffhhhaaGreatDoor.Rt
open Go.RowKit Go.Sort
set_option linter.unusedVariables false

set_option maxHeartbeats 2000000 in
theorem mark_is {i j : Int} (hi : -1 ≤ i ∧ i ≤ 4611686018427387904) (hj : -1 ≤ j ∧ j ≤ 4611686018427387904) (w : World) (ht : PowTab w) :
    Calls Tryz.prog 15 #[.int .i64 i, .int .i64 j] w fun e w' => ∃ s, e = .returned (.string s) ∧ Below w.heap.size w w' := by
  have HT := hid ht
  clear ht
  go_enter Tryz.func15, Tryz.ntmps15
  go_wp2_with fail
  refine (itoa_any i hi.1 hi.2 _ HT.out).mono ?_
  rintro e w1 ⟨s1, rfl, hs1, hb1⟩
  have HB := hid hb1
  clear hb1
  go_wp2_with fail
  refine (itoa_any j hj.1 hj.2 _ (HT.out.later HB.out)).mono ?_
  rintro e w2 ⟨s2, rfl, hs2, hb2⟩
  have HB2 := hid (Below.on HB.out hb2)
  clear hb2
  go_wp2_with fail
  go_ret
  exact ⟨_, rfl, HB2.out⟩

theorem run_copy_s (w : World) (g n N : Nat) (a : Option Addr) (c : Nat) (xs : List ByteArray) (ty : TypeId) (cur : Array Value) (hn : xs.length = n) (hN : n ≤ N) (hg : w.heap[g]? = some (.cells cur 9 (0, 0))) (hs : cur.size = N) (hr : RowS w a xs) :
    ∃ w', (Builtin.copy_ #[22, 22] ty #[.slice (some ⟨g, 0, none⟩) N N, .slice a n c]).run Tryz.prog w = .ok (goInt n) w' ∧ w'.heap[g]? = some (.cells (flatS xs ++ cur.toList.drop n).toArray 9 (0, 0)) ∧ Below g w w' := by
  obtain ⟨i0, hi, hz0, hz1, hz2⟩ := info_ofR infoTx
  by_cases h0 : n = 0
  · subst h0
    have e2 : xs = [] := List.eq_nil_of_length_eq_zero hn
    subst e2
    refine ⟨w, ?_, ?_, Below.refl _ _⟩
    · have hl : ∀ (x : Addr), (loadCells x 0).run Tryz.prog w = .ok #[] w := fun x => by simpa using run_loadCells_list (P := Tryz.prog) w x [] (by simp)
      cases a <;> simp [Builtin.copy_, run_underlying Tryz.underlying22, Builtin.lenOf, Builtin.firstCells, sizeOf, typeInfo, hi, storeCells, hl]
    · rw [hg]; simp [flatS]
  · obtain ⟨b, off, rfl, hc⟩ := rowS_cells hr (by omega)
    have hlen : (flatS xs).length = n := by simp [flatS, hn]
    have hl := run_loadCells_list (P := Tryz.prog) w ⟨b, off, none⟩ (flatS xs) hc
    rw [hlen] at hl
    have hst := run_storeCells_at Tryz.prog g 0 9 (flatS xs) 0 cur w hg (by rw [hlen, hs]; omega) (fun v hv => by
      obtain ⟨x, _, rfl⟩ := List.mem_map.1 hv; rfl)
    have hall : ((cur.toList.take (0 + 0) ++ flatS xs ++ cur.toList.drop (0 + 0 + (flatS xs).length))).toArray = (flatS xs ++ cur.toList.drop n).toArray := by
      simp [hlen]
    rw [hall] at hst
    refine ⟨w.setRow g (flatS xs ++ cur.toList.drop n).toArray, ?_, setRow_heap w g _ _ _ _ hg, below_setRow (Below.refl _ _) (Nat.le_refl _) _⟩
    have hmin : Nat.min n N = n := Nat.min_eq_left hN
    have hmin' : min n N = n := hmin
    simp [Builtin.copy_, run_underlying Tryz.underlying22, Builtin.lenOf, Builtin.firstCells, sizeOf, typeInfo, hi, hz1, hl, hst, hmin']
theorem wpList_copy_s {w : World} {ops : Array Oper} {rest : List Oper} {o : Oper} {act : Act} {Q : Exit → Act → World → Prop} (hgd : o.guard = none) (d s : Operand)
    (ho : o.op = .call { callee := .builtin .copy, args := #[d, s], argTypes := #[22, 22] })
    (g n N : Nat) (a : Option Addr) (c : Nat) (xs : List ByteArray) (cur : Array Value) (hd : act.eval d = .slice (some ⟨g, 0, none⟩) N N) (hs : act.eval s = .slice a n c)
    (hn : xs.length = n) (hN : n ≤ N) (hg : w.heap[g]? = some (.cells cur 9 (0, 0))) (hcs : cur.size = N) (hr : RowS w a xs)
    (h : ∀ w', w'.heap[g]? = some (.cells (flatS xs ++ cur.toList.drop n).toArray 9 (0, 0)) → Below g w w' → wpList Tryz.prog ops Q rest (act.put o.dst (goInt n)) w') : wpList Tryz.prog ops Q (o :: rest) act w := by
  refine wpList_plain hgd fun K hK => ?_
  obtain ⟨w', hrun, h1, h2⟩ := run_copy_s w g n N a c xs o.type cur hn hN hg hcs hr
  unfold Oper.wp
  simp [execOp, ho, resolve, invoke, builtin, hd, hs, hrun, Result.andThen]
  exact hK _ _ (h w' h1 h2)

end Go.Proofs.YtfkiccdjffhhhaaGreatDoor.Rt
