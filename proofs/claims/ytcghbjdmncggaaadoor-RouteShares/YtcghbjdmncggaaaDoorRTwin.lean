import Derived.Test.YtcghbjdmncggaaaDoorRParts
import Derived.Test.YtcghbjdmncggaaaDoorLItoa
import Derived.Laws.MakeOwn
import Derived.Laws.CopyOwn
/- A configuration with split keys of its own. -/
namespace Go.Proofs.YtcghbjdmncggaaaDoor.Rt
open Go.RowKit Go.Sort
set_option linter.unusedVariables false

/-- what Cut answers -/
def Cf.cutA (c : Cf) (s : T2) : List Pt := if c.okB then cutL c.ss s else []
theorem Cut_is {c : Cf} {w : World} (h : c.Ok w) (s : T2) :
    Calls Tryd.prog 8 #[c.val, spv s] w fun e w' => ∃ v, e = .returned v ∧ OwnP w' w.heap.size v (c.cutA s) ∧ Below w.heap.size w w' := by
  obtain ⟨lo, hi⟩ := s
  have H := hid h
  clear h
  have HU : Hid (c.cutA (lo, hi) = if c.okB then cutL c.ss (lo, hi) else []) := hid rfl
  have HB : Hid (BoxC ((w.alloc (.cells #[.int .i64 c.sh, .int .i64 c.cl, .slice c.a c.ss.length c.cp, .int .i64 c.ca, .int .i64 c.pk, .int .u64 c.wi] 25)).alloc (.cells #[.string lo, .string hi] 37)) w.heap.size c) := hid ((BoxC.new w c _).later (Below.al (Below.refl _ _) _))
  have HS := hid (newSp (w.alloc (.cells #[.int .i64 c.sh, .int .i64 c.cl, .slice c.a c.ss.length c.cp, .int .i64 c.ca, .int .i64 c.pk, .int .u64 c.wi] 25)) lo hi 37)
  go_enter Tryd.func8, Tryd.ntmps8
  go_wp2_with fail
  refine (mayBe_is (H.out.later (by (repeat (first | exact Below.refl _ _ | assumption | refine Below.drew ?_ | refine Below.al ?_ _ | refine Below.setCell ?_ (by first | exact Nat.le_refl _ | (simp; omega) | (simp; done)) _ | refine Below.on ?_ (by assumption))))) rfl).mono ?_
  rintro e w1 ⟨rfl, hw1⟩
  obtain ⟨c0, c1, c2, c3, c4, c5⟩ := HB.out.later hw1
  have s0 := cell_later hw1 HS.out.1
  have s1 := cell_later hw1 HS.out.2.1
  rw [World.size_alloc] at s0 s1
  have HW : Hid (Below w.heap.size w w1) := hid (by (repeat (first | exact Below.refl _ _ | assumption | refine Below.drew ?_ | refine Below.al ?_ _ | refine Below.setCell ?_ (by first | exact Nat.le_refl _ | (simp; omega) | (simp; done)) _ | refine Below.on ?_ (by assumption))))
  clear hw1 HB HS
  cases ho : c.okB
  · go_wp2_with fail
    go_ret
    exact ⟨_, rfl, by rw [HU.out, ho]; exact OwnP.nil _ _, HW.out⟩
  · go_wp2_with fail
    refine (cut_is (H.out.later HW.out) (ok_len ho).1 (ok_len ho).2.1 (lo, hi)).mono ?_
    rintro e w2 ⟨v, rfl, hv, hw2⟩
    have HV := hid hv
    clear hv
    go_wp2_with fail
    go_ret
    exact ⟨_, rfl, by rw [HU.out, ho]; exact HV.out.base HW.out.size, Below.on HW.out hw2⟩

set_option maxHeartbeats 2000000 in
theorem mark_is {i j : Int} (hi : -1 ≤ i ∧ i ≤ 4611686018427387904) (hj : -1 ≤ j ∧ j ≤ 4611686018427387904) (w : World) (ht : PowTab w) :
    Calls Tryd.prog 19 #[.int .i64 i, .int .i64 j] w fun e w' => ∃ s, e = .returned (.string s) ∧ Below w.heap.size w w' := by
  have HT := hid ht
  clear ht
  go_enter Tryd.func19, Tryd.ntmps19
  go_wp2_with fail
  refine (itoa_any i hi.1 hi.2 _ HT.out).mono ?_
  rintro e w1 ⟨s1, rfl, hs1, hb1⟩
  have HB := hid hb1
  clear hb1
  go_wp2_with fail
  refine (itoa_any j hj.1 hj.2 _ (HT.out.later HB.out)).mono ?_
  rintro e w2 ⟨s2, rfl, hs2, hb2⟩
  have HB2 := hid (Below.on HB.out hb2)
  clear hb2
  go_wp2_with fail
  go_ret
  exact ⟨_, rfl, HB2.out⟩

theorem infoTx : (Tryd.prog.info? 9).map (fun i => (i.zero, i.size, i.bytes)) = some (some (.string ⟨#[]⟩), 1, 16) := by kernel_rfl
def flatS (ss : List ByteArray) : List Value := ss.map .string
theorem make_tx (w : World) (n : Nat) (h : n ≤ 17592186044416) : (Instr.makeSlice 22 (.int .i64 (n : Int)) (.int .i64 (n : Int))).run Tryd.prog w = .ok (.slice (some ⟨w.heap.size, 0, none⟩) n n) (w.alloc (.cells (madeCells (Value.string ⟨#[]⟩).cells n) 9)) := by
  obtain ⟨i0, hi, hz0, hz1, hz2⟩ := info_ofR infoTx
  have := run_make (P := Tryd.prog) w 22 9 i0 _ Tryd.underlying22 hi hz0 .i64 .i64 n n (by omega) (by omega) (by rw [hz2]; omega) (by omega)
  rw [this, hz1]
  simp
/-- n texts in block g -/
def CellsS (w : World) (g : Nat) (f : Nat → ByteArray) (n : Nat) : Prop := ∀ i, i < n → w.cell? ⟨g, i, none⟩ = some (.string (f i))
theorem CellsS.later {w w' : World} {g n : Nat} {f : Nat → ByteArray} (h : CellsS w g f n) (hb : Below w.heap.size w w') : CellsS w' g f n := fun i hi => cell_later hb (h i hi)
theorem madeS (w : World) (n : Nat) : CellsS (w.alloc (.cells (madeCells (Value.string ⟨#[]⟩).cells n) 9)) w.heap.size (fun _ => mt) n := by
  intro i hi
  simp [go_sem, madeCells, hi, Nat.mod_one]
def putS (f : Nat → ByteArray) (k : Nat) (y : ByteArray) : Nat → ByteArray := fun i => if i = k then y else f i
theorem CellsS.put {w : World} {g n k : Nat} {f : Nat → ByteArray} (h : CellsS w g f n) (hk : k < n) (y : ByteArray) : CellsS (w.setCell ⟨g, k, none⟩ (.string y)) g (putS f k y) n := by
  intro i hi
  by_cases e : i = k
  · subst e
    simp only [putS, if_true]
    exact World.cell?_setCell_same _ _ _ (h i hi)
  · simp only [putS, e, if_false]
    exact cell_setc (by simp only [ne_eq, Addr.mk.injEq]; omega) (h i hi)
theorem rowS_cells {w : World} {a : Option Addr} {ss : List ByteArray} (h : RowS w a ss) (h0 : 0 < ss.length) : ∃ b off, a = some ⟨b, off, none⟩ ∧ ∀ j v, (flatS ss)[j]? = some v → w.cell? ((⟨b, off, none⟩ : Addr).add j) = some v := by
  obtain ⟨b, off, rfl, _⟩ := h 0 h0
  refine ⟨b, off, rfl, fun j v hj => ?_⟩
  have hj' : j < ss.length := by have := (List.getElem?_eq_some_iff.1 hj).1; simpa [flatS] using this
  obtain ⟨b', off', e', c0⟩ := h j hj'
  injection e' with e'; injection e' with e1 e2
  subst e1 e2
  have hadd : (⟨b, off, none⟩ : Addr).add j = ⟨b, off + j, none⟩ := by
    unfold Addr.add
    split
    · rename_i h0; rw [h0, Nat.add_zero]
    · rfl
  rw [hadd, c0]
  simp [flatS, hj'] at hj
  simp [nthS, hj', ← hj]
theorem run_copy_s (w : World) (g n N : Nat) (a : Option Addr) (c : Nat) (xs : List ByteArray) (ty : TypeId) (cur : Array Value) (hn : xs.length = n) (hN : n ≤ N) (hg : w.heap[g]? = some (.cells cur 9 (0, 0))) (hs : cur.size = N) (hr : RowS w a xs) :
    ∃ w', (Builtin.copy_ #[22, 22] ty #[.slice (some ⟨g, 0, none⟩) N N, .slice a n c]).run Tryd.prog w = .ok (goInt n) w' ∧ w'.heap[g]? = some (.cells (flatS xs ++ cur.toList.drop n).toArray 9 (0, 0)) ∧ Below g w w' := by
  obtain ⟨i0, hi, hz0, hz1, hz2⟩ := info_ofR infoTx
  by_cases h0 : n = 0
  · subst h0
    have e2 : xs = [] := List.eq_nil_of_length_eq_zero hn
    subst e2
    refine ⟨w, ?_, ?_, Below.refl _ _⟩
    · have hl : ∀ (x : Addr), (loadCells x 0).run Tryd.prog w = .ok #[] w := fun x => by simpa using run_loadCells_list (P := Tryd.prog) w x [] (by simp)
      cases a <;> simp [Builtin.copy_, run_underlying Tryd.underlying22, Builtin.lenOf, Builtin.firstCells, sizeOf, typeInfo, hi, storeCells, hl]
    · rw [hg]; simp [flatS]
  · obtain ⟨b, off, rfl, hc⟩ := rowS_cells hr (by omega)
    have hlen : (flatS xs).length = n := by simp [flatS, hn]
    have hl := run_loadCells_list (P := Tryd.prog) w ⟨b, off, none⟩ (flatS xs) hc
    rw [hlen] at hl
    have hst := run_storeCells_at Tryd.prog g 0 9 (flatS xs) 0 cur w hg (by rw [hlen, hs]; omega) (fun v hv => by
      obtain ⟨x, _, rfl⟩ := List.mem_map.1 hv; rfl)
    have hall : ((cur.toList.take (0 + 0) ++ flatS xs ++ cur.toList.drop (0 + 0 + (flatS xs).length))).toArray = (flatS xs ++ cur.toList.drop n).toArray := by
      simp [hlen]
    rw [hall] at hst
    refine ⟨w.setRow g (flatS xs ++ cur.toList.drop n).toArray, ?_, setRow_heap w g _ _ _ _ hg, below_setRow (Below.refl _ _) (Nat.le_refl _) _⟩
    have hmin : Nat.min n N = n := Nat.min_eq_left hN
    have hmin' : min n N = n := hmin
    simp [Builtin.copy_, run_underlying Tryd.underlying22, Builtin.lenOf, Builtin.firstCells, sizeOf, typeInfo, hi, hz1, hl, hst, hmin']
theorem wpList_copy_s {w : World} {ops : Array Oper} {rest : List Oper} {o : Oper} {act : Act} {Q : Exit → Act → World → Prop} (hgd : o.guard = none) (d s : Operand)
    (ho : o.op = .call { callee := .builtin .copy, args := #[d, s], argTypes := #[22, 22] })
    (g n N : Nat) (a : Option Addr) (c : Nat) (xs : List ByteArray) (cur : Array Value) (hd : act.eval d = .slice (some ⟨g, 0, none⟩) N N) (hs : act.eval s = .slice a n c)
    (hn : xs.length = n) (hN : n ≤ N) (hg : w.heap[g]? = some (.cells cur 9 (0, 0))) (hcs : cur.size = N) (hr : RowS w a xs)
    (h : ∀ w', w'.heap[g]? = some (.cells (flatS xs ++ cur.toList.drop n).toArray 9 (0, 0)) → Below g w w' → wpList Tryd.prog ops Q rest (act.put o.dst (goInt n)) w') : wpList Tryd.prog ops Q (o :: rest) act w := by
  refine wpList_plain hgd fun K hK => ?_
  obtain ⟨w', hrun, h1, h2⟩ := run_copy_s w g n N a c xs o.type cur hn hN hg hcs hr
  unfold Oper.wp
  simp [execOp, ho, resolve, invoke, builtin, hd, hs, hrun, Result.andThen]
  exact hK _ _ (h w' h1 h2)

end Go.Proofs.YtcghbjdmncggaaaDoor.Rt
