import Derived.Test.YthenfioddnkjbaaGreatDoorLItoa
import Derived.Laws.MakeOwn
import Derived.Laws.CopyOwn
import Derived.RangeFuncBox
/- A configuration with split keys of its own. -/
namespace Go.Proofs.YthenfioddnkjbaaGreatDoor.Rt
open Go.RowKit Go.Sort
set_option linter.unusedVariables false

set_option maxHeartbeats 2000000 in
theorem mark_is {i j : Int} (hi : -1 ≤ i ∧ i ≤ 4611686018427387904) (hj : -1 ≤ j ∧ j ≤ 4611686018427387904) (w : World) (ht : PowTab w) :
    Calls Tryz.prog 64 #[.int .i64 i, .int .i64 j] w fun e w' => ∃ s, e = .returned (.string s) ∧ Below w.heap.size w w' := by
  have HT := hid ht
  clear ht
  go_enter Tryz.func64, Tryz.ntmps64
  go_wp2_with fail
  refine (itoa_any i hi.1 hi.2 _ HT.out).mono ?_
  rintro e w1 ⟨s1, rfl, hs1, hb1⟩
  have HB := hid hb1
  clear hb1
  go_wp2_with fail
  refine (itoa_any j hj.1 hj.2 _ (HT.out.later HB.out)).mono ?_
  rintro e w2 ⟨s2, rfl, hs2, hb2⟩
  have HB2 := hid (Below.on HB.out hb2)
  clear hb2
  go_wp2_with fail
  go_ret
  exact ⟨_, rfl, HB2.out⟩

theorem run_copy_s (w : World) (g n N : Nat) (a : Option Addr) (c : Nat) (xs : List ByteArray) (ty : TypeId) (cur : Array Value) (hn : xs.length = n) (hN : n ≤ N) (hg : w.heap[g]? = some (.cells cur 9 (0, 0))) (hs : cur.size = N) (hr : RowS w a xs) :
    ∃ w', (Builtin.copy_ #[23, 23] ty #[.slice (some ⟨g, 0, none⟩) N N, .slice a n c]).run Tryz.prog w = .ok (goInt n) w' ∧ w'.heap[g]? = some (.cells (flatS xs ++ cur.toList.drop n).toArray 9 (0, 0)) ∧ Below g w w' := by
  obtain ⟨i0, hi, hz0, hz1, hz2⟩ := info_ofR infoTx
  by_cases h0 : n = 0
  · subst h0
    have e2 : xs = [] := List.eq_nil_of_length_eq_zero hn
    subst e2
    refine ⟨w, ?_, ?_, Below.refl _ _⟩
    · have hl : ∀ (x : Addr), (loadCells x 0).run Tryz.prog w = .ok #[] w := fun x => by simpa using run_loadCells_list (P := Tryz.prog) w x [] (by simp)
      cases a <;> simp [Builtin.copy_, run_underlying Tryz.underlying23, Builtin.lenOf, Builtin.firstCells, sizeOf, typeInfo, hi, storeCells, hl]
    · rw [hg]; simp [flatS]
  · obtain ⟨b, off, rfl, hc⟩ := rowS_cells hr (by omega)
    have hlen : (flatS xs).length = n := by simp [flatS, hn]
    have hl := run_loadCells_list (P := Tryz.prog) w ⟨b, off, none⟩ (flatS xs) hc
    rw [hlen] at hl
    have hst := run_storeCells_at Tryz.prog g 0 9 (flatS xs) 0 cur w hg (by rw [hlen, hs]; omega) (fun v hv => by
      obtain ⟨x, _, rfl⟩ := List.mem_map.1 hv; rfl)
    have hall : ((cur.toList.take (0 + 0) ++ flatS xs ++ cur.toList.drop (0 + 0 + (flatS xs).length))).toArray = (flatS xs ++ cur.toList.drop n).toArray := by
      simp [hlen]
    rw [hall] at hst
    refine ⟨w.setRow g (flatS xs ++ cur.toList.drop n).toArray, ?_, setRow_heap w g _ _ _ _ hg, below_setRow (Below.refl _ _) (Nat.le_refl _) _⟩
    have hmin : Nat.min n N = n := Nat.min_eq_left hN
    have hmin' : min n N = n := hmin
    simp [Builtin.copy_, run_underlying Tryz.underlying23, Builtin.lenOf, Builtin.firstCells, sizeOf, typeInfo, hi, hz1, hl, hst, hmin']
theorem wpList_copy_s {w : World} {ops : Array Oper} {rest : List Oper} {o : Oper} {act : Act} {Q : Exit → Act → World → Prop} (hgd : o.guard = none) (d s : Operand)
    (ho : o.op = .call { callee := .builtin .copy, args := #[d, s], argTypes := #[23, 23] })
    (g n N : Nat) (a : Option Addr) (c : Nat) (xs : List ByteArray) (cur : Array Value) (hd : act.eval d = .slice (some ⟨g, 0, none⟩) N N) (hs : act.eval s = .slice a n c)
    (hn : xs.length = n) (hN : n ≤ N) (hg : w.heap[g]? = some (.cells cur 9 (0, 0))) (hcs : cur.size = N) (hr : RowS w a xs)
    (h : ∀ w', w'.heap[g]? = some (.cells (flatS xs ++ cur.toList.drop n).toArray 9 (0, 0)) → Below g w w' → wpList Tryz.prog ops Q rest (act.put o.dst (goInt n)) w') : wpList Tryz.prog ops Q (o :: rest) act w := by
  refine wpList_plain hgd fun K hK => ?_
  obtain ⟨w', hrun, h1, h2⟩ := run_copy_s w g n N a c xs o.type cur hn hN hg hcs hr
  unfold Oper.wp
  simp [execOp, ho, resolve, invoke, builtin, hd, hs, hrun, Result.andThen]
  exact hK _ _ (h w' h1 h2)

end Go.Proofs.YthenfioddnkjbaaGreatDoor.Rt
/- twin: the walk. -/
namespace Go.Proofs.YthenfioddnkjbaaGreatDoor.Rt
open Go.RowKit Go.Sort
set_option linter.unusedVariables false

abbrev Cf.at (c : Cf) (a : Option Addr) (cp : Nat) : Cf := { c with a := a, cp := cp }
def LooseR (w : World) (g : Nat) : Prop := ∀ o, w.frozen? ⟨g, o, none⟩ = false
theorem LooseR.later {w w' : World} {g : Nat} (h : LooseR w g) (hb : Below w.heap.size w w') (hg : g < w.heap.size) : LooseR w' g := fun o => (hb.frozen (p := ⟨g, o, none⟩) hg).trans (h o)
theorem LooseR.setc {w : World} {g : Nat} (h : LooseR w g) (a : Addr) (v : Value) : LooseR (w.setCell a v) g := fun o => by simpa using h o
theorem copied_s {w : World} {g n : Nat} {xs : List ByteArray} {cur : Array Value} (hn : xs.length = n) (hc : ∀ i, i < n + 2 → cur[i]? = some (.string mt))
    (hg : w.heap[g]? = some (.cells (flatS xs ++ cur.toList.drop n).toArray 9 (0, 0))) : CellsS w g (fun i => if i < n then nthS xs i else mt) (n + 2) := by
  have hl : (flatS xs).length = n := by simp [flatS, hn]
  intro i hi
  have hcell : ∀ j v, (flatS xs ++ cur.toList.drop n)[j]? = some v → w.cell? ⟨g, j, none⟩ = some v := fun j v hj => by simp only [World.cell?, hg]; simpa using hj
  refine hcell _ _ ?_
  by_cases h : i < n
  · simp only [h, if_true]
    rw [List.getElem?_append_left (by omega)]
    simp [flatS, nthS, show i < xs.length by omega]
  · simp only [h, if_false]
    rw [List.getElem?_append_right (by omega), List.getElem?_drop, hl, show n + (i - n) = i by omega]
    simpa using hc i hi

set_option maxHeartbeats 4000000 in
set_option maxRecDepth 100000 in
theorem twin_is {c : Cf} {w : World} (h : c.Ok w) (hl : c.ss.length ≤ 8796093022208) (ht : PowTab w) :
    Calls Tryz.prog 17 #[c.val] w fun e w' => ∃ a cp, e = .returned (c.at a cp).val ∧ (c.at a cp).Ok w' ∧ Below w.heap.size w w' := by
  obtain ⟨sh, cl, a, cp, ss, ca, pk, wi⟩ := c
  simp only at hl
  obtain ⟨wA, hwA⟩ : ∃ wA, wA = (w.alloc (.cells #[.int .i64 sh, .int .i64 cl, .slice a ss.length cp, .int .i64 ca, .int .i64 pk, .int .u64 wi] 26)).alloc (.cells #[.int .i64 0, .int .i64 0, .slice none 0 0, .int .i64 0, .int .i64 0, .int .u64 0] 26) := ⟨_, rfl⟩
  have hbA : Below w.heap.size w wA := by rw [hwA]; (repeat (first | exact Below.refl _ _ | assumption | refine Below.drew ?_ | refine Below.al ?_ _ | refine Below.setCell ?_ (by first | exact Nat.le_refl _ | (simp; omega) | (simp; done)) _ | refine Below.on ?_ (by assumption)))
  have HC : Hid (BoxC wA w.heap.size ⟨sh, cl, a, cp, ss, ca, pk, wi⟩) := hid (by rw [hwA]; exact (BoxC.new w ⟨sh, cl, a, cp, ss, ca, pk, wi⟩ _).later (Below.al (Below.refl _ _) _))
  have HD : Hid (BoxC wA (w.heap.size + 1) ⟨0, 0, none, 0, [], 0, 0, 0⟩) := hid (by rw [hwA]; have := BoxC.new (w.alloc (.cells #[.int .i64 sh, .int .i64 cl, .slice a ss.length cp, .int .i64 ca, .int .i64 pk, .int .u64 wi] 26)) ⟨0, 0, none, 0, [], 0, 0, 0⟩ 26; rw [World.size_alloc] at this; exact this)
  have HF : Hid (LooseR wA w.heap.size ∧ LooseR wA (w.heap.size + 1) ∧ w.heap.size + 1 < wA.heap.size) := hid (by rw [hwA]; exact ⟨fun o => by simp [go_sem], fun o => by simp [go_sem], by simp⟩)
  have hmk := make_tx wA (ss.length + 2) (by omega)
  rw [show ((ss.length + 2 : Nat) : Int) = (ss.length : Int) + 2 by omega] at hmk
  obtain ⟨cur, hcur⟩ : ∃ cur, cur = madeCells (Value.string ⟨#[]⟩).cells (ss.length + 2) := ⟨_, rfl⟩
  obtain ⟨G, hG⟩ : ∃ G, G = wA.heap.size := ⟨_, rfl⟩
  obtain ⟨wB, hwB⟩ : ∃ wB, wB = wA.alloc (.cells cur 9) := ⟨_, rfl⟩
  have hcB := madeS wA (ss.length + 2)
  rw [← hcur, ← hwB, ← hG] at hmk hcB
  have hbB : Below wA.heap.size wA wB := by rw [hwB]; exact Below.al (Below.refl _ _) _
  have hkB : wB.heap[G]? = some (.cells cur 9 (0, 0)) := by rw [hwB, hG]; exact World.alloc_heap_new _ _
  have hcz : cur.size = ss.length + 2 := by rw [hcur]; simp [madeCells]
  have hcc : ∀ i, i < ss.length + 2 → cur[i]? = some (.string mt) := fun i hi => by
    have h3 := hcB i hi
    simp only [World.cell?, hkB] at h3
    exact h3
  have HR := hid ((h.row.later hbA).later hbB)
  have HOK := hid h
  have HTA := hid (ht.later hbA)
  have HBB := hid hbB
  have HBA := hid hbA
  have HGs := hid hG
  obtain ⟨b0, b1, b2, b3, b4, b5⟩ := HC.out.later hbB
  have HK := hid hkB
  simp only at b0 b1 b2 b3 b4 b5
  have HCC := hid hcc; have HCZ := hid hcz
  clear hcur hwB hcB hbB hkB hcz hcc h ht hbA hG
  go_enter Tryz.func17, Tryz.ntmps17
  rw [hwA] at hmk
  clear hwA
  go_wp2_with (first | (refine wpList_copy_s rfl _ _ rfl G ss.length (ss.length + 2) a cp ss cur rfl rfl rfl (by omega) HK.out HCZ.out HR.out ?_; intro w2 hk2 hb2; have HK2 := hid hk2; have HB2 : Hid (Below wA.heap.size wA w2) := hid (HBB.out.trans (HGs.out ▸ hb2)); have ⟨d0, d1, d2, d3, d4, d5⟩ := HC.out.later HB2.out; clear hk2 hb2))
  have HL : Hid (CellsS w2 G (fun i => if i < ss.length then nthS ss i else mt) (ss.length + 2) ∧ LooseR w2 G) := hid ⟨copied_s rfl HCC.out HK2.out, fun o => by simp [World.frozen?, HK2.out]⟩
  go_loopg [4] 2 (fun gg s4 wr => ∃ k : Nat, ss.length ≤ k ∧ k ≤ ss.length + 2 ∧ gg = ss.length + 2 - k ∧ s4 = .int .i64 k ∧ ∃ f, Hid (CellsS wr G f (ss.length + 2) ∧ (∀ i, i < ss.length → f i = nthS ss i) ∧ LooseR wr G ∧ Below wA.heap.size wA wr ∧ G < wr.heap.size))
  case atStart => exact ⟨ss.length, by omega, by omega, by omega, rfl, _, hid ⟨HL.out.1, fun i hi => by simp [hi], HL.out.2, HB2.out, (Array.getElem?_eq_some_iff.1 HK2.out).1⟩⟩
  case round =>
    obtain ⟨k, hk1, hk, rfl, rfl, f, HQ⟩ := hrel
    clear HK2 hmk HL HB2 d0 d1 d2 d3 d4 d5 b0 b1 b2 b3 b4 b5
    by_cases hlt : k < ss.length + 2
    · have MK := hid (mark_is (i := -1) (j := k) (by omega) (by omega) wr (HTA.out.later HQ.out.2.2.2.1))
      have HA : Hid (∀ w1, Below wr.heap.size wr w1 → CellsS w1 G f (ss.length + 2) ∧ LooseR w1 G ∧ Below wA.heap.size wA w1 ∧ G < w1.heap.size) := hid (fun w1 hb => ⟨HQ.out.1.later hb, HQ.out.2.2.1.later hb HQ.out.2.2.2.2, Below.on HQ.out.2.2.2.1 hb, Nat.lt_of_lt_of_le HQ.out.2.2.2.2 hb.size⟩)
      have hkI : (k : Int) < (ss.length : Int) + 2 := by omega
      go_wp2_with (go_at_call 64; refine MK.out.mono ?_; rintro e w3 ⟨s, rfl, hb3⟩; have d0 := (HA.out w3 hb3).1 k hlt; have l0 := (HA.out w3 hb3).2.1 k)
      go_roundg (ss.length + 2 - (k + 1))
      case measure => omega
      case rel =>
        refine ⟨k + 1, by omega, by omega, rfl, by go_num, putS f k s, hid ⟨(HA.out w3 hb3).1.put hlt s, fun i hi => ?_, (HA.out w3 hb3).2.1.setc _ _, ?_, by simpa using (HA.out w3 hb3).2.2.2⟩⟩
        · simp only [putS, show i ≠ k by omega, if_false]; exact HQ.out.2.1 i hi
        · exact Below.setCell (HA.out w3 hb3).2.2.1 (p := ⟨G, k, none⟩) (by rw [HGs.out]; exact Nat.le_refl _) _
    · obtain rfl : k = ss.length + 2 := by omega
      obtain ⟨b0, b1, b2, b3, b4, b5⟩ := HC.out.later HQ.out.2.2.2.1
      obtain ⟨e0, e1, e2, e3, e4, e5⟩ := HD.out.later HQ.out.2.2.2.1
      have f0 : ∀ o, wr.frozen? ⟨w.heap.size, o, none⟩ = false := HF.out.1.later HQ.out.2.2.2.1 (by have := HF.out.2.2; omega)
      have f1 : ∀ o, wr.frozen? ⟨w.heap.size + 1, o, none⟩ = false := HF.out.2.1.later HQ.out.2.2.2.1 HF.out.2.2
      simp only at b0 b1 b2 b3 b4 b5 e0 e1 e2 e3 e4 e5
      have HG2 : Hid (w.heap.size + 1 < G) := hid (by rw [HGs.out]; exact HF.out.2.2)
      have HBW := hid (Below.on HBA.out HQ.out.2.2.2.1)
      go_wp2_with fail
      refine bodyPost_ret (v := (Cf.at ⟨sh, cl, a, cp, ss, ca, pk, wi⟩ (some ⟨G, 0, none⟩) (ss.length + 2)).val) (by simp [results, Tryz.results17, go_sem, e0, e1, e2, e3, e4, e5]) rfl ⟨_, _, rfl, ⟨?_, HOK.out.len, HOK.out.sh⟩, ?_⟩
      · intro i hi
        refine ⟨G, 0, rfl, ?_⟩
        have hG := HG2.out
        have hc := HQ.out.1 i (by have : i < ss.length := hi; omega)
        rw [HQ.out.2.1 i hi] at hc
        rw [Nat.zero_add]
        repeat (with_reducible refine cell_setc (by simp only [ne_eq, Addr.mk.injEq]; omega) ?_)
        exact hc
      · have hB := HBW.out
        (repeat (first | with_reducible exact Below.refl _ _ | with_reducible assumption | with_reducible refine Below.drew ?_ | with_reducible refine Below.al ?_ _ | with_reducible refine Below.setCell ?_ (by first | exact Nat.le_refl _ | (simp; omega) | (simp; done)) _ | with_reducible refine Below.on ?_ (by assumption)))

end Go.Proofs.YthenfioddnkjbaaGreatDoor.Rt
/- Lists of spans and of writes of one's own, marks behind them (written by mk_rroom.py). -/
namespace Go.Proofs.YthenfioddnkjbaaGreatDoor.Rt
open Go.RowKit Go.Sort
set_option linter.unusedVariables false

def putN {α : Type} (f : Nat → α) (k : Nat) (y : α) : Nat → α := fun i => if i = k then y else f i
theorem putN_same {α : Type} (f : Nat → α) (k : Nat) (y : α) : putN f k y k = y := by simp [putN]
theorem putN_other {α : Type} (f : Nat → α) {k i : Nat} (y : α) (h : i ≠ k) : putN f k y i = f i := by simp [putN, h]

/-- n of them in block g -/
def CellsW (w : World) (g : Nat) (f : Nat → Wr) (n : Nat) : Prop := ∀ i, i < n → w.cell? ⟨g, i * 3, none⟩ = some (.string (f i).key) ∧ w.cell? ⟨g, i * 3 + 1, none⟩ = some (.bool (f i).del) ∧ w.cell? ⟨g, i * 3 + 2, none⟩ = some (.string (f i).val)
theorem CellsW.later {w w' : World} {g n : Nat} {f : Nat → Wr} (h : CellsW w g f n) (hb : Below w.heap.size w w') : CellsW w' g f n := fun i hi => ⟨cell_later hb (h i hi).1, cell_later hb (h i hi).2.1, cell_later hb (h i hi).2.2⟩
abbrev setW (w : World) (g k : Nat) (y : Wr) : World := ((w.setCell ⟨g, k * 3, none⟩ (.string (y).key)).setCell ⟨g, k * 3 + 1, none⟩ (.bool (y).del)).setCell ⟨g, k * 3 + 2, none⟩ (.string (y).val)
theorem CellsW.put {w : World} {g n k : Nat} {f : Nat → Wr} (h : CellsW w g f n) (hk : k < n) (y : Wr) : CellsW (setW w g k y) g (putN f k y) n := by
  intro i hi
  by_cases e : i = k
  · subst e
    rw [putN_same]
    exact ⟨cell_setc (by simp) (cell_setc (by simp) (World.cell?_setCell_same _ _ _ (h i hi).1)), cell_setc (by simp) (World.cell?_setCell_same _ _ _ (cell_setc (by simp) (h i hi).2.1)), World.cell?_setCell_same _ _ _ (cell_setc (by simp) (cell_setc (by simp) (h i hi).2.2))⟩
  · rw [putN_other _ _ e]
    exact ⟨cell_setc (by simp only [ne_eq, Addr.mk.injEq]; omega) (cell_setc (by simp only [ne_eq, Addr.mk.injEq]; omega) (cell_setc (by simp only [ne_eq, Addr.mk.injEq]; omega) (h i hi).1)), cell_setc (by simp only [ne_eq, Addr.mk.injEq]; omega) (cell_setc (by simp only [ne_eq, Addr.mk.injEq]; omega) (cell_setc (by simp only [ne_eq, Addr.mk.injEq]; omega) (h i hi).2.1)), cell_setc (by simp only [ne_eq, Addr.mk.injEq]; omega) (cell_setc (by simp only [ne_eq, Addr.mk.injEq]; omega) (cell_setc (by simp only [ne_eq, Addr.mk.injEq]; omega) (h i hi).2.2))⟩
theorem infoRW : (Tryz.prog.info? 135).map (fun i => (i.zero, i.size, i.bytes)) = some (some (.agg #[.string ⟨#[]⟩, .bool false, .string ⟨#[]⟩]), 3, 40) := by kernel_rfl
theorem makeW (w : World) (n : Nat) (h : n ≤ 7036874417766) : (Instr.makeSlice 51 (.int .i64 (n : Int)) (.int .i64 (n : Int))).run Tryz.prog w = .ok (.slice (some ⟨w.heap.size, 0, none⟩) n n) (w.alloc (.cells (madeCells (Value.agg #[.string ⟨#[]⟩, .bool false, .string ⟨#[]⟩]).cells (n * 3)) 135)) := by
  obtain ⟨i0, hi, hz0, hz1, hz2⟩ := info_ofR infoRW
  have := run_make (P := Tryz.prog) w 51 135 i0 _ Tryz.underlying51 hi hz0 .i64 .i64 n n (by omega) (by omega) (by rw [hz2]; omega) (by omega)
  rw [this, hz1]
  simp
theorem madeW (w : World) (n : Nat) : CellsW (w.alloc (.cells (madeCells (Value.agg #[.string ⟨#[]⟩, .bool false, .string ⟨#[]⟩]).cells (n * 3)) 135)) w.heap.size (fun _ => ⟨⟨#[]⟩, false, ⟨#[]⟩⟩) n := by
  intro i hi
  have h0 : i * 3 < n * 3 := by omega
  have h1 : i * 3 + 1 < n * 3 := by omega
  have h2 : i * 3 + 2 < n * 3 := by omega
  refine ⟨?_, ?_, ?_⟩
  · simp [go_sem, madeCells, h0]
  · simp [go_sem, madeCells, h1, Nat.add_mod]
  · simp [go_sem, madeCells, h2, Nat.add_mod]
def flatW (l : List Wr) : List Value := l.flatMap fun x => [.string (x).key, .bool (x).del, .string (x).val]
theorem flatW_len (l : List Wr) : (flatW l).length = l.length * 3 := by
  induction l with
  | nil => rfl
  | cons v vs ih => simp only [flatW, List.flatMap_cons, List.length_append, List.length_cons, List.length_nil] at ih ⊢; omega
theorem flatW_get : ∀ (l : List Wr) (i o : Nat), i < l.length → o < 3 → (flatW l)[i * 3 + o]? = ([.string (nthW l i).key, .bool (nthW l i).del, .string (nthW l i).val] : List Value)[o]?
  | [], i, o, h, _ => by simp at h
  | v :: vs, i, o, h, ho => by
    show (([.string (v).key, .bool (v).del, .string (v).val] : List Value) ++ flatW vs)[i * 3 + o]? = _
    cases i with
    | zero => rw [List.getElem?_append_left (by simp; omega)]; simp [nthW]
    | succ i =>
      have e : (i + 1) * 3 + o - ([.string (v).key, .bool (v).del, .string (v).val] : List Value).length = i * 3 + o := by simp; omega
      rw [List.getElem?_append_right (by simp; omega), e, flatW_get vs i o (by simpa using h) ho]
      simp [nthW]
theorem flatW_one (l : List Wr) : ∀ v ∈ flatW l, v.oneCell' = true := fun v hv => by
  obtain ⟨x, _, hx⟩ := List.mem_flatMap.1 hv
  simp at hx
  rcases hx with rfl | rfl | rfl <;> rfl
theorem rowW_cells {w : World} {a : Option Addr} {xs : List Wr} (h : RowW w a xs) (h0 : 0 < xs.length) : ∃ b off, a = some ⟨b, off, none⟩ ∧ ∀ j v, (flatW xs)[j]? = some v → w.cell? ((⟨b, off, none⟩ : Addr).add j) = some v := by
  obtain ⟨b, off, rfl, _⟩ := h 0 h0
  refine ⟨b, off, rfl, fun j v hj => ?_⟩
  have hl := flatW_len xs
  have hj' : j < (flatW xs).length := (List.getElem?_eq_some_iff.1 hj).1
  have e : j = j / 3 * 3 + j % 3 := by omega
  obtain ⟨b', off', e', c0, c1, c2⟩ := h (j / 3) (by omega)
  injection e' with e'; injection e' with e1 e2
  subst e1 e2
  have ho : j % 3 < 3 := Nat.mod_lt _ (by decide)
  have hg := flatW_get xs (j / 3) (j % 3) (by omega) ho
  rw [← e, hj] at hg
  have hadd : (⟨b, off, none⟩ : Addr).add j = ⟨b, off + j, none⟩ := by
    unfold Addr.add
    split
    · rename_i h0; rw [h0, Nat.add_zero]
    · rfl
  rw [hadd]
  match hr : j % 3, ho with
  | 0, _ => rw [hr] at hg e; simp at hg; subst hg; rw [show off + j = off + j / 3 * 3 by omega]; exact c0
  | 1, _ => rw [hr] at hg e; simp at hg; subst hg; rw [show off + j = off + j / 3 * 3 + 1 by omega]; exact c1
  | 2, _ => rw [hr] at hg e; simp at hg; subst hg; rw [show off + j = off + j / 3 * 3 + 2 by omega]; exact c2
theorem run_copyW (w : World) (g n N : Nat) (a : Option Addr) (c : Nat) (xs : List Wr) (ty : TypeId) (cur : Array Value) (hn : xs.length = n) (hN : n ≤ N) (hg : w.heap[g]? = some (.cells cur 135 (0, 0))) (hs : cur.size = N * 3) (hr : RowW w a xs) :
    ∃ w', (Builtin.copy_ #[51, 51] ty #[.slice (some ⟨g, 0, none⟩) N N, .slice a n c]).run Tryz.prog w = .ok (goInt n) w' ∧ w'.heap[g]? = some (.cells (flatW xs ++ cur.toList.drop (n * 3)).toArray 135 (0, 0)) ∧ Below g w w' := by
  obtain ⟨i0, hi, hz0, hz1, hz2⟩ := info_ofR infoRW
  by_cases h0 : n = 0
  · subst h0
    have e2 : xs = [] := List.eq_nil_of_length_eq_zero hn
    subst e2
    refine ⟨w, ?_, ?_, Below.refl _ _⟩
    · have hl : ∀ (x : Addr), (loadCells x 0).run Tryz.prog w = .ok #[] w := fun x => by simpa using run_loadCells_list (P := Tryz.prog) w x [] (by simp)
      cases a <;> simp [Builtin.copy_, run_underlying Tryz.underlying51, Builtin.lenOf, Builtin.firstCells, sizeOf, typeInfo, hi, storeCells, hl]
    · rw [hg]; simp [flatW]
  · obtain ⟨b, off, rfl, hc⟩ := rowW_cells hr (by omega)
    have hlen : (flatW xs).length = n * 3 := by rw [flatW_len, hn]
    have hl := run_loadCells_list (P := Tryz.prog) w ⟨b, off, none⟩ (flatW xs) hc
    rw [hlen] at hl
    have hst := run_storeCells_at Tryz.prog g 0 135 (flatW xs) 0 cur w hg (by rw [hlen, hs]; omega) (flatW_one xs)
    have hall : ((cur.toList.take (0 + 0) ++ flatW xs ++ cur.toList.drop (0 + 0 + (flatW xs).length))).toArray = (flatW xs ++ cur.toList.drop (n * 3)).toArray := by
      simp [hlen]
    rw [hall] at hst
    refine ⟨w.setRow g (flatW xs ++ cur.toList.drop (n * 3)).toArray, ?_, setRow_heap w g _ _ _ _ hg, below_setRow (Below.refl _ _) (Nat.le_refl _) _⟩
    have hmin : Nat.min n N = n := Nat.min_eq_left hN
    have hmin' : min n N = n := hmin
    simp [Builtin.copy_, run_underlying Tryz.underlying51, Builtin.lenOf, Builtin.firstCells, sizeOf, typeInfo, hi, hz1, hl, hst, hmin']
theorem wpList_copyW {w : World} {ops : Array Oper} {rest : List Oper} {o : Oper} {act : Act} {Q : Exit → Act → World → Prop} (hgd : o.guard = none) (d s : Operand)
    (ho : o.op = .call { callee := .builtin .copy, args := #[d, s], argTypes := #[51, 51] })
    (g n N : Nat) (a : Option Addr) (c : Nat) (xs : List Wr) (cur : Array Value) (hd : act.eval d = .slice (some ⟨g, 0, none⟩) N N) (hs : act.eval s = .slice a n c)
    (hn : xs.length = n) (hN : n ≤ N) (hg : w.heap[g]? = some (.cells cur 135 (0, 0))) (hcs : cur.size = N * 3) (hr : RowW w a xs)
    (h : ∀ w', w'.heap[g]? = some (.cells (flatW xs ++ cur.toList.drop (n * 3)).toArray 135 (0, 0)) → Below g w w' → wpList Tryz.prog ops Q rest (act.put o.dst (goInt n)) w') : wpList Tryz.prog ops Q (o :: rest) act w := by
  refine wpList_plain hgd fun K hK => ?_
  obtain ⟨w', hrun, h1, h2⟩ := run_copyW w g n N a c xs o.type cur hn hN hg hcs hr
  unfold Oper.wp
  simp [execOp, ho, resolve, invoke, builtin, hd, hs, hrun, Result.andThen]
  exact hK _ _ (h w' h1 h2)
theorem copiedW {w : World} {g n : Nat} {xs : List Wr} {cur : Array Value} (hn : xs.length = n) (hc : ∀ i, i < n + 3 → cur[i * 3]? = some (.string ⟨#[]⟩) ∧ cur[i * 3 + 1]? = some (.bool false) ∧ cur[i * 3 + 2]? = some (.string ⟨#[]⟩))
    (hg : w.heap[g]? = some (.cells (flatW xs ++ cur.toList.drop (n * 3)).toArray 135 (0, 0))) : CellsW w g (fun i => if i < n then nthW xs i else ⟨⟨#[]⟩, false, ⟨#[]⟩⟩) (n + 3) := by
  have hl := flatW_len xs
  have hcell : ∀ j v, (flatW xs ++ cur.toList.drop (n * 3))[j]? = some v → w.cell? ⟨g, j, none⟩ = some v := fun j v hj => by simp only [World.cell?, hg]; simpa using hj
  intro i hi
  by_cases h : i < n
  · simp only [h, if_true]
    have hf := fun o ho => flatW_get xs i o (by omega) ho
    refine ⟨hcell _ _ ?_, hcell _ _ ?_, hcell _ _ ?_⟩
    · rw [List.getElem?_append_left (by omega)]; exact hf 0 (by omega)
    · rw [List.getElem?_append_left (by omega)]; exact hf 1 (by omega)
    · rw [List.getElem?_append_left (by omega)]; exact hf 2 (by omega)
  · simp only [h, if_false]
    obtain ⟨c0, c1, c2⟩ := hc i hi
    have hd : ∀ o, o < 3 → (flatW xs ++ cur.toList.drop (n * 3))[i * 3 + o]? = cur[i * 3 + o]? := fun o ho => by
      rw [List.getElem?_append_right (by omega), List.getElem?_drop, hl, hn, show n * 3 + (i * 3 + o - n * 3) = i * 3 + o by omega]
      simp
    exact ⟨hcell _ _ ((hd 0 (by omega)).trans c0), hcell _ _ ((hd 1 (by omega)).trans c1), hcell _ _ ((hd 2 (by omega)).trans c2)⟩

set_option maxHeartbeats 2000000 in
theorem mkW_is {i j : Int} (hi : -1 ≤ i ∧ i ≤ 4611686018427387904) (hj : -1 ≤ j ∧ j ≤ 4611686018427387904) (w : World) (ht : PowTab w) :
    Calls Tryz.prog 81 #[.int .i64 i, .int .i64 j] w fun e w' => ∃ s, e = .returned (.agg #[.string s, .bool true, .string ⟨#[]⟩]) ∧ Below w.heap.size w w' := by
  have hb0 : Below w.heap.size w (w.alloc (.cells #[.string ⟨#[]⟩, .bool false, .string ⟨#[]⟩] 135)) := Below.al (Below.refl _ _) _
  have HM := hid (mark_is hi hj _ (ht.later hb0))
  have hk : (w.alloc (.cells #[.string ⟨#[]⟩, .bool false, .string ⟨#[]⟩] 135)).heap[w.heap.size]? = some (.cells #[.string ⟨#[]⟩, .bool false, .string ⟨#[]⟩] 135 (0, 0)) := World.alloc_heap_new _ _
  have HK := hid hk
  clear hk ht
  go_enter Tryz.func81, Tryz.ntmps81
  go_wp2_with (go_at_call 64; refine HM.out.mono ?_; rintro e w1 ⟨s, rfl, hb1⟩; have k1 := (hb1.block w.heap.size (by simp)).trans HK.out; have d0 : w1.cell? ⟨w.heap.size, 0, none⟩ = some (.string ⟨#[]⟩) := (by simp only [World.cell?, k1]; rfl); have d1 : w1.cell? ⟨w.heap.size, 1, none⟩ = some (.bool false) := (by simp only [World.cell?, k1]; rfl); have d2 : w1.cell? ⟨w.heap.size, 2, none⟩ = some (.string ⟨#[]⟩) := (by simp only [World.cell?, k1]; rfl); have fz : ∀ o, w1.frozen? ⟨w.heap.size, o, none⟩ = false := fun o => frozen_of_row w1 w.heap.size o _ _ k1)
  refine bodyPost_ret (v := .agg #[.string s, .bool true, .string ⟨#[]⟩]) (by simp [results, Tryz.results81, go_sem, d0, d1, d2]) rfl ⟨_, rfl, ?_⟩
  have hB := Below.on hb0 hb1
  (repeat (first | with_reducible exact Below.refl _ _ | with_reducible assumption | with_reducible refine Below.drew ?_ | with_reducible refine Below.al ?_ _ | with_reducible refine Below.setCell ?_ (by first | exact Nat.le_refl _ | (simp; omega) | (simp; done)) _ | with_reducible refine Below.on ?_ (by assumption)))

set_option maxHeartbeats 4000000 in
theorem roomW_is {a : Option Addr} {c : Nat} {xs : List Wr} {w : World} (h : RowW w a xs) (hl : xs.length + 3 ≤ 7036874417766) (ht : PowTab w) :
    Calls Tryz.prog 32 #[.slice a xs.length c] w fun e w' => ∃ g, e = .returned (.slice (some ⟨g, 0, none⟩) xs.length (xs.length + 3)) ∧ RowW w' (some ⟨g, 0, none⟩) xs ∧ Below w.heap.size w w' := by
  have hmk := makeW w (xs.length + 3) hl
  rw [show ((xs.length + 3 : Nat) : Int) = (xs.length : Int) + 3 by omega] at hmk
  obtain ⟨cur, hcur⟩ : ∃ cur, cur = madeCells (Value.agg #[.string ⟨#[]⟩, .bool false, .string ⟨#[]⟩]).cells ((xs.length + 3) * 3) := ⟨_, rfl⟩
  obtain ⟨wa, hwa⟩ : ∃ wa, wa = w.alloc (.cells cur 135) := ⟨_, rfl⟩
  have hc := madeW w (xs.length + 3)
  rw [← hcur, ← hwa] at hmk hc
  have hba : Below w.heap.size w wa := by rw [hwa]; exact Below.al (Below.refl _ _) _
  have hk : wa.heap[w.heap.size]? = some (.cells cur 135 (0, 0)) := by rw [hwa]; exact World.alloc_heap_new _ _
  have hcz : cur.size = (xs.length + 3) * 3 := by rw [hcur]; simp [madeCells]
  have hcc : ∀ i, i < xs.length + 3 → cur[i * 3]? = some (.string ⟨#[]⟩) ∧ cur[i * 3 + 1]? = some (.bool false) ∧ cur[i * 3 + 2]? = some (.string ⟨#[]⟩) := fun i hi => by
    have h3 := hc i hi
    simp only [World.cell?, hk] at h3
    exact h3
  have HX := hid (show RowW wa a xs ∧ wa.heap[w.heap.size]? = some (.cells cur 135 (0, 0)) ∧ Below w.heap.size w wa ∧ cur.size = (xs.length + 3) * 3 from ⟨h.later hba, hk, hba, hcz⟩)
  have HCC := hid hcc
  have HTW := hid ht
  clear hwa hc hba hk h ht hcc hcur hcz
  go_enter Tryz.func32, Tryz.ntmps32
  go_wp2_with (first | (refine wpList_copyW rfl _ _ rfl w.heap.size xs.length (xs.length + 3) a c xs cur rfl rfl rfl (by omega) HX.out.2.1 HX.out.2.2.2 HX.out.1 ?_; intro w2 hk2 hb2; have HK2 := hid hk2; have HB2 : Hid (Below w.heap.size w w2) := hid (HX.out.2.2.1.trans hb2); clear hk2 hb2))
  have HL : Hid (CellsW w2 w.heap.size (fun i => if i < xs.length then nthW xs i else ⟨⟨#[]⟩, false, ⟨#[]⟩⟩) (xs.length + 3) ∧ LooseR w2 w.heap.size) := hid ⟨copiedW rfl HCC.out HK2.out, fun o => frozen_of_row w2 w.heap.size o _ _ HK2.out⟩
  go_loopg [4] 3 (fun gg s4 wr => ∃ k : Nat, xs.length ≤ k ∧ k ≤ xs.length + 3 ∧ gg = xs.length + 3 - k ∧ s4 = .int .i64 k ∧ ∃ f, Hid (CellsW wr w.heap.size f (xs.length + 3) ∧ (∀ i, i < xs.length → f i = nthW xs i) ∧ LooseR wr w.heap.size ∧ Below w.heap.size w wr ∧ w.heap.size < wr.heap.size))
  case atStart => exact ⟨xs.length, by omega, by omega, by omega, rfl, _, hid ⟨HL.out.1, fun i hi => by simp [hi], HL.out.2, HB2.out, (Array.getElem?_eq_some_iff.1 HK2.out).1⟩⟩
  case round =>
    obtain ⟨k, hk1, hk, rfl, rfl, f, HK⟩ := hrel
    clear HK2 hmk HL HB2
    by_cases hlt : k < xs.length + 3
    · have MK := hid (mkW_is (i := -1) (j := k) (by omega) (by omega) wr (HTW.out.later HK.out.2.2.2.1))
      have HA : Hid (∀ w1, Below wr.heap.size wr w1 → CellsW w1 w.heap.size f (xs.length + 3) ∧ LooseR w1 w.heap.size ∧ Below w.heap.size w w1 ∧ w.heap.size < w1.heap.size) := hid (fun w1 hb => ⟨HK.out.1.later hb, HK.out.2.2.1.later hb HK.out.2.2.2.2, Below.on HK.out.2.2.2.1 hb, Nat.lt_of_lt_of_le HK.out.2.2.2.2 hb.size⟩)
      have hkI : (k : Int) < (xs.length : Int) + 3 := by omega
      go_wp2_with (go_at_call 81; refine MK.out.mono ?_; rintro e w3 ⟨s, rfl, hb3⟩; have d0 := ((HA.out w3 hb3).1 k hlt).1; have d1 := ((HA.out w3 hb3).1 k hlt).2.1; have d2 := ((HA.out w3 hb3).1 k hlt).2.2; have l0 := (HA.out w3 hb3).2.1 (k * 3); have l1 := (HA.out w3 hb3).2.1 (k * 3 + 1); have l2 := (HA.out w3 hb3).2.1 (k * 3 + 2))
      go_roundg (xs.length + 3 - (k + 1))
      case measure => omega
      case rel =>
        refine ⟨k + 1, by omega, by omega, rfl, by go_num, putN f k ⟨s, true, ⟨#[]⟩⟩, hid ⟨(HA.out w3 hb3).1.put hlt ⟨s, true, ⟨#[]⟩⟩, fun i hi => ?_, (((HA.out w3 hb3).2.1.setc _ _).setc _ _).setc _ _, ?_, by simpa using (HA.out w3 hb3).2.2.2⟩⟩
        · rw [putN_other _ _ (by omega)]; exact HK.out.2.1 i hi
        · have hB := (HA.out w3 hb3).2.2.1
          (repeat (first | with_reducible exact Below.refl _ _ | with_reducible assumption | with_reducible refine Below.drew ?_ | with_reducible refine Below.al ?_ _ | with_reducible refine Below.setCell ?_ (by first | exact Nat.le_refl _ | (simp; omega) | (simp; done)) _ | with_reducible refine Below.on ?_ (by assumption)))
    · obtain rfl : k = xs.length + 3 := by omega
      have HP : Hid (RowW wr (some ⟨w.heap.size, 0, none⟩) xs) := hid (fun i hi => by
        have hc := HK.out.1 i (by omega)
        rw [HK.out.2.1 i hi] at hc
        exact ⟨w.heap.size, 0, rfl, by rw [Nat.zero_add]; exact hc.1, by rw [Nat.zero_add]; exact hc.2.1, by rw [Nat.zero_add]; exact hc.2.2⟩)
      have HB := hid HK.out.2.2.2.1
      go_wp2_with fail
      go_ret
      exact ⟨_, rfl, HP.out, HB.out⟩

/-- n of them in block g -/
def Cells2 (w : World) (g : Nat) (f : Nat → T2) (n : Nat) : Prop := ∀ i, i < n → w.cell? ⟨g, i * 2, none⟩ = some (.string (f i).1) ∧ w.cell? ⟨g, i * 2 + 1, none⟩ = some (.string (f i).2)
theorem Cells2.later {w w' : World} {g n : Nat} {f : Nat → T2} (h : Cells2 w g f n) (hb : Below w.heap.size w w') : Cells2 w' g f n := fun i hi => ⟨cell_later hb (h i hi).1, cell_later hb (h i hi).2⟩
abbrev set2 (w : World) (g k : Nat) (y : T2) : World := (w.setCell ⟨g, k * 2, none⟩ (.string (y).1)).setCell ⟨g, k * 2 + 1, none⟩ (.string (y).2)
theorem Cells2.put {w : World} {g n k : Nat} {f : Nat → T2} (h : Cells2 w g f n) (hk : k < n) (y : T2) : Cells2 (set2 w g k y) g (putN f k y) n := by
  intro i hi
  by_cases e : i = k
  · subst e
    rw [putN_same]
    exact ⟨cell_setc (by simp) (World.cell?_setCell_same _ _ _ (h i hi).1), World.cell?_setCell_same _ _ _ (cell_setc (by simp) (h i hi).2)⟩
  · rw [putN_other _ _ e]
    exact ⟨cell_setc (by simp only [ne_eq, Addr.mk.injEq]; omega) (cell_setc (by simp only [ne_eq, Addr.mk.injEq]; omega) (h i hi).1), cell_setc (by simp only [ne_eq, Addr.mk.injEq]; omega) (cell_setc (by simp only [ne_eq, Addr.mk.injEq]; omega) (h i hi).2)⟩
theorem infoR2 : (Tryz.prog.info? 49).map (fun i => (i.zero, i.size, i.bytes)) = some (some (.agg #[.string ⟨#[]⟩, .string ⟨#[]⟩]), 2, 32) := by kernel_rfl
theorem make2 (w : World) (n : Nat) (h : n ≤ 8796093022208) : (Instr.makeSlice 50 (.int .i64 (n : Int)) (.int .i64 (n : Int))).run Tryz.prog w = .ok (.slice (some ⟨w.heap.size, 0, none⟩) n n) (w.alloc (.cells (madeCells (Value.agg #[.string ⟨#[]⟩, .string ⟨#[]⟩]).cells (n * 2)) 49)) := by
  obtain ⟨i0, hi, hz0, hz1, hz2⟩ := info_ofR infoR2
  have := run_make (P := Tryz.prog) w 50 49 i0 _ Tryz.underlying50 hi hz0 .i64 .i64 n n (by omega) (by omega) (by rw [hz2]; omega) (by omega)
  rw [this, hz1]
  simp
theorem made2 (w : World) (n : Nat) : Cells2 (w.alloc (.cells (madeCells (Value.agg #[.string ⟨#[]⟩, .string ⟨#[]⟩]).cells (n * 2)) 49)) w.heap.size (fun _ => (⟨#[]⟩, ⟨#[]⟩)) n := by
  intro i hi
  have h0 : i * 2 < n * 2 := by omega
  have h1 : i * 2 + 1 < n * 2 := by omega
  refine ⟨?_, ?_⟩
  · simp [go_sem, madeCells, h0]
  · simp [go_sem, madeCells, h1, Nat.add_mod]
def flat2 (l : List T2) : List Value := l.flatMap fun x => [.string (x).1, .string (x).2]
theorem flat2_len (l : List T2) : (flat2 l).length = l.length * 2 := by
  induction l with
  | nil => rfl
  | cons v vs ih => simp only [flat2, List.flatMap_cons, List.length_append, List.length_cons, List.length_nil] at ih ⊢; omega
theorem flat2_get : ∀ (l : List T2) (i o : Nat), i < l.length → o < 2 → (flat2 l)[i * 2 + o]? = ([.string (nth2 l i).1, .string (nth2 l i).2] : List Value)[o]?
  | [], i, o, h, _ => by simp at h
  | v :: vs, i, o, h, ho => by
    show (([.string (v).1, .string (v).2] : List Value) ++ flat2 vs)[i * 2 + o]? = _
    cases i with
    | zero => rw [List.getElem?_append_left (by simp; omega)]; simp [nth2]
    | succ i =>
      have e : (i + 1) * 2 + o - ([.string (v).1, .string (v).2] : List Value).length = i * 2 + o := by simp; omega
      rw [List.getElem?_append_right (by simp; omega), e, flat2_get vs i o (by simpa using h) ho]
      simp [nth2]
theorem flat2_one (l : List T2) : ∀ v ∈ flat2 l, v.oneCell' = true := fun v hv => by
  obtain ⟨x, _, hx⟩ := List.mem_flatMap.1 hv
  simp at hx
  rcases hx with rfl | rfl <;> rfl
theorem row2_cells {w : World} {a : Option Addr} {xs : List T2} (h : Row2 w a xs) (h0 : 0 < xs.length) : ∃ b off, a = some ⟨b, off, none⟩ ∧ ∀ j v, (flat2 xs)[j]? = some v → w.cell? ((⟨b, off, none⟩ : Addr).add j) = some v := by
  obtain ⟨b, off, rfl, _⟩ := h 0 h0
  refine ⟨b, off, rfl, fun j v hj => ?_⟩
  have hl := flat2_len xs
  have hj' : j < (flat2 xs).length := (List.getElem?_eq_some_iff.1 hj).1
  have e : j = j / 2 * 2 + j % 2 := by omega
  obtain ⟨b', off', e', c0, c1⟩ := h (j / 2) (by omega)
  injection e' with e'; injection e' with e1 e2
  subst e1 e2
  have ho : j % 2 < 2 := Nat.mod_lt _ (by decide)
  have hg := flat2_get xs (j / 2) (j % 2) (by omega) ho
  rw [← e, hj] at hg
  have hadd : (⟨b, off, none⟩ : Addr).add j = ⟨b, off + j, none⟩ := by
    unfold Addr.add
    split
    · rename_i h0; rw [h0, Nat.add_zero]
    · rfl
  rw [hadd]
  match hr : j % 2, ho with
  | 0, _ => rw [hr] at hg e; simp at hg; subst hg; rw [show off + j = off + j / 2 * 2 by omega]; exact c0
  | 1, _ => rw [hr] at hg e; simp at hg; subst hg; rw [show off + j = off + j / 2 * 2 + 1 by omega]; exact c1
theorem run_copy2 (w : World) (g n N : Nat) (a : Option Addr) (c : Nat) (xs : List T2) (ty : TypeId) (cur : Array Value) (hn : xs.length = n) (hN : n ≤ N) (hg : w.heap[g]? = some (.cells cur 49 (0, 0))) (hs : cur.size = N * 2) (hr : Row2 w a xs) :
    ∃ w', (Builtin.copy_ #[50, 50] ty #[.slice (some ⟨g, 0, none⟩) N N, .slice a n c]).run Tryz.prog w = .ok (goInt n) w' ∧ w'.heap[g]? = some (.cells (flat2 xs ++ cur.toList.drop (n * 2)).toArray 49 (0, 0)) ∧ Below g w w' := by
  obtain ⟨i0, hi, hz0, hz1, hz2⟩ := info_ofR infoR2
  by_cases h0 : n = 0
  · subst h0
    have e2 : xs = [] := List.eq_nil_of_length_eq_zero hn
    subst e2
    refine ⟨w, ?_, ?_, Below.refl _ _⟩
    · have hl : ∀ (x : Addr), (loadCells x 0).run Tryz.prog w = .ok #[] w := fun x => by simpa using run_loadCells_list (P := Tryz.prog) w x [] (by simp)
      cases a <;> simp [Builtin.copy_, run_underlying Tryz.underlying50, Builtin.lenOf, Builtin.firstCells, sizeOf, typeInfo, hi, storeCells, hl]
    · rw [hg]; simp [flat2]
  · obtain ⟨b, off, rfl, hc⟩ := row2_cells hr (by omega)
    have hlen : (flat2 xs).length = n * 2 := by rw [flat2_len, hn]
    have hl := run_loadCells_list (P := Tryz.prog) w ⟨b, off, none⟩ (flat2 xs) hc
    rw [hlen] at hl
    have hst := run_storeCells_at Tryz.prog g 0 49 (flat2 xs) 0 cur w hg (by rw [hlen, hs]; omega) (flat2_one xs)
    have hall : ((cur.toList.take (0 + 0) ++ flat2 xs ++ cur.toList.drop (0 + 0 + (flat2 xs).length))).toArray = (flat2 xs ++ cur.toList.drop (n * 2)).toArray := by
      simp [hlen]
    rw [hall] at hst
    refine ⟨w.setRow g (flat2 xs ++ cur.toList.drop (n * 2)).toArray, ?_, setRow_heap w g _ _ _ _ hg, below_setRow (Below.refl _ _) (Nat.le_refl _) _⟩
    have hmin : Nat.min n N = n := Nat.min_eq_left hN
    have hmin' : min n N = n := hmin
    simp [Builtin.copy_, run_underlying Tryz.underlying50, Builtin.lenOf, Builtin.firstCells, sizeOf, typeInfo, hi, hz1, hl, hst, hmin']
theorem wpList_copy2 {w : World} {ops : Array Oper} {rest : List Oper} {o : Oper} {act : Act} {Q : Exit → Act → World → Prop} (hgd : o.guard = none) (d s : Operand)
    (ho : o.op = .call { callee := .builtin .copy, args := #[d, s], argTypes := #[50, 50] })
    (g n N : Nat) (a : Option Addr) (c : Nat) (xs : List T2) (cur : Array Value) (hd : act.eval d = .slice (some ⟨g, 0, none⟩) N N) (hs : act.eval s = .slice a n c)
    (hn : xs.length = n) (hN : n ≤ N) (hg : w.heap[g]? = some (.cells cur 49 (0, 0))) (hcs : cur.size = N * 2) (hr : Row2 w a xs)
    (h : ∀ w', w'.heap[g]? = some (.cells (flat2 xs ++ cur.toList.drop (n * 2)).toArray 49 (0, 0)) → Below g w w' → wpList Tryz.prog ops Q rest (act.put o.dst (goInt n)) w') : wpList Tryz.prog ops Q (o :: rest) act w := by
  refine wpList_plain hgd fun K hK => ?_
  obtain ⟨w', hrun, h1, h2⟩ := run_copy2 w g n N a c xs o.type cur hn hN hg hcs hr
  unfold Oper.wp
  simp [execOp, ho, resolve, invoke, builtin, hd, hs, hrun, Result.andThen]
  exact hK _ _ (h w' h1 h2)
theorem copied2 {w : World} {g n : Nat} {xs : List T2} {cur : Array Value} (hn : xs.length = n) (hc : ∀ i, i < n + 3 → cur[i * 2]? = some (.string ⟨#[]⟩) ∧ cur[i * 2 + 1]? = some (.string ⟨#[]⟩))
    (hg : w.heap[g]? = some (.cells (flat2 xs ++ cur.toList.drop (n * 2)).toArray 49 (0, 0))) : Cells2 w g (fun i => if i < n then nth2 xs i else (⟨#[]⟩, ⟨#[]⟩)) (n + 3) := by
  have hl := flat2_len xs
  have hcell : ∀ j v, (flat2 xs ++ cur.toList.drop (n * 2))[j]? = some v → w.cell? ⟨g, j, none⟩ = some v := fun j v hj => by simp only [World.cell?, hg]; simpa using hj
  intro i hi
  by_cases h : i < n
  · simp only [h, if_true]
    have hf := fun o ho => flat2_get xs i o (by omega) ho
    refine ⟨hcell _ _ ?_, hcell _ _ ?_⟩
    · rw [List.getElem?_append_left (by omega)]; exact hf 0 (by omega)
    · rw [List.getElem?_append_left (by omega)]; exact hf 1 (by omega)
  · simp only [h, if_false]
    obtain ⟨c0, c1⟩ := hc i hi
    have hd : ∀ o, o < 2 → (flat2 xs ++ cur.toList.drop (n * 2))[i * 2 + o]? = cur[i * 2 + o]? := fun o ho => by
      rw [List.getElem?_append_right (by omega), List.getElem?_drop, hl, hn, show n * 2 + (i * 2 + o - n * 2) = i * 2 + o by omega]
      simp
    exact ⟨hcell _ _ ((hd 0 (by omega)).trans c0), hcell _ _ ((hd 1 (by omega)).trans c1)⟩

set_option maxHeartbeats 2000000 in
theorem mk2_is {i j : Int} (hi : -1 ≤ i ∧ i ≤ 4611686018427387904) (hj : -1 ≤ j ∧ j ≤ 4611686018427387904) (w : World) (ht : PowTab w) :
    Calls Tryz.prog 80 #[.int .i64 i, .int .i64 j] w fun e w' => ∃ s, e = .returned (.agg #[.string s, .string ⟨#[]⟩]) ∧ Below w.heap.size w w' := by
  have hb0 : Below w.heap.size w (w.alloc (.cells #[.string ⟨#[]⟩, .string ⟨#[]⟩] 49)) := Below.al (Below.refl _ _) _
  have HM := hid (mark_is hi hj _ (ht.later hb0))
  have hk : (w.alloc (.cells #[.string ⟨#[]⟩, .string ⟨#[]⟩] 49)).heap[w.heap.size]? = some (.cells #[.string ⟨#[]⟩, .string ⟨#[]⟩] 49 (0, 0)) := World.alloc_heap_new _ _
  have HK := hid hk
  clear hk ht
  go_enter Tryz.func80, Tryz.ntmps80
  go_wp2_with (go_at_call 64; refine HM.out.mono ?_; rintro e w1 ⟨s, rfl, hb1⟩; have k1 := (hb1.block w.heap.size (by simp)).trans HK.out; have d0 : w1.cell? ⟨w.heap.size, 0, none⟩ = some (.string ⟨#[]⟩) := (by simp only [World.cell?, k1]; rfl); have d1 : w1.cell? ⟨w.heap.size, 1, none⟩ = some (.string ⟨#[]⟩) := (by simp only [World.cell?, k1]; rfl); have fz : ∀ o, w1.frozen? ⟨w.heap.size, o, none⟩ = false := fun o => frozen_of_row w1 w.heap.size o _ _ k1)
  refine bodyPost_ret (v := .agg #[.string s, .string ⟨#[]⟩]) (by simp [results, Tryz.results80, go_sem, d0, d1]) rfl ⟨_, rfl, ?_⟩
  have hB := Below.on hb0 hb1
  (repeat (first | with_reducible exact Below.refl _ _ | with_reducible assumption | with_reducible refine Below.drew ?_ | with_reducible refine Below.al ?_ _ | with_reducible refine Below.setCell ?_ (by first | exact Nat.le_refl _ | (simp; omega) | (simp; done)) _ | with_reducible refine Below.on ?_ (by assumption)))

set_option maxHeartbeats 4000000 in
theorem room2_is {a : Option Addr} {c : Nat} {xs : List T2} {w : World} (h : Row2 w a xs) (hl : xs.length + 3 ≤ 8796093022208) (ht : PowTab w) :
    Calls Tryz.prog 31 #[.slice a xs.length c] w fun e w' => ∃ g, e = .returned (.slice (some ⟨g, 0, none⟩) xs.length (xs.length + 3)) ∧ Row2 w' (some ⟨g, 0, none⟩) xs ∧ Below w.heap.size w w' := by
  have hmk := make2 w (xs.length + 3) hl
  rw [show ((xs.length + 3 : Nat) : Int) = (xs.length : Int) + 3 by omega] at hmk
  obtain ⟨cur, hcur⟩ : ∃ cur, cur = madeCells (Value.agg #[.string ⟨#[]⟩, .string ⟨#[]⟩]).cells ((xs.length + 3) * 2) := ⟨_, rfl⟩
  obtain ⟨wa, hwa⟩ : ∃ wa, wa = w.alloc (.cells cur 49) := ⟨_, rfl⟩
  have hc := made2 w (xs.length + 3)
  rw [← hcur, ← hwa] at hmk hc
  have hba : Below w.heap.size w wa := by rw [hwa]; exact Below.al (Below.refl _ _) _
  have hk : wa.heap[w.heap.size]? = some (.cells cur 49 (0, 0)) := by rw [hwa]; exact World.alloc_heap_new _ _
  have hcz : cur.size = (xs.length + 3) * 2 := by rw [hcur]; simp [madeCells]
  have hcc : ∀ i, i < xs.length + 3 → cur[i * 2]? = some (.string ⟨#[]⟩) ∧ cur[i * 2 + 1]? = some (.string ⟨#[]⟩) := fun i hi => by
    have h3 := hc i hi
    simp only [World.cell?, hk] at h3
    exact h3
  have HX := hid (show Row2 wa a xs ∧ wa.heap[w.heap.size]? = some (.cells cur 49 (0, 0)) ∧ Below w.heap.size w wa ∧ cur.size = (xs.length + 3) * 2 from ⟨h.later hba, hk, hba, hcz⟩)
  have HCC := hid hcc
  have HTW := hid ht
  clear hwa hc hba hk h ht hcc hcur hcz
  go_enter Tryz.func31, Tryz.ntmps31
  go_wp2_with (first | (refine wpList_copy2 rfl _ _ rfl w.heap.size xs.length (xs.length + 3) a c xs cur rfl rfl rfl (by omega) HX.out.2.1 HX.out.2.2.2 HX.out.1 ?_; intro w2 hk2 hb2; have HK2 := hid hk2; have HB2 : Hid (Below w.heap.size w w2) := hid (HX.out.2.2.1.trans hb2); clear hk2 hb2))
  have HL : Hid (Cells2 w2 w.heap.size (fun i => if i < xs.length then nth2 xs i else (⟨#[]⟩, ⟨#[]⟩)) (xs.length + 3) ∧ LooseR w2 w.heap.size) := hid ⟨copied2 rfl HCC.out HK2.out, fun o => frozen_of_row w2 w.heap.size o _ _ HK2.out⟩
  go_loopg [4] 3 (fun gg s4 wr => ∃ k : Nat, xs.length ≤ k ∧ k ≤ xs.length + 3 ∧ gg = xs.length + 3 - k ∧ s4 = .int .i64 k ∧ ∃ f, Hid (Cells2 wr w.heap.size f (xs.length + 3) ∧ (∀ i, i < xs.length → f i = nth2 xs i) ∧ LooseR wr w.heap.size ∧ Below w.heap.size w wr ∧ w.heap.size < wr.heap.size))
  case atStart => exact ⟨xs.length, by omega, by omega, by omega, rfl, _, hid ⟨HL.out.1, fun i hi => by simp [hi], HL.out.2, HB2.out, (Array.getElem?_eq_some_iff.1 HK2.out).1⟩⟩
  case round =>
    obtain ⟨k, hk1, hk, rfl, rfl, f, HK⟩ := hrel
    clear HK2 hmk HL HB2
    by_cases hlt : k < xs.length + 3
    · have MK := hid (mk2_is (i := -1) (j := k) (by omega) (by omega) wr (HTW.out.later HK.out.2.2.2.1))
      have HA : Hid (∀ w1, Below wr.heap.size wr w1 → Cells2 w1 w.heap.size f (xs.length + 3) ∧ LooseR w1 w.heap.size ∧ Below w.heap.size w w1 ∧ w.heap.size < w1.heap.size) := hid (fun w1 hb => ⟨HK.out.1.later hb, HK.out.2.2.1.later hb HK.out.2.2.2.2, Below.on HK.out.2.2.2.1 hb, Nat.lt_of_lt_of_le HK.out.2.2.2.2 hb.size⟩)
      have hkI : (k : Int) < (xs.length : Int) + 3 := by omega
      go_wp2_with (go_at_call 80; refine MK.out.mono ?_; rintro e w3 ⟨s, rfl, hb3⟩; have d0 := ((HA.out w3 hb3).1 k hlt).1; have d1 := ((HA.out w3 hb3).1 k hlt).2; have l0 := (HA.out w3 hb3).2.1 (k * 2); have l1 := (HA.out w3 hb3).2.1 (k * 2 + 1))
      go_roundg (xs.length + 3 - (k + 1))
      case measure => omega
      case rel =>
        refine ⟨k + 1, by omega, by omega, rfl, by go_num, putN f k (s, ⟨#[]⟩), hid ⟨(HA.out w3 hb3).1.put hlt (s, ⟨#[]⟩), fun i hi => ?_, ((HA.out w3 hb3).2.1.setc _ _).setc _ _, ?_, by simpa using (HA.out w3 hb3).2.2.2⟩⟩
        · rw [putN_other _ _ (by omega)]; exact HK.out.2.1 i hi
        · have hB := (HA.out w3 hb3).2.2.1
          (repeat (first | with_reducible exact Below.refl _ _ | with_reducible assumption | with_reducible refine Below.drew ?_ | with_reducible refine Below.al ?_ _ | with_reducible refine Below.setCell ?_ (by first | exact Nat.le_refl _ | (simp; omega) | (simp; done)) _ | with_reducible refine Below.on ?_ (by assumption)))
    · obtain rfl : k = xs.length + 3 := by omega
      have HP : Hid (Row2 wr (some ⟨w.heap.size, 0, none⟩) xs) := hid (fun i hi => by
        have hc := HK.out.1 i (by omega)
        rw [HK.out.2.1 i hi] at hc
        exact ⟨w.heap.size, 0, rfl, by rw [Nat.zero_add]; exact hc.1, by rw [Nat.zero_add]; exact hc.2⟩)
      have HB := hid HK.out.2.2.2.1
      go_wp2_with fail
      go_ret
      exact ⟨_, rfl, HP.out, HB.out⟩

end Go.Proofs.YthenfioddnkjbaaGreatDoor.Rt
