import Derived.Test.YtmlacdfdpdkdaaaDoorBgKinds
import Derived.Test.YtmlacdfdpdkdaaaDoorVSameV
/- Lists of versions with room behind them. -/
namespace Go.Proofs.YtmlacdfdpdkdaaaDoor.Vs
open Go.RowKit Go.Sort
set_option linter.unusedVariables false

/-- n versions in block g -/
def CellsV (w : World) (g : Nat) (f : Nat → Kv) (n : Nat) : Prop := ∀ i, i < n → VerAt w g (i * 6) (f i).1 (f i).2
theorem CellsV.later {w w' : World} {g n : Nat} {f : Nat → Kv} (h : CellsV w g f n) (hb : Below w.heap.size w w') : CellsV w' g f n := fun i hi => (h i hi).later hb
theorem CellsV.onl {w w' : World} {G : Nat → Prop} {g n : Nat} {f : Nat → Kv} (h : CellsV w g f n) (ho : Onl G w w') (hg : ¬ G g) : CellsV w' g f n := fun i hi => (h i hi).onl ho hg
abbrev setV (w : World) (g k : Nat) (y : Kv) : World := (((((w.setCell ⟨g, k * 6, none⟩ (.string y.1)).setCell ⟨g, k * 6 + 1, none⟩ (.int .u64 y.2.s.a)).setCell ⟨g, k * 6 + 2, none⟩ (.int .u32 y.2.s.b)).setCell ⟨g, k * 6 + 3, none⟩ (.int .u32 y.2.s.c)).setCell ⟨g, k * 6 + 4, none⟩ (.bool y.2.del)).setCell ⟨g, k * 6 + 5, none⟩ (.string y.2.val)
theorem CellsV.put {w : World} {g n k : Nat} {f : Nat → Kv} (h : CellsV w g f n) (hk : k < n) (y : Kv) : CellsV (setV w g k y) g (put f k y) n := by
  intro i hi
  have ne : ∀ {a b : Nat}, a ≠ b → (⟨g, a, none⟩ : Addr) ≠ ⟨g, b, none⟩ := fun h e => h (by injection e)
  by_cases e : i = k
  · subst e
    rw [put_same]
    have c := h i hi
    refine ⟨?_, ?_, ?_, ?_, ?_, ?_⟩
    · exact cell_setc (ne (by omega)) (cell_setc (ne (by omega)) (cell_setc (ne (by omega)) (cell_setc (ne (by omega)) (cell_setc (ne (by omega)) (World.cell?_setCell_same _ _ _ c.c0)))))
    · exact cell_setc (ne (by omega)) (cell_setc (ne (by omega)) (cell_setc (ne (by omega)) (cell_setc (ne (by omega)) (World.cell?_setCell_same _ _ _ (cell_setc (ne (by omega)) c.c1)))))
    · exact cell_setc (ne (by omega)) (cell_setc (ne (by omega)) (cell_setc (ne (by omega)) (World.cell?_setCell_same _ _ _ (cell_setc (ne (by omega)) (cell_setc (ne (by omega)) c.c2)))))
    · exact cell_setc (ne (by omega)) (cell_setc (ne (by omega)) (World.cell?_setCell_same _ _ _ (cell_setc (ne (by omega)) (cell_setc (ne (by omega)) (cell_setc (ne (by omega)) c.c3)))))
    · exact cell_setc (ne (by omega)) (World.cell?_setCell_same _ _ _ (cell_setc (ne (by omega)) (cell_setc (ne (by omega)) (cell_setc (ne (by omega)) (cell_setc (ne (by omega)) c.c4)))))
    · exact World.cell?_setCell_same _ _ _ (cell_setc (ne (by omega)) (cell_setc (ne (by omega)) (cell_setc (ne (by omega)) (cell_setc (ne (by omega)) (cell_setc (ne (by omega)) c.c5)))))
  · rw [put_other _ _ e]
    have c := h i hi
    have six : ∀ {o : Nat} {v : Value}, o < 6 → w.cell? ⟨g, i * 6 + o, none⟩ = some v → (setV w g k y).cell? ⟨g, i * 6 + o, none⟩ = some v := fun ho hc =>
      cell_setc (ne (by omega)) (cell_setc (ne (by omega)) (cell_setc (ne (by omega)) (cell_setc (ne (by omega)) (cell_setc (ne (by omega)) (cell_setc (ne (by omega)) hc)))))
    exact ⟨six (o := 0) (by omega) c.c0, six (by omega) c.c1, six (by omega) c.c2, six (by omega) c.c3, six (by omega) c.c4, six (by omega) c.c5⟩
theorem onl_setV (w : World) (g k : Nat) (y : Kv) : Onl (fun b => b = g) w (setV w g k y) := ((((((Onl.refl (fun b => b = g) w).set (p := g) rfl _ _).set (p := g) rfl _ _).set (p := g) rfl _ _).set (p := g) rfl _ _).set (p := g) rfl _ _).set (p := g) rfl _ _

def nulV : Kv := (⟨#[]⟩, ⟨⟨0, 0, 0⟩, false, ⟨#[]⟩⟩)
theorem make_vr (w : World) (n : Nat) (h : n ≤ 2199023255552) : (Instr.makeSlice 56 (.int .i64 (n : Int)) (.int .i64 (n : Int))).run Tryd.prog w = .ok (.slice (some ⟨w.heap.size, 0, none⟩) n n) (w.alloc (.cells (madeCells (vv ⟨#[]⟩ ⟨⟨0, 0, 0⟩, false, ⟨#[]⟩⟩).cells (n * 6)) 76)) := by
  obtain ⟨i0, hi, hz0, hz1, hz2⟩ := info_ofV infoVr
  have := run_make (P := Tryd.prog) w 56 76 i0 _ Tryd.underlying56 hi hz0 .i64 .i64 n n (by omega) (by omega) (by rw [hz2]; omega) (by omega)
  rw [this, hz1]
  simp
theorem madeV (w : World) (n : Nat) : CellsV (w.alloc (.cells (madeCells (vv ⟨#[]⟩ ⟨⟨0, 0, 0⟩, false, ⟨#[]⟩⟩).cells (n * 6)) 76)) w.heap.size (fun _ => nulV) n := by
  intro i hi
  have h0 : i * 6 < n * 6 := by omega
  have h1 : i * 6 + 1 < n * 6 := by omega
  have h2 : i * 6 + 2 < n * 6 := by omega
  have h3 : i * 6 + 3 < n * 6 := by omega
  have h4 : i * 6 + 4 < n * 6 := by omega
  have h5 : i * 6 + 5 < n * 6 := by omega
  refine ⟨?_, ?_, ?_, ?_, ?_, ?_⟩
  · simp [go_sem, madeCells, h0, nulV]
  · simp [go_sem, madeCells, h1, Nat.add_mod, nulV]
  · simp [go_sem, madeCells, h2, Nat.add_mod, nulV]
  · simp [go_sem, madeCells, h3, Nat.add_mod, nulV]
  · simp [go_sem, madeCells, h4, Nat.add_mod, nulV]
  · simp [go_sem, madeCells, h5, Nat.add_mod, nulV]

theorem rowV_cells {w : World} {a : Option Addr} {xs : List Kv} (h : RowV w a xs) (h0 : 0 < xs.length) : ∃ b off, a = some ⟨b, off, none⟩ ∧ ∀ j v, (flatK xs)[j]? = some v → w.cell? ((⟨b, off, none⟩ : Addr).add j) = some v := by
  obtain ⟨b, off, rfl, _⟩ := h 0 h0
  refine ⟨b, off, rfl, fun j v hj => ?_⟩
  have hl := flatK_len xs
  have hj' : j < (flatK xs).length := (List.getElem?_eq_some_iff.1 hj).1
  have e : j = j / 6 * 6 + j % 6 := by omega
  obtain ⟨b', off', e', c⟩ := h (j / 6) (by omega)
  injection e' with e'; injection e' with e1 e2
  subst e1 e2
  have ho : j % 6 < 6 := Nat.mod_lt _ (by decide)
  have hg := flatK_get xs (j / 6) (j % 6) (by omega) ho
  rw [← e, hj] at hg
  have hadd : (⟨b, off, none⟩ : Addr).add j = ⟨b, off + j, none⟩ := by
    unfold Addr.add
    split
    · rename_i h0; rw [h0, Nat.add_zero]
    · rfl
  rw [hadd]
  match hr : j % 6, ho with
  | 0, _ => rw [hr] at hg e; simp at hg; subst hg; rw [show off + j = off + j / 6 * 6 by omega]; exact c.c0
  | 1, _ => rw [hr] at hg e; simp at hg; subst hg; rw [show off + j = off + j / 6 * 6 + 1 by omega]; exact c.c1
  | 2, _ => rw [hr] at hg e; simp at hg; subst hg; rw [show off + j = off + j / 6 * 6 + 2 by omega]; exact c.c2
  | 3, _ => rw [hr] at hg e; simp at hg; subst hg; rw [show off + j = off + j / 6 * 6 + 3 by omega]; exact c.c3
  | 4, _ => rw [hr] at hg e; simp at hg; subst hg; rw [show off + j = off + j / 6 * 6 + 4 by omega]; exact c.c4
  | 5, _ => rw [hr] at hg e; simp at hg; subst hg; rw [show off + j = off + j / 6 * 6 + 5 by omega]; exact c.c5
/-- copy(dst, src), dst a block that has room -/
theorem run_copy_v (w : World) (g n N : Nat) (a : Option Addr) (c : Nat) (xs : List Kv) (ty : TypeId) (cur : Array Value) (hn : xs.length = n) (hN : n ≤ N) (hg : w.heap[g]? = some (.cells cur 76 (0, 0))) (hs : cur.size = N * 6) (hr : RowV w a xs) :
    ∃ w', (Builtin.copy_ #[56, 56] ty #[.slice (some ⟨g, 0, none⟩) N N, .slice a n c]).run Tryd.prog w = .ok (goInt n) w' ∧ w'.heap[g]? = some (.cells (flatK xs ++ cur.toList.drop (n * 6)).toArray 76 (0, 0)) ∧ Below g w w' := by
  obtain ⟨i0, hi, hz0, hz1, hz2⟩ := info_ofV infoVr
  by_cases h0 : n = 0
  · subst h0
    have e2 : xs = [] := List.eq_nil_of_length_eq_zero hn
    subst e2
    refine ⟨w, ?_, ?_, Below.refl _ _⟩
    · have hl : ∀ (x : Addr), (loadCells x 0).run Tryd.prog w = .ok #[] w := fun x => by simpa using run_loadCells_list (P := Tryd.prog) w x [] (by simp)
      cases a <;> simp [Builtin.copy_, run_underlying Tryd.underlying56, Builtin.lenOf, Builtin.firstCells, sizeOf, typeInfo, hi, storeCells, hl]
    · rw [hg]; simp [flatK]
  · obtain ⟨b, off, rfl, hc⟩ := rowV_cells hr (by omega)
    have hlen : (flatK xs).length = n * 6 := by rw [flatK_len, hn]
    have hl := run_loadCells_list (P := Tryd.prog) w ⟨b, off, none⟩ (flatK xs) hc
    rw [hlen] at hl
    have hst := run_storeCells_at Tryd.prog g 0 76 (flatK xs) 0 cur w hg (by rw [hlen, hs]; omega) (flatK_one xs)
    have hall : ((cur.toList.take (0 + 0) ++ flatK xs ++ cur.toList.drop (0 + 0 + (flatK xs).length))).toArray = (flatK xs ++ cur.toList.drop (n * 6)).toArray := by
      simp [hlen]
    rw [hall] at hst
    refine ⟨w.setRow g (flatK xs ++ cur.toList.drop (n * 6)).toArray, ?_, setRow_heap w g _ _ _ _ hg, below_setRow (Below.refl _ _) (Nat.le_refl _) _⟩
    have hmin : Nat.min n N = n := Nat.min_eq_left hN
    have hmin' : min n N = n := hmin
    simp [Builtin.copy_, run_underlying Tryd.underlying56, Builtin.lenOf, Builtin.firstCells, sizeOf, typeInfo, hi, hz1, hl, hst, hmin']
theorem wpList_copy_v {w : World} {ops : Array Oper} {rest : List Oper} {o : Oper} {act : Act} {Q : Exit → Act → World → Prop} (hgd : o.guard = none) (d s : Operand)
    (ho : o.op = .call { callee := .builtin .copy, args := #[d, s], argTypes := #[56, 56] })
    (g n N : Nat) (a : Option Addr) (c : Nat) (xs : List Kv) (cur : Array Value) (hd : act.eval d = .slice (some ⟨g, 0, none⟩) N N) (hs : act.eval s = .slice a n c)
    (hn : xs.length = n) (hN : n ≤ N) (hg : w.heap[g]? = some (.cells cur 76 (0, 0))) (hcs : cur.size = N * 6) (hr : RowV w a xs)
    (h : ∀ w', w'.heap[g]? = some (.cells (flatK xs ++ cur.toList.drop (n * 6)).toArray 76 (0, 0)) → Below g w w' → wpList Tryd.prog ops Q rest (act.put o.dst (goInt n)) w') : wpList Tryd.prog ops Q (o :: rest) act w := by
  refine wpList_plain hgd fun K hK => ?_
  obtain ⟨w', hrun, h1, h2⟩ := run_copy_v w g n N a c xs o.type cur hn hN hg hcs hr
  unfold Oper.wp
  simp [execOp, ho, resolve, invoke, builtin, hd, hs, hrun, Result.andThen]
  exact hK _ _ (h w' h1 h2)
/-- a list of versions in a block of its own, marks behind it -/
structure RoomZ (w wr : World) (g : Nat) (xs : List Kv) : Prop where
  cells : ∃ f, CellsV wr g f (xs.length + 3) ∧ (∀ i, i < xs.length → f i = nthK xs i) ∧ (∀ i, xs.length ≤ i → i < xs.length + 3 → f i = markV 0 i)
  loose : Loose wr g
  low : w.heap.size ≤ g
  lt : g < wr.heap.size
  bl : Below w.heap.size w wr
  ty : Typ 76 wr g
theorem RoomZ.row {w wr : World} {g : Nat} {xs : List Kv} (h : RoomZ w wr g xs) : RowV wr (some ⟨g, 0, none⟩) xs := by
  obtain ⟨f, h1, h2, h3⟩ := h.cells
  intro i hi
  refine ⟨g, 0, rfl, ?_⟩
  rw [Nat.zero_add, ← h2 i hi]
  exact h1 i (by omega)
theorem copied_cellsV {w : World} {g n : Nat} {xs : List Kv} {cur : Array Value} (hn : xs.length = n) (hc : ∀ i, i < n + 3 → ∀ o, o < 6 → cur[i * 6 + o]? = [Value.string ⟨#[]⟩, .int .u64 0, .int .u32 0, .int .u32 0, .bool false, .string ⟨#[]⟩][o]?)
    (hg : w.heap[g]? = some (.cells (flatK xs ++ cur.toList.drop (n * 6)).toArray 76 (0, 0))) : CellsV w g (fun i => if i < n then nthK xs i else nulV) (n + 3) := by
  have hl := flatK_len xs
  have hcell : ∀ j v, (flatK xs ++ cur.toList.drop (n * 6))[j]? = some v → w.cell? ⟨g, j, none⟩ = some v := fun j v hj => cell_of_obj hg (by simpa using hj)
  intro i hi
  by_cases h : i < n
  · simp only [h, if_true]
    have hf : ∀ o, o < 6 → (flatK xs ++ cur.toList.drop (n * 6))[i * 6 + o]? = [Value.string (nthK xs i).1, .int .u64 (nthK xs i).2.s.a, .int .u32 (nthK xs i).2.s.b, .int .u32 (nthK xs i).2.s.c, .bool (nthK xs i).2.del, .string (nthK xs i).2.val][o]? := fun o ho => by
      rw [List.getElem?_append_left (by omega)]; exact flatK_get xs i o (by omega) ho
    exact ⟨hcell _ _ (hf 0 (by omega)), hcell _ _ (hf 1 (by omega)), hcell _ _ (hf 2 (by omega)), hcell _ _ (hf 3 (by omega)), hcell _ _ (hf 4 (by omega)), hcell _ _ (hf 5 (by omega))⟩
  · simp only [h, if_false]
    have hd : ∀ o, o < 6 → (flatK xs ++ cur.toList.drop (n * 6))[i * 6 + o]? = [Value.string ⟨#[]⟩, .int .u64 0, .int .u32 0, .int .u32 0, .bool false, .string ⟨#[]⟩][o]? := fun o ho => by
      rw [← hc i hi o ho, List.getElem?_append_right (by omega), List.getElem?_drop, hl, hn, show n * 6 + (i * 6 + o - n * 6) = i * 6 + o by omega]
      simp
    exact ⟨hcell _ _ (hd 0 (by omega)), hcell _ _ (hd 1 (by omega)), hcell _ _ (hd 2 (by omega)), hcell _ _ (hd 3 (by omega)), hcell _ _ (hd 4 (by omega)), hcell _ _ (hd 5 (by omega))⟩

set_option maxHeartbeats 2000000 in
theorem roomyV_is {a : Option Addr} {c : Nat} {xs : List Kv} {w : World} (h : RowV w a xs) (hl : xs.length ≤ 1073741824) (ht : PowTab w) :
    Calls Tryd.prog 38 #[.slice a xs.length c] w fun e w' => ∃ g, e = .returned (.slice (some ⟨g, 0, none⟩) xs.length (xs.length + 3)) ∧ RoomZ w w' g xs := by
  have hmk := make_vr w (xs.length + 3) (by omega)
  rw [show ((xs.length + 3 : Nat) : Int) = (xs.length : Int) + 3 by omega] at hmk
  obtain ⟨cur, hcur⟩ : ∃ cur, cur = madeCells (vv ⟨#[]⟩ ⟨⟨0, 0, 0⟩, false, ⟨#[]⟩⟩).cells ((xs.length + 3) * 6) := ⟨_, rfl⟩
  obtain ⟨wa, hwa⟩ : ∃ wa, wa = w.alloc (.cells cur 76) := ⟨_, rfl⟩
  have hc := madeV w (xs.length + 3)
  rw [← hcur, ← hwa] at hmk hc
  have hba : Below w.heap.size w wa := by rw [hwa]; exact Below.al (Below.refl _ _) _
  have hk : wa.heap[w.heap.size]? = some (.cells cur 76 (0, 0)) := by rw [hwa]; exact World.alloc_heap_new _ _
  have hcz : cur.size = (xs.length + 3) * 6 := by rw [hcur]; simp [madeCells]
  have hcc : ∀ i, i < xs.length + 3 → ∀ o, o < 6 → cur[i * 6 + o]? = [Value.string ⟨#[]⟩, .int .u64 0, .int .u32 0, .int .u32 0, .bool false, .string ⟨#[]⟩][o]? := fun i hi o ho => by
    obtain ⟨c0, c1, c2, c3, c4, c5⟩ := hc i hi
    simp only [World.cell?, hk] at c0 c1 c2 c3 c4 c5
    match o, ho with
    | 0, _ => exact c0
    | 1, _ => exact c1
    | 2, _ => exact c2
    | 3, _ => exact c3
    | 4, _ => exact c4
    | 5, _ => exact c5
  obtain ⟨n, hn⟩ : ∃ n, xs.length = n := ⟨_, rfl⟩
  rw [hn] at hmk hcc hcz hl ⊢
  have HX := hid (show RowV wa a xs ∧ wa.heap[w.heap.size]? = some (.cells cur 76 (0, 0)) ∧ Below w.heap.size w wa ∧ PowTab wa ∧ xs.length = n ∧ cur.size = (n + 3) * 6 from ⟨h.later hba, hk, hba, ht.later hba, hn, hcz⟩)
  have HCC := hid hcc
  have HTW := hid ht
  clear hwa hc hba hk h ht hn hcc hcur hcz
  go_enter Tryd.func38, Tryd.ntmps38
  go_wp2_with (first | (refine wpList_copy_v rfl _ _ rfl w.heap.size n (n + 3) a c xs cur rfl rfl HX.out.2.2.2.2.1 (by omega) HX.out.2.1 HX.out.2.2.2.2.2 HX.out.1 ?_; intro w2 hk2 hb2; have HK2 := hid hk2; have HB2 : Hid (Below w.heap.size w w2) := HX.out.2.2.1.trans hb2; clear hk2 hb2))
  have HL : Hid (CellsV w2 w.heap.size (fun i => if i < n then nthK xs i else nulV) (n + 3) ∧ Loose w2 w.heap.size) := ⟨copied_cellsV HX.out.2.2.2.2.1 HCC.out HK2.out, fun o => frozen_of_row w2 w.heap.size o _ _ HK2.out⟩
  go_loopg [4] 3 (fun gg s4 wr => ∃ k : Nat, n ≤ k ∧ k ≤ n + 3 ∧ gg = n + 3 - k ∧ s4 = .int .i64 k ∧ ∃ f, Hid (CellsV wr w.heap.size f (n + 3) ∧ (∀ i, i < n → f i = nthK xs i) ∧ (∀ i, n ≤ i → i < k → f i = markV 0 i) ∧ Loose wr w.heap.size ∧ Below w.heap.size w wr ∧ Typ 76 wr w.heap.size))
  case atStart => exact ⟨n, by omega, by omega, by omega, rfl, _, ⟨HL.out.1, fun i hi => by simp [hi], fun i h1 h2 => by omega, HL.out.2, HB2.out, ⟨_, HK2.out⟩⟩⟩
  case round =>
    obtain ⟨k, hk1, hk, rfl, rfl, f, HK⟩ := hrel
    clear HK2 hmk HL HB2
    by_cases hlt : k < n + 3
    · have MK := hid (markVersion_is 0 k (by omega) (by omega) wr (HTW.out.later HK.out.2.2.2.2.1))
      have HS : Hid (markV 0 k = (markK 0, ⟨⟨k, 0, 77⟩, true, itS k⟩)) := rfl
      rw [show ((0 : Nat) : Int) = 0 from rfl] at MK
      generalize itS k = s at MK HS
      generalize markK 0 = mk at MK HS
      have HA : Hid (∀ w1, Below wr.heap.size wr w1 → CellsV w1 w.heap.size f (n + 3) ∧ Loose w1 w.heap.size ∧ Below w.heap.size w w1 ∧ Typ 76 w1 w.heap.size) := fun w1 hb => ⟨HK.out.1.later hb, HK.out.2.2.2.1.later hb HK.out.2.2.2.2.2.lt, Below.on HK.out.2.2.2.2.1 hb, HK.out.2.2.2.2.2.later hb⟩
      have hkI : (k : Int) < (n : Int) + 3 := by omega
      go_wp2_with (go_at_call 63; refine MK.out.mono ?_; rintro e w3 ⟨rfl, hb3⟩; have d0 := ((HA.out w3 hb3).1 k hlt).c0; have d1 := ((HA.out w3 hb3).1 k hlt).c1; have d2 := ((HA.out w3 hb3).1 k hlt).c2; have d3 := ((HA.out w3 hb3).1 k hlt).c3; have d4 := ((HA.out w3 hb3).1 k hlt).c4; have d5 := ((HA.out w3 hb3).1 k hlt).c5; have fz : ∀ o, w3.frozen? ⟨w.heap.size, o, none⟩ = false := (HA.out w3 hb3).2.1)
      go_roundg (n + 3 - (k + 1))
      case measure => omega
      case rel =>
        refine ⟨k + 1, by omega, by omega, rfl, by go_num, put f k (mk, ⟨⟨k, 0, 77⟩, true, s⟩), ⟨(HA.out w3 hb3).1.put hlt (mk, ⟨⟨k, 0, 77⟩, true, s⟩), fun i hi => ?_, fun i h1 h2 => ?_, ((((((HA.out w3 hb3).2.1.setc _ _).setc _ _).setc _ _).setc _ _).setc _ _).setc _ _, (HA.out w3 hb3).2.2.1.trans ((onl_setV w3 w.heap.size k (mk, ⟨⟨k, 0, 77⟩, true, s⟩)).below (fun b e => by rw [e]; exact Nat.le_refl _) (HA.out w3 hb3).2.2.1.size), ((((((HA.out w3 hb3).2.2.2.set _ _ _).set _ _ _).set _ _ _).set _ _ _).set _ _ _).set _ _ _⟩⟩
        · rw [put_other _ _ (by omega)]; exact HK.out.2.1 i hi
        · by_cases e : i = k
          · subst e; rw [put_same, HS.out]
          · rw [put_other _ _ e]; exact HK.out.2.2.1 i h1 (by omega)
    · obtain rfl : k = n + 3 := by omega
      have HP : Hid (RoomZ w wr w.heap.size xs) := by
        have hn := HX.out.2.2.2.2.1
        exact ⟨⟨f, by rw [hn]; exact HK.out.1, fun i hi => HK.out.2.1 i (by omega), fun i h1 h2 => HK.out.2.2.1 i (by omega) (by omega)⟩, HK.out.2.2.2.1, Nat.le_refl _, HK.out.2.2.2.2.2.lt, HK.out.2.2.2.2.1, HK.out.2.2.2.2.2⟩
      go_wp2_with fail
      go_ret
      exact ⟨w.heap.size, rfl, HP.out⟩
end Go.Proofs.YtmlacdfdpdkdaaaDoor.Vs
/- The law's spoil: a list of versions is written full. -/
namespace Go.Proofs.YtmlacdfdpdkdaaaDoor.Vs
open Go.RowKit Go.Sort
set_option linter.unusedVariables false

set_option maxHeartbeats 2000000 in
theorem spoil_is {g n c : Nat} {f : Nat → Kv} {w : World} (h : CellsV w g f n) (hl : Loose w g) (hg : g < w.heap.size) (hn : n ≤ 1073741824) (hP : ∀ w', Onl (fun b => b = g) w w' → PowTab w') :
    Calls Tryd.prog 42 #[.slice (some ⟨g, 0, none⟩) n c] w fun e w' => e = .returned (.tuple #[]) ∧ Onl (fun b => b = g) w w' ∧ Loose w' g := by
  have HP := hid hP
  have HH := hid (show CellsV w g f n ∧ Loose w g ∧ g < w.heap.size from ⟨h, hl, hg⟩)
  clear h hl hg hP
  go_enter Tryd.func42, Tryd.ntmps42
  go_wp2_with fail
  go_loopg [2] n (fun gg s2 wr => ∃ k : Nat, k ≤ n ∧ gg = n - k ∧ s2 = .int .i64 k ∧ ∃ f, Hid (CellsV wr g f n ∧ Loose wr g ∧ g < wr.heap.size ∧ Onl (fun b => b = g) w wr))
  case atStart => exact ⟨0, by omega, by omega, rfl, f, ⟨HH.out.1, HH.out.2.1, HH.out.2.2, Onl.refl _ _⟩⟩
  case round =>
    obtain ⟨k, hk, rfl, rfl, f', HK⟩ := hrel
    by_cases hlt : k < n
    · have MK := hid (markVersion_is 1 k (by omega) (by omega) wr (HP.out wr HK.out.2.2.2))
      rw [show ((1 : Nat) : Int) = 1 from rfl] at MK
      generalize itS k = s at MK
      generalize markK 1 = mk at MK
      have HA : Hid (∀ w1, Below wr.heap.size wr w1 → CellsV w1 g f' n ∧ Loose w1 g ∧ g < w1.heap.size ∧ Onl (fun b => b = g) w w1) := fun w1 hb => ⟨HK.out.1.later hb, HK.out.2.1.later hb HK.out.2.2.1, Nat.lt_of_lt_of_le HK.out.2.2.1 hb.size, HK.out.2.2.2.on hb⟩
      have hkI : (k : Int) < (n : Int) := by omega
      go_wp2_with (go_at_call 63; refine MK.out.mono ?_; rintro e w3 ⟨rfl, hb3⟩; have d0 := ((HA.out w3 hb3).1 k hlt).c0; have d1 := ((HA.out w3 hb3).1 k hlt).c1; have d2 := ((HA.out w3 hb3).1 k hlt).c2; have d3 := ((HA.out w3 hb3).1 k hlt).c3; have d4 := ((HA.out w3 hb3).1 k hlt).c4; have d5 := ((HA.out w3 hb3).1 k hlt).c5; have fz : ∀ o, w3.frozen? ⟨g, o, none⟩ = false := (HA.out w3 hb3).2.1)
      go_roundg (n - (k + 1))
      case measure => omega
      case rel =>
        exact ⟨k + 1, by omega, rfl, by go_num, put f' k (mk, ⟨⟨k, 0, 77⟩, true, s⟩), ⟨(HA.out w3 hb3).1.put hlt (mk, ⟨⟨k, 0, 77⟩, true, s⟩), ((((((HA.out w3 hb3).2.1.setc _ _).setc _ _).setc _ _).setc _ _).setc _ _).setc _ _, by simpa using (HA.out w3 hb3).2.2.1, (HA.out w3 hb3).2.2.2.trans (onl_setV w3 g k (mk, ⟨⟨k, 0, 77⟩, true, s⟩))⟩⟩
    · obtain rfl : k = n := by omega
      have HZ := hid (show Onl (fun b => b = g) w wr ∧ Loose wr g from ⟨HK.out.2.2.2, HK.out.2.1⟩)
      go_wp2_with fail
      go_end0
      exact ⟨rfl, HZ.out⟩
end Go.Proofs.YtmlacdfdpdkdaaaDoor.Vs
/- The law's untouchedVersions at a list that is as it was. -/
namespace Go.Proofs.YtmlacdfdpdkdaaaDoor.Vs
open Go.RowKit Go.Sort
set_option linter.unusedVariables false

/-- a list of versions and the marks behind it stand in block g -/
def StandV (w : World) (g : Nat) (xs : List Kv) : Prop := ∃ f, CellsV w g f (xs.length + 3) ∧ (∀ i, i < xs.length → f i = nthK xs i) ∧ (∀ i, xs.length ≤ i → i < xs.length + 3 → f i = markV 0 i)
theorem StandV.later {w w' : World} {g : Nat} {xs : List Kv} (h : StandV w g xs) (hb : Below w.heap.size w w') : StandV w' g xs := by
  obtain ⟨f, h1, h2, h3⟩ := h
  exact ⟨f, h1.later hb, h2, h3⟩
theorem StandV.onl {w w' : World} {G : Nat → Prop} {g : Nat} {xs : List Kv} (h : StandV w g xs) (ho : Onl G w w') (hg : ¬ G g) : StandV w' g xs := by
  obtain ⟨f, h1, h2, h3⟩ := h
  exact ⟨f, h1.onl ho hg, h2, h3⟩
theorem StandV.low {w : World} {g i : Nat} {xs : List Kv} (h : StandV w g xs) (hi : i < xs.length) : VerAt w g (i * 6) (nthK xs i).1 (nthK xs i).2 := by
  obtain ⟨f, h1, h2, h3⟩ := h
  rw [← h2 i hi]; exact h1 i (by omega)
theorem StandV.high {w : World} {g i : Nat} {xs : List Kv} (h : StandV w g xs) (h1 : xs.length ≤ i) (h2 : i < xs.length + 3) : VerAt w g (i * 6) (markV 0 i).1 (markV 0 i).2 := by
  obtain ⟨f, k1, k2, k3⟩ := h
  rw [← k3 i h1 h2]; exact k1 i h2

set_option maxHeartbeats 4000000 in
theorem untouchedV_is {g c : Nat} {a : Option Addr} {xs : List Kv} {w : World} (hs : StandV w g xs) (hr : RowV w a xs) (hl : xs.length ≤ 1073741824) (ht : PowTab w) :
    Calls Tryd.prog 41 #[.slice (some ⟨g, 0, none⟩) xs.length (xs.length + 3), .slice a xs.length c] w fun e w' => e = .returned (.bool true) ∧ Below w.heap.size w w' := by
  obtain ⟨n, hn⟩ : ∃ n, xs.length = n := ⟨_, rfl⟩
  have HX := hid (show StandV w g xs ∧ RowV w a xs ∧ xs.length = n ∧ PowTab w from ⟨hs, hr, hn, ht⟩)
  rw [hn] at hl ⊢
  clear hs hr ht hn
  go_enter Tryd.func41, Tryd.ntmps41
  go_wp2_with fail
  go_loopg [6] (n + 3) (fun gg s6 wr => ∃ k : Nat, k ≤ n + 3 ∧ gg = n + 3 - k ∧ s6 = .int .i64 k ∧ Hid (Below w.heap.size w wr))
  case atStart => exact ⟨0, by omega, by omega, rfl, Below.refl _ _⟩
  case round =>
    obtain ⟨i, hi, rfl, rfl, HB⟩ := hrel
    by_cases hlt : i < n + 3
    · have HM : Hid (∀ ws, Below wr.heap.size wr ws → Calls Tryd.prog 63 #[.int .i64 0, .int .i64 (i : Int)] ws fun e w' => e = .returned (.agg #[.string (markK 0), .int .u64 (i : Int), .int .u32 0, .int .u32 77, .bool true, .string (itS i)]) ∧ Below ws.heap.size ws w') := fun ws hb => markVersion_is 0 i (by omega) (by omega) ws ((HX.out.2.2.2.later HB.out).later hb)
      have hI : (i : Int) < (n : Int) + 3 := by omega
      by_cases hin : i < n
      · obtain ⟨a0, a1, a2, a3, a4, a5⟩ := (HX.out.1.later HB.out).low (i := i) (by rw [HX.out.2.2.1]; exact hin)
        obtain ⟨gb, ob, rfl, b0, b1, b2, b3, b4, b5⟩ := (HX.out.2.1.later HB.out) i (by rw [HX.out.2.2.1]; exact hin)
        generalize nthK xs i = x at a0 a1 a2 a3 a4 a5 b0 b1 b2 b3 b4 b5
        have hrun := fun w => run_neVer x x w
        rw [(eqK_iff x x).2 rfl] at hrun
        obtain ⟨x1, ⟨xa, xb, xc⟩, x3, x4⟩ := x
        simp only at hrun a0 a1 a2 a3 a4 a5 b0 b1 b2 b3 b4 b5
        have ka0 := cell_regrown a0; have ka1 := cell_regrown a1; have ka2 := cell_regrown a2; have ka3 := cell_regrown a3; have ka4 := cell_regrown a4; have ka5 := cell_regrown a5
        have kb0 := cell_regrown b0; have kb1 := cell_regrown b1; have kb2 := cell_regrown b2; have kb3 := cell_regrown b3; have kb4 := cell_regrown b4; have kb5 := cell_regrown b5
        have d1 : decide ((i : Int) < (n : Int)) = true := by simpa using hin
        have d2 : (i : Int) < (n : Int) := by omega
        have d3 : decide ((n : Int) ≤ (i : Int)) = false := by simpa using hin
        have d4 : ((n : Int) ≤ (i : Int)) = False := eq_false (by omega)
        clear HM
        go_wp2_with fail
        go_quiet (fail)
        go_wp2_with fail
        go_roundg (n + 3 - (i + 1))
        case measure => omega
        case rel => exact ⟨i + 1, by omega, rfl, by go_num, Below.drewN HB.out _⟩
      · obtain ⟨a0, a1, a2, a3, a4, a5⟩ := (HX.out.1.later HB.out).high (i := i) (by rw [HX.out.2.2.1]; omega) (by rw [HX.out.2.2.1]; exact hlt)
        have hrun := fun w => run_neVer (markV 0 i) (markV 0 i) w
        rw [(eqK_iff _ _).2 rfl] at hrun
        unfold markV at hrun a0 a1 a2 a3 a4 a5
        simp only at hrun a0 a1 a2 a3 a4 a5
        generalize markK 0 = mk at hrun a0 HM
        generalize itS i = s at hrun a5 HM
        have ka0 := cell_regrown a0; have ka1 := cell_regrown a1; have ka2 := cell_regrown a2; have ka3 := cell_regrown a3; have ka4 := cell_regrown a4; have ka5 := cell_regrown a5
        have d1 : decide ((i : Int) < (n : Int)) = false := by simpa using hin
        have d2 : ((i : Int) < (n : Int)) = False := eq_false (by omega)
        have d3 : decide ((n : Int) ≤ (i : Int)) = true := by simp; omega
        have d4 : (n : Int) ≤ (i : Int) := by omega
        go_wp2_with fail
        refine wp_region_quiet_below (by kernel_rfl) (by kernel_rfl) ?_
        repeat (go_big_quiet_step (((go_at_call 63; exact Calls.regrown_of (HM.out _ (below_of_regrown ⟨⟨_, _⟩, rfl⟩))))))
        refine wpQuiet_nil ?_
        intro wn hwn
        replace hwn := below_of_regrown hwn
        go_wp2_with fail
        go_roundg (n + 3 - (i + 1))
        case measure => omega
        case rel => exact ⟨i + 1, by omega, rfl, by go_num, Below.on HB.out hwn⟩
    · obtain rfl : i = n + 3 := by omega
      go_wp2_with fail
      go_ret
      exact ⟨rfl, HB.out⟩
end Go.Proofs.YtmlacdfdpdkdaaaDoor.Vs
