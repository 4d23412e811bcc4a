import Derived.Test.YtmlacdfdpdkdaaaDoorVRowsV
import Derived.Test.YtmlacdfdpdkdaaaDoorVItoa
import Derived.Laws.MakeOwn
import Derived.Laws.CopyOwn
/- Lists of writes with room behind them. -/
namespace Go.Proofs.YtmlacdfdpdkdaaaDoor.Vs
open Go.RowKit Go.Sort
set_option linter.unusedVariables false

/-- a block's type -/
def Typ (T : TypeId) (w : World) (g : Nat) : Prop := ∃ cs, w.heap[g]? = some (.cells cs T (0, 0))
theorem Typ.lt {T : TypeId} {w : World} {g : Nat} (h : Typ T w g) : g < w.heap.size := by
  obtain ⟨cs, hc⟩ := h
  exact (Array.getElem?_eq_some_iff.1 hc).1
theorem Typ.keep {T : TypeId} {w w' : World} {g : Nat} (h : Typ T w g) (hb : w'.heap[g]? = w.heap[g]?) : Typ T w' g := by
  obtain ⟨cs, hc⟩ := h
  exact ⟨cs, hb.trans hc⟩
theorem Typ.later {T : TypeId} {w w' : World} {g : Nat} (h : Typ T w g) (hb : Below w.heap.size w w') : Typ T w' g := h.keep (hb.block g h.lt)
theorem Typ.set {T : TypeId} {w : World} {g : Nat} (h : Typ T w g) (x o : Nat) (v : Value) : Typ T (w.setCell ⟨x, o, none⟩ v) g := by
  obtain ⟨cur, hc⟩ := h
  rw [setCell_eq]
  by_cases e : x = g
  · subst e
    exact ⟨cur.setIfInBounds o v, by simp [mapBlock, Array.getElem?_modify, hc, onCells]⟩
  · exact ⟨cur, by simp [mapBlock, Array.getElem?_modify, e, hc]⟩
/-- n writes in block g -/
def CellsW (w : World) (g : Nat) (f : Nat → Wr) (n : Nat) : Prop := ∀ i, i < n → w.cell? ⟨g, i * 3, none⟩ = some (.string (f i).key) ∧ w.cell? ⟨g, i * 3 + 1, none⟩ = some (.bool (f i).del) ∧ w.cell? ⟨g, i * 3 + 2, none⟩ = some (.string (f i).val)
theorem CellsW.later {w w' : World} {g n : Nat} {f : Nat → Wr} (h : CellsW w g f n) (hb : Below w.heap.size w w') : CellsW w' g f n := fun i hi => ⟨cell_later hb (h i hi).1, cell_later hb (h i hi).2.1, cell_later hb (h i hi).2.2⟩
theorem CellsW.onl {w w' : World} {G : Nat → Prop} {g n : Nat} {f : Nat → Wr} (h : CellsW w g f n) (ho : Onl G w w') (hg : ¬ G g) : CellsW w' g f n := fun i hi => ⟨ho.cell hg (h i hi).1, ho.cell hg (h i hi).2.1, ho.cell hg (h i hi).2.2⟩
def put {α : Type} (f : Nat → α) (k : Nat) (y : α) : Nat → α := fun i => if i = k then y else f i
theorem put_same {α : Type} (f : Nat → α) (k : Nat) (y : α) : put f k y k = y := by simp [put]
theorem put_other {α : Type} (f : Nat → α) {k i : Nat} (y : α) (h : i ≠ k) : put f k y i = f i := by simp [put, h]
abbrev setW (w : World) (g k : Nat) (y : Wr) : World := ((w.setCell ⟨g, k * 3, none⟩ (.string y.key)).setCell ⟨g, k * 3 + 1, none⟩ (.bool y.del)).setCell ⟨g, k * 3 + 2, none⟩ (.string y.val)
theorem CellsW.put {w : World} {g n k : Nat} {f : Nat → Wr} (h : CellsW w g f n) (hk : k < n) (y : Wr) : CellsW (setW w g k y) g (put f k y) n := by
  intro i hi
  by_cases e : i = k
  · subst e
    rw [put_same]
    refine ⟨cell_setc (by simp) (cell_setc (by simp) (World.cell?_setCell_same _ _ _ (h i hi).1)), cell_setc (by simp) (World.cell?_setCell_same _ _ _ (cell_setc (by simp) (h i hi).2.1)), World.cell?_setCell_same _ _ _ (cell_setc (by simp) (cell_setc (by simp) (h i hi).2.2))⟩
  · rw [put_other _ _ e]
    exact ⟨cell_setc (by simp only [ne_eq, Addr.mk.injEq]; omega) (cell_setc (by simp only [ne_eq, Addr.mk.injEq]; omega) (cell_setc (by simp only [ne_eq, Addr.mk.injEq]; omega) (h i hi).1)), cell_setc (by simp only [ne_eq, Addr.mk.injEq]; omega) (cell_setc (by simp only [ne_eq, Addr.mk.injEq]; omega) (cell_setc (by simp only [ne_eq, Addr.mk.injEq]; omega) (h i hi).2.1)), cell_setc (by simp only [ne_eq, Addr.mk.injEq]; omega) (cell_setc (by simp only [ne_eq, Addr.mk.injEq]; omega) (cell_setc (by simp only [ne_eq, Addr.mk.injEq]; omega) (h i hi).2.2))⟩
theorem onl_setW (w : World) (g k : Nat) (y : Wr) : Onl (fun b => b = g) w (setW w g k y) := (((Onl.refl (fun b => b = g) w).set (p := g) rfl _ _).set (p := g) rfl _ _).set (p := g) rfl _ _

theorem infoWw : (Tryd.prog.info? 28).map (fun i => (i.zero, i.size, i.bytes)) = some (some (.agg #[.string ⟨#[]⟩, .bool false, .string ⟨#[]⟩]), 3, 40) := by kernel_rfl
theorem make_wr (w : World) (n : Nat) (h : n ≤ 7036874417766) : (Instr.makeSlice 29 (.int .i64 (n : Int)) (.int .i64 (n : Int))).run Tryd.prog w = .ok (.slice (some ⟨w.heap.size, 0, none⟩) n n) (w.alloc (.cells (madeCells (Value.agg #[.string ⟨#[]⟩, .bool false, .string ⟨#[]⟩]).cells (n * 3)) 28)) := by
  obtain ⟨i0, hi, hz0, hz1, hz2⟩ := info_ofV infoWw
  have := run_make (P := Tryd.prog) w 29 28 i0 _ Tryd.underlying29 hi hz0 .i64 .i64 n n (by omega) (by omega) (by rw [hz2]; omega) (by omega)
  rw [this, hz1]
  simp
theorem madeW (w : World) (n : Nat) : CellsW (w.alloc (.cells (madeCells (Value.agg #[.string ⟨#[]⟩, .bool false, .string ⟨#[]⟩]).cells (n * 3)) 28)) w.heap.size (fun _ => ⟨⟨#[]⟩, false, ⟨#[]⟩⟩) n := by
  intro i hi
  have h1 : i * 3 < n * 3 := by omega
  have h2 : i * 3 + 1 < n * 3 := by omega
  have h3 : i * 3 + 2 < n * 3 := by omega
  refine ⟨?_, ?_, ?_⟩
  · simp [go_sem, madeCells, h1]
  · simp [go_sem, madeCells, h2, Nat.add_mod]
  · simp [go_sem, madeCells, h3, Nat.add_mod]


def flatW (l : List Wr) : List Value := l.flatMap fun x => [.string x.key, .bool x.del, .string x.val]
theorem flatW_len (l : List Wr) : (flatW l).length = l.length * 3 := by
  induction l with
  | nil => rfl
  | cons v vs ih => simp only [flatW, List.flatMap_cons, List.length_append, List.length_cons, List.length_nil] at ih ⊢; omega
theorem flatW_get : ∀ (l : List Wr) (i o : Nat), i < l.length → o < 3 → (flatW l)[i * 3 + o]? = [Value.string (nthW l i).key, .bool (nthW l i).del, .string (nthW l i).val][o]?
  | [], i, o, h, _ => by simp at h
  | v :: vs, i, o, h, ho => by
    show ([Value.string v.key, .bool v.del, .string v.val] ++ flatW vs)[i * 3 + o]? = _
    cases i with
    | zero => rw [List.getElem?_append_left (by simp; omega)]; simp [nthW]
    | succ i =>
      have e : (i + 1) * 3 + o - [Value.string v.key, .bool v.del, .string v.val].length = i * 3 + o := by simp; omega
      rw [List.getElem?_append_right (by simp; omega), e, flatW_get vs i o (by simpa using h) ho]
      simp [nthW]
theorem flatW_one (l : List Wr) : ∀ v ∈ flatW l, v.oneCell' = true := fun v hv => by
  obtain ⟨x, _, hx⟩ := List.mem_flatMap.1 hv
  simp at hx
  rcases hx with rfl | rfl | rfl <;> rfl
theorem rowW_cells {w : World} {a : Option Addr} {xs : List Wr} (h : RowW w a xs) (h0 : 0 < xs.length) : ∃ b off, a = some ⟨b, off, none⟩ ∧ ∀ j v, (flatW xs)[j]? = some v → w.cell? ((⟨b, off, none⟩ : Addr).add j) = some v := by
  obtain ⟨b, off, rfl, _⟩ := h 0 h0
  refine ⟨b, off, rfl, fun j v hj => ?_⟩
  have hl := flatW_len xs
  have hj' : j < (flatW xs).length := (List.getElem?_eq_some_iff.1 hj).1
  have e : j = j / 3 * 3 + j % 3 := by omega
  obtain ⟨b', off', e', c0, c1, c2⟩ := h (j / 3) (by omega)
  injection e' with e'; injection e' with e1 e2
  subst e1 e2
  have ho : j % 3 < 3 := Nat.mod_lt _ (by decide)
  have hg := flatW_get xs (j / 3) (j % 3) (by omega) ho
  rw [← e, hj] at hg
  have hadd : (⟨b, off, none⟩ : Addr).add j = ⟨b, off + j, none⟩ := by
    unfold Addr.add
    split
    · rename_i h0; rw [h0, Nat.add_zero]
    · rfl
  rw [hadd]
  match hr : j % 3, ho with
  | 0, _ => rw [hr] at hg e; simp at hg; subst hg; rw [show off + j = off + j / 3 * 3 by omega]; exact c0
  | 1, _ => rw [hr] at hg e; simp at hg; subst hg; rw [show off + j = off + j / 3 * 3 + 1 by omega]; exact c1
  | 2, _ => rw [hr] at hg e; simp at hg; subst hg; rw [show off + j = off + j / 3 * 3 + 2 by omega]; exact c2
/-- copy(dst, src), dst a block that has room -/
theorem run_copy_w (w : World) (g n N : Nat) (a : Option Addr) (c : Nat) (xs : List Wr) (ty : TypeId) (cur : Array Value) (hn : xs.length = n) (hN : n ≤ N) (hg : w.heap[g]? = some (.cells cur 28 (0, 0))) (hs : cur.size = N * 3) (hr : RowW w a xs) :
    ∃ w', (Builtin.copy_ #[29, 29] ty #[.slice (some ⟨g, 0, none⟩) N N, .slice a n c]).run Tryd.prog w = .ok (goInt n) w' ∧ w'.heap[g]? = some (.cells (flatW xs ++ cur.toList.drop (n * 3)).toArray 28 (0, 0)) ∧ Below g w w' := by
  obtain ⟨i0, hi, hz0, hz1, hz2⟩ := info_ofV infoWw
  by_cases h0 : n = 0
  · subst h0
    have e2 : xs = [] := List.eq_nil_of_length_eq_zero hn
    subst e2
    refine ⟨w, ?_, ?_, Below.refl _ _⟩
    · have hl : ∀ (x : Addr), (loadCells x 0).run Tryd.prog w = .ok #[] w := fun x => by simpa using run_loadCells_list (P := Tryd.prog) w x [] (by simp)
      cases a <;> simp [Builtin.copy_, run_underlying Tryd.underlying29, Builtin.lenOf, Builtin.firstCells, sizeOf, typeInfo, hi, storeCells, hl]
    · rw [hg]; simp [flatW]
  · obtain ⟨b, off, rfl, hc⟩ := rowW_cells hr (by omega)
    have hlen : (flatW xs).length = n * 3 := by rw [flatW_len, hn]
    have hl := run_loadCells_list (P := Tryd.prog) w ⟨b, off, none⟩ (flatW xs) hc
    rw [hlen] at hl
    have hst := run_storeCells_at Tryd.prog g 0 28 (flatW xs) 0 cur w hg (by rw [hlen, hs]; omega) (flatW_one xs)
    have hall : ((cur.toList.take (0 + 0) ++ flatW xs ++ cur.toList.drop (0 + 0 + (flatW xs).length))).toArray = (flatW xs ++ cur.toList.drop (n * 3)).toArray := by
      simp [hlen]
    rw [hall] at hst
    refine ⟨w.setRow g (flatW xs ++ cur.toList.drop (n * 3)).toArray, ?_, setRow_heap w g _ _ _ _ hg, below_setRow (Below.refl _ _) (Nat.le_refl _) _⟩
    have hmin : Nat.min n N = n := Nat.min_eq_left hN
    have hmin' : min n N = n := hmin
    simp [Builtin.copy_, run_underlying Tryd.underlying29, Builtin.lenOf, Builtin.firstCells, sizeOf, typeInfo, hi, hz1, hl, hst, hmin']
theorem wpList_copy_w {w : World} {ops : Array Oper} {rest : List Oper} {o : Oper} {act : Act} {Q : Exit → Act → World → Prop} (hgd : o.guard = none) (d s : Operand)
    (ho : o.op = .call { callee := .builtin .copy, args := #[d, s], argTypes := #[29, 29] })
    (g n N : Nat) (a : Option Addr) (c : Nat) (xs : List Wr) (cur : Array Value) (hd : act.eval d = .slice (some ⟨g, 0, none⟩) N N) (hs : act.eval s = .slice a n c)
    (hn : xs.length = n) (hN : n ≤ N) (hg : w.heap[g]? = some (.cells cur 28 (0, 0))) (hcs : cur.size = N * 3) (hr : RowW w a xs)
    (h : ∀ w', w'.heap[g]? = some (.cells (flatW xs ++ cur.toList.drop (n * 3)).toArray 28 (0, 0)) → Below g w w' → wpList Tryd.prog ops Q rest (act.put o.dst (goInt n)) w') : wpList Tryd.prog ops Q (o :: rest) act w := by
  refine wpList_plain hgd fun K hK => ?_
  obtain ⟨w', hrun, h1, h2⟩ := run_copy_w w g n N a c xs o.type cur hn hN hg hcs hr
  unfold Oper.wp
  simp [execOp, ho, resolve, invoke, builtin, hd, hs, hrun, Result.andThen]
  exact hK _ _ (h w' h1 h2)

/-- the mark at a place -/
def markW (i : Nat) : Wr := ⟨⟨#[35]⟩, true, itS i⟩
theorem markWrite_is (i : Nat) (hi : i ≤ 4611686018427387904) (w : World) (ht : PowTab w) :
    Calls Tryd.prog 58 #[.int .i64 (i : Int)] w fun e w' => e = .returned (.agg #[.string ⟨#[35]⟩, .bool true, .string (itS i)]) ∧ Below w.heap.size w w' := by
  have HT : Hid (PowTab (w.alloc (.cells #[.string ⟨#[]⟩, .bool false, .string ⟨#[]⟩] 28))) := ht.later (Below.al (Below.refl _ _) _)
  have kb : (w.alloc (.cells #[.string ⟨#[]⟩, .bool false, .string ⟨#[]⟩] 28)).heap[w.heap.size]? = some (.cells #[.string ⟨#[]⟩, .bool false, .string ⟨#[]⟩] 28 (0, 0)) := World.alloc_heap_new _ _
  have HI := hid (itoa_is i hi _ HT.out)
  have HBK := hid kb
  obtain ⟨s, hs⟩ : ∃ s, s = itS i := ⟨_, rfl⟩
  rw [← hs] at HI ⊢
  clear ht hs kb
  go_enter Tryd.func58, Tryd.ntmps58
  go_wp2_with (go_at_call 78; refine HI.out.mono ?_; rintro e w1 ⟨rfl, hb1⟩; have k1 := (hb1.block w.heap.size (by simp)).trans HBK.out; have d0 : w1.cell? ⟨w.heap.size, 0, none⟩ = some (.string ⟨#[]⟩) := cell_of_obj k1 rfl; have d1 : w1.cell? ⟨w.heap.size, 1, none⟩ = some (.bool false) := cell_of_obj k1 rfl; have d2 : w1.cell? ⟨w.heap.size, 2, none⟩ = some (.string ⟨#[]⟩) := cell_of_obj k1 rfl; have fz : ∀ o, w1.frozen? ⟨w.heap.size, o, none⟩ = false := fun o => frozen_of_row w1 w.heap.size o _ _ k1)
  refine bodyPost_ret (v := .agg #[.string ⟨#[35]⟩, .bool true, .string s]) (by simp [results, Tryd.results58, go_sem, d0, d1, d2]) rfl ⟨rfl, ?_⟩
  exact Below.setCell (Below.setCell (Below.setCell (Below.on (Below.al (Below.refl _ _) _) hb1) (Nat.le_refl _) _) (Nat.le_refl _) _) (Nat.le_refl _) _

/-- a list of writes in a block of its own, marks behind it -/
structure RoomY (w wr : World) (g : Nat) (xs : List Wr) : Prop where
  cells : ∃ f, CellsW wr g f (xs.length + 3) ∧ (∀ i, i < xs.length → f i = nthW xs i) ∧ (∀ i, xs.length ≤ i → i < xs.length + 3 → f i = markW i)
  loose : Loose wr g
  low : w.heap.size ≤ g
  lt : g < wr.heap.size
  bl : Below w.heap.size w wr
  ty : Typ 28 wr g
theorem RoomY.row {w wr : World} {g : Nat} {xs : List Wr} (h : RoomY w wr g xs) : RowW wr (some ⟨g, 0, none⟩) xs := by
  obtain ⟨f, h1, h2, h3⟩ := h.cells
  intro i hi
  refine ⟨g, 0, rfl, ?_, ?_, ?_⟩
  · rw [Nat.zero_add, (h1 i (by omega)).1, h2 i hi]
  · rw [Nat.zero_add, (h1 i (by omega)).2.1, h2 i hi]
  · rw [Nat.zero_add, (h1 i (by omega)).2.2, h2 i hi]
theorem copied_cells {w : World} {g n : Nat} {xs : List Wr} {cur : Array Value} (hn : xs.length = n) (hc : ∀ i, i < n + 3 → cur[i * 3]? = some (.string ⟨#[]⟩) ∧ cur[i * 3 + 1]? = some (.bool false) ∧ cur[i * 3 + 2]? = some (.string ⟨#[]⟩))
    (hg : w.heap[g]? = some (.cells (flatW xs ++ cur.toList.drop (n * 3)).toArray 28 (0, 0))) : CellsW w g (fun i => if i < n then nthW xs i else ⟨⟨#[]⟩, false, ⟨#[]⟩⟩) (n + 3) := by
  have hl := flatW_len xs
  have hcell : ∀ j v, (flatW xs ++ cur.toList.drop (n * 3))[j]? = some v → w.cell? ⟨g, j, none⟩ = some v := fun j v hj => cell_of_obj hg (by simpa using hj)
  intro i hi
  by_cases h : i < n
  · simp only [h, if_true]
    have hf := fun o ho => flatW_get xs i o (by omega) ho
    refine ⟨hcell _ _ ?_, hcell _ _ ?_, hcell _ _ ?_⟩
    · rw [List.getElem?_append_left (by omega)]; exact hf 0 (by omega)
    · rw [List.getElem?_append_left (by omega)]; exact hf 1 (by omega)
    · rw [List.getElem?_append_left (by omega)]; exact hf 2 (by omega)
  · simp only [h, if_false]
    obtain ⟨c0, c1, c2⟩ := hc i hi
    have hd : ∀ o, o < 3 → (flatW xs ++ cur.toList.drop (n * 3))[i * 3 + o]? = cur[i * 3 + o]? := fun o ho => by
      rw [List.getElem?_append_right (by omega), List.getElem?_drop, hl, hn, show n * 3 + (i * 3 + o - n * 3) = i * 3 + o by omega]
      simp
    exact ⟨hcell _ _ ((hd 0 (by omega)).trans c0), hcell _ _ ((hd 1 (by omega)).trans c1), hcell _ _ ((hd 2 (by omega)).trans c2)⟩

set_option maxHeartbeats 2000000 in
theorem roomy_is {a : Option Addr} {c : Nat} {xs : List Wr} {w : World} (h : RowW w a xs) (hl : xs.length ≤ 1073741824) (ht : PowTab w) :
    Calls Tryd.prog 33 #[.slice a xs.length c] w fun e w' => ∃ g, e = .returned (.slice (some ⟨g, 0, none⟩) xs.length (xs.length + 3)) ∧ RoomY w w' g xs := by
  have hmk := make_wr w (xs.length + 3) (by omega)
  rw [show ((xs.length + 3 : Nat) : Int) = (xs.length : Int) + 3 by omega] at hmk
  obtain ⟨cur, hcur⟩ : ∃ cur, cur = madeCells (Value.agg #[.string ⟨#[]⟩, .bool false, .string ⟨#[]⟩]).cells ((xs.length + 3) * 3) := ⟨_, rfl⟩
  obtain ⟨wa, hwa⟩ : ∃ wa, wa = w.alloc (.cells cur 28) := ⟨_, rfl⟩
  have hc := madeW w (xs.length + 3)
  rw [← hcur, ← hwa] at hmk hc
  have hba : Below w.heap.size w wa := by rw [hwa]; exact Below.al (Below.refl _ _) _
  have hk : wa.heap[w.heap.size]? = some (.cells cur 28 (0, 0)) := by rw [hwa]; exact World.alloc_heap_new _ _
  have hcz : cur.size = (xs.length + 3) * 3 := by rw [hcur]; simp [madeCells]
  have hcc : ∀ i, i < xs.length + 3 → cur[i * 3]? = some (.string ⟨#[]⟩) ∧ cur[i * 3 + 1]? = some (.bool false) ∧ cur[i * 3 + 2]? = some (.string ⟨#[]⟩) := fun i hi => by
    have h3 := hc i hi
    simp only [World.cell?, hk] at h3
    exact h3
  obtain ⟨n, hn⟩ : ∃ n, xs.length = n := ⟨_, rfl⟩
  rw [hn] at hmk hcc hcz hl ⊢
  have HX := hid (show RowW wa a xs ∧ wa.heap[w.heap.size]? = some (.cells cur 28 (0, 0)) ∧ Below w.heap.size w wa ∧ PowTab wa ∧ xs.length = n ∧ cur.size = (n + 3) * 3 from ⟨h.later hba, hk, hba, ht.later hba, hn, hcz⟩)
  have HCC := hid hcc
  have HTW := hid ht
  clear hwa hc hba hk h ht hn hcc hcur hcz
  go_enter Tryd.func33, Tryd.ntmps33
  go_wp2_with (first | (refine wpList_copy_w rfl _ _ rfl w.heap.size n (n + 3) a c xs cur rfl rfl HX.out.2.2.2.2.1 (by omega) HX.out.2.1 HX.out.2.2.2.2.2 HX.out.1 ?_; intro w2 hk2 hb2; have HK2 := hid hk2; have HB2 : Hid (Below w.heap.size w w2) := HX.out.2.2.1.trans hb2; clear hk2 hb2))
  have HL : Hid (CellsW w2 w.heap.size (fun i => if i < n then nthW xs i else ⟨⟨#[]⟩, false, ⟨#[]⟩⟩) (n + 3) ∧ Loose w2 w.heap.size) := ⟨copied_cells HX.out.2.2.2.2.1 HCC.out HK2.out, fun o => frozen_of_row w2 w.heap.size o _ _ HK2.out⟩
  go_loopg [4] 3 (fun gg s4 wr => ∃ k : Nat, n ≤ k ∧ k ≤ n + 3 ∧ gg = n + 3 - k ∧ s4 = .int .i64 k ∧ ∃ f, Hid (CellsW wr w.heap.size f (n + 3) ∧ (∀ i, i < n → f i = nthW xs i) ∧ (∀ i, n ≤ i → i < k → f i = markW i) ∧ Loose wr w.heap.size ∧ Below w.heap.size w wr ∧ Typ 28 wr w.heap.size))
  case atStart => exact ⟨n, by omega, by omega, by omega, rfl, _, ⟨HL.out.1, fun i hi => by simp [hi], fun i h1 h2 => by omega, HL.out.2, HB2.out, ⟨_, HK2.out⟩⟩⟩
  case round =>
    obtain ⟨k, hk1, hk, rfl, rfl, f, HK⟩ := hrel
    clear HK2 hmk HL HB2
    by_cases hlt : k < n + 3
    · have MK := hid (markWrite_is k (by omega) wr (HTW.out.later HK.out.2.2.2.2.1))
      obtain ⟨s, hs⟩ : ∃ s, s = itS k := ⟨_, rfl⟩
      rw [← hs] at MK
      have HS : Hid (markW k = ⟨⟨#[35]⟩, true, s⟩) := by show _ = _; rw [hs]; rfl
      have HA : Hid (∀ w1, Below wr.heap.size wr w1 → CellsW w1 w.heap.size f (n + 3) ∧ Loose w1 w.heap.size ∧ Below w.heap.size w w1 ∧ Typ 28 w1 w.heap.size) := fun w1 hb => ⟨HK.out.1.later hb, HK.out.2.2.2.1.later hb HK.out.2.2.2.2.2.lt, Below.on HK.out.2.2.2.2.1 hb, HK.out.2.2.2.2.2.later hb⟩
      have hkI : (k : Int) < (n : Int) + 3 := by omega
      clear hs
      go_wp2_with (go_at_call 58; refine MK.out.mono ?_; rintro e w3 ⟨rfl, hb3⟩; have d0 := ((HA.out w3 hb3).1 k hlt).1; have d1 := ((HA.out w3 hb3).1 k hlt).2.1; have d2 := ((HA.out w3 hb3).1 k hlt).2.2; have l0 := (HA.out w3 hb3).2.1 (k * 3); have l1 := (HA.out w3 hb3).2.1 (k * 3 + 1); have l2 := (HA.out w3 hb3).2.1 (k * 3 + 2))
      go_roundg (n + 3 - (k + 1))
      case measure => omega
      case rel =>
        refine ⟨k + 1, by omega, by omega, rfl, by go_num, put f k ⟨⟨#[35]⟩, true, s⟩, ⟨(HA.out w3 hb3).1.put hlt ⟨⟨#[35]⟩, true, s⟩, fun i hi => ?_, fun i h1 h2 => ?_, (((HA.out w3 hb3).2.1.setc _ _).setc _ _).setc _ _, (HA.out w3 hb3).2.2.1.trans ((onl_setW w3 w.heap.size k ⟨⟨#[35]⟩, true, s⟩).below (fun b e => by rw [e]; exact Nat.le_refl _) (HA.out w3 hb3).2.2.1.size), (((HA.out w3 hb3).2.2.2.set _ _ _).set _ _ _).set _ _ _⟩⟩
        · rw [put_other _ _ (by omega)]; exact HK.out.2.1 i hi
        · by_cases e : i = k
          · subst e; rw [put_same, HS.out]
          · rw [put_other _ _ e]; exact HK.out.2.2.1 i h1 (by omega)
    · obtain rfl : k = n + 3 := by omega
      have HP : Hid (RoomY w wr w.heap.size xs) := by
        have hn := HX.out.2.2.2.2.1
        exact ⟨⟨f, by rw [hn]; exact HK.out.1, fun i hi => HK.out.2.1 i (by omega), fun i h1 h2 => HK.out.2.2.1 i (by omega) (by omega)⟩, HK.out.2.2.2.1, Nat.le_refl _, HK.out.2.2.2.2.2.lt, HK.out.2.2.2.2.1, HK.out.2.2.2.2.2⟩
      go_wp2_with fail
      go_ret
      exact ⟨w.heap.size, rfl, HP.out⟩
end Go.Proofs.YtmlacdfdpdkdaaaDoor.Vs
/- samePairs. -/
namespace Go.Proofs.YtmlacdfdpdkdaaaDoor.Vs
open Go.RowKit Go.Sort
set_option linter.unusedVariables false

def eqP (x y : T2) : Bool := decide (x = y)
theorem run_nePair (x y : T2) (w : World) : (binOp .neq 40 (.agg #[.string x.1, .string x.2]) (.agg #[.string y.1, .string y.2])).run Tryd.prog w = .ok (.bool (!eqP x y)) w := by
  obtain ⟨a, b⟩ := x
  obtain ⟨c, d⟩ := y
  by_cases h1 : a = c
  · by_cases h2 : b = d
    · subst h1 h2; simp [eqP, go_sem, Tryd.underlying40]
    · have q2 := toList_beq' (decide_eq_false h2)
      subst h1; simp [eqP, go_sem, Tryd.underlying40, h2, q2]
  · have q1 := toList_beq' (decide_eq_false h1)
    simp [eqP, go_sem, Tryd.underlying40, h1, q1]
/-- the first k are alike -/
def allP (xs ys : Prs) (k : Nat) : Bool := allB (fun i => eqP (nth2 xs i) (nth2 ys i)) k
theorem allP_eq {xs ys : Prs} (h : xs.length = ys.length) (ha : allP xs ys xs.length = true) : xs = ys := by
  have hi : ∀ n i, i < n → allB (fun i => eqP (nth2 xs i) (nth2 ys i)) n = true → nth2 xs i = nth2 ys i := by
    intro n
    induction n with
    | zero => intro i hi; omega
    | succ n ih =>
      intro i hi ha
      rw [allB, Bool.and_eq_true] at ha
      by_cases e : i = n
      · subst e; simpa [eqP] using ha.2
      · exact ih i (by omega) ha.1
  apply List.ext_getElem h
  intro i h1 h2
  have := hi _ i h1 ha
  simpa [nth2, h1, h2] using this
set_option maxHeartbeats 1000000 in
theorem samePairs_is {a b : Option Addr} {c d : Nat} {xs ys : Prs} {w : World} {u : Bool} (hu : decide (xs = ys) = u) (h : Row2 w a xs) (k : Row2 w b ys) (hl : xs.length ≤ 1152921504606846976) (hl2 : ys.length ≤ 1152921504606846976) :
    Calls Tryd.prog 21 #[.slice a xs.length c, .slice b ys.length d] w fun e w' => e = .returned (.bool u) ∧ Below w.heap.size w w' := by
  subst hu
  by_cases hne : xs.length = ys.length
  · have q0 : ((xs.length : Int) != (ys.length : Int)) = false := by simp [hne]
    obtain ⟨n, hn⟩ : ∃ n, n = xs.length := ⟨_, rfl⟩
    have hn2 : n = ys.length := hn.trans hne
    have HA := hid (show _ ∧ _ ∧ _ ∧ _ from ⟨h, k, hn, hn2⟩)
    rw [← hn, ← hn2] at q0
    rw [← hn] at hl ⊢
    rw [← hn2]
    clear h k hn hn2 hne hl2
    go_enter Tryd.func21, Tryd.ntmps21
    go_wp2_with fail
    go_loopg [5] n (fun g s5 wr => ∃ i : Nat, i ≤ n ∧ g = n - i ∧ s5 = .int .i64 i ∧ Hid (Below w.heap.size w wr) ∧ Hid (allP xs ys i = true))
    case atStart => exact ⟨0, by omega, by omega, rfl, Below.refl _ _, rfl⟩
    case round =>
      obtain ⟨i, hi, rfl, rfl, HB, HP⟩ := hrel
      by_cases hlt : i < n
      · obtain ⟨ba, oa, ea, a0, a1⟩ := (HA.out.1.later HB.out) i (by have := HA.out.2.2.1; omega)
        obtain ⟨bb, ob, eb, b0, b1⟩ := (HA.out.2.1.later HB.out) i (by have := HA.out.2.2.2; omega)
        subst ea eb
        obtain ⟨x, hx⟩ : ∃ x, x = nth2 xs i := ⟨_, rfl⟩
        obtain ⟨y, hy⟩ : ∃ y, y = nth2 ys i := ⟨_, rfl⟩
        rw [← hx] at a0 a1
        rw [← hy] at b0 b1
        obtain ⟨u, hu⟩ : ∃ u, eqP x y = u := ⟨_, rfl⟩
        have HU : Hid (eqP (nth2 xs i) (nth2 ys i) = u) := by show _ = _; rw [← hx, ← hy]; exact hu
        have hrun := fun w => run_nePair x y w
        rw [hu] at hrun
        have ka0 := cell_regrown a0; have ka1 := cell_regrown a1; have kb0 := cell_regrown b0; have kb1 := cell_regrown b1
        clear hx hy hu
        obtain ⟨x1, x2⟩ := x
        obtain ⟨y1, y2⟩ := y
        simp only at hrun a0 a1 b0 b1 ka0 ka1 kb0 kb1
        cases u with
        | true =>
          go_wp2_with fail
          go_quiet (fail)
          go_wp2_with fail
          go_roundg (n - (i + 1))
          case measure => omega
          case rel => exact ⟨i + 1, by omega, rfl, by go_num, Below.drewN HB.out _, allB_yes HP.out HU.out⟩
        | false =>
          have HE : Hid (decide (xs = ys) = false) := decide_eq_false fun e => by have := HU.out; rw [e] at this; simp [eqP] at this
          go_wp2_with fail
          go_quiet (fail)
          go_wp2_with fail
          go_ret
          exact ⟨ret_bool (by rw [HE.out]), Below.drewN HB.out _⟩
      · obtain rfl : i = n := by omega
        have HE : Hid (xs = ys) := allP_eq (HA.out.2.2.1.symm.trans HA.out.2.2.2) (by rw [← HA.out.2.2.1]; exact HP.out)
        go_wp2_with fail
        go_ret
        exact ⟨ret_bool (by rw [HE.out]; simp), HB.out⟩
  · have q0 : ((xs.length : Int) != (ys.length : Int)) = true := by simp; omega
    have HE : Hid (decide (xs = ys) = false) := decide_eq_false fun e => hne (by rw [e])
    clear hne
    go_enter Tryd.func21, Tryd.ntmps21
    go_wp2_with fail
    go_ret
    exact ⟨ret_bool (by rw [HE.out]), by (repeat (first | exact Below.refl _ _ | assumption | refine Below.drew ?_ | refine Below.al ?_ _ | refine Below.setCell ?_ (by first | exact Nat.le_refl _ | (simp; omega) | (simp; done)) _ | refine Below.on ?_ (by assumption)))⟩
end Go.Proofs.YtmlacdfdpdkdaaaDoor.Vs
/- sameVersions. -/
namespace Go.Proofs.YtmlacdfdpdkdaaaDoor.Vs
open Go.RowKit Go.Sort
set_option linter.unusedVariables false

def eqK (x y : Kv) : Bool := decide (x.1 = y.1) && decide (x.2.s.a = y.2.s.a) && decide (x.2.s.b = y.2.s.b) && decide (x.2.s.c = y.2.s.c) && (x.2.del == y.2.del) && decide (x.2.val = y.2.val)
theorem eqK_iff (x y : Kv) : eqK x y = true ↔ x = y := by
  obtain ⟨k, ⟨a, b, c⟩, d, v⟩ := x
  obtain ⟨k', ⟨a', b', c'⟩, d', v'⟩ := y
  simp [eqK, Prod.ext_iff]
  constructor
  · rintro ⟨⟨⟨⟨⟨h1, h2⟩, h3⟩, h4⟩, h5⟩, h6⟩; exact ⟨h1, ⟨h2, h3, h4⟩, h5, h6⟩
  · rintro ⟨h1, ⟨h2, h3, h4⟩, h5, h6⟩; exact ⟨⟨⟨⟨⟨h1, h2⟩, h3⟩, h4⟩, h5⟩, h6⟩
theorem run_neVer (x y : Kv) (w : World) : (binOp .neq 76 (vv x.1 x.2) (vv y.1 y.2)).run Tryd.prog w = .ok (.bool (!eqK x y)) w := by
  obtain ⟨k, ⟨a, b, c⟩, d, v⟩ := x
  obtain ⟨k', ⟨a', b', c'⟩, d', v'⟩ := y
  by_cases h1 : k = k'
  · by_cases h2 : a = a'
    · by_cases h3 : b = b'
      · by_cases h4 : c = c'
        · by_cases h5 : d = d'
          · by_cases h6 : v = v'
            · subst h1 h2 h3 h4 h5 h6; simp [eqK, go_sem, Tryd.underlying76]
            · have q6 := toList_beq' (decide_eq_false h6)
              subst h1 h2 h3 h4 h5; simp [eqK, go_sem, Tryd.underlying76, h6, q6]
          · subst h1 h2 h3 h4; simp [eqK, go_sem, Tryd.underlying76, h5]
        · subst h1 h2 h3; simp [eqK, go_sem, Tryd.underlying76, h4]
      · subst h1 h2; simp [eqK, go_sem, Tryd.underlying76, h3]
    · subst h1; simp [eqK, go_sem, Tryd.underlying76, h2]
  · have q1 := toList_beq' (decide_eq_false h1)
    simp [eqK, go_sem, Tryd.underlying76, h1, q1]
/-- the first k are alike -/
def allK (xs ys : List Kv) (k : Nat) : Bool := allB (fun i => eqK (nthK xs i) (nthK ys i)) k
theorem allK_eq {xs ys : List Kv} (h : xs.length = ys.length) (ha : allK xs ys xs.length = true) : xs = ys := by
  have hi : ∀ n i, i < n → allB (fun i => eqK (nthK xs i) (nthK ys i)) n = true → nthK xs i = nthK ys i := by
    intro n
    induction n with
    | zero => intro i hi; omega
    | succ n ih =>
      intro i hi ha
      rw [allB, Bool.and_eq_true] at ha
      by_cases e : i = n
      · subst e; exact (eqK_iff _ _).1 ha.2
      · exact ih i (by omega) ha.1
  apply List.ext_getElem h
  intro i h1 h2
  have := hi _ i h1 ha
  simpa [nthK, h1, h2] using this
set_option maxHeartbeats 1000000 in
theorem sameV_is {a b : Option Addr} {c d : Nat} {xs ys : List Kv} {w : World} {u : Bool} (hu : u = true ↔ xs = ys) (h : RowV w a xs) (k : RowV w b ys) (hl : xs.length ≤ 1152921504606846976) (hl2 : ys.length ≤ 1152921504606846976) :
    Calls Tryd.prog 30 #[.slice a xs.length c, .slice b ys.length d] w fun e w' => e = .returned (.bool u) ∧ Below w.heap.size w w' := by
  have HU := hid hu
  clear hu
  by_cases hne : xs.length = ys.length
  · have q0 : ((xs.length : Int) != (ys.length : Int)) = false := by simp [hne]
    obtain ⟨n, hn⟩ : ∃ n, n = xs.length := ⟨_, rfl⟩
    have hn2 : n = ys.length := hn.trans hne
    have HA := hid (show _ ∧ _ ∧ _ ∧ _ from ⟨h, k, hn, hn2⟩)
    rw [← hn, ← hn2] at q0
    rw [← hn] at hl ⊢
    rw [← hn2]
    clear h k hn hn2 hne hl2
    go_enter Tryd.func30, Tryd.ntmps30
    go_wp2_with fail
    go_loopg [5] n (fun g s5 wr => ∃ i : Nat, i ≤ n ∧ g = n - i ∧ s5 = .int .i64 i ∧ Hid (Below w.heap.size w wr) ∧ Hid (allK xs ys i = true))
    case atStart => exact ⟨0, by omega, by omega, rfl, Below.refl _ _, rfl⟩
    case round =>
      obtain ⟨i, hi, rfl, rfl, HB, HP⟩ := hrel
      by_cases hlt : i < n
      · obtain ⟨ba, oa, ea, va⟩ := (HA.out.1.later HB.out) i (by have := HA.out.2.2.1; omega)
        obtain ⟨bb, ob, eb, vb⟩ := (HA.out.2.1.later HB.out) i (by have := HA.out.2.2.2; omega)
        subst ea eb
        obtain ⟨x, hx⟩ : ∃ x, x = nthK xs i := ⟨_, rfl⟩
        obtain ⟨y, hy⟩ : ∃ y, y = nthK ys i := ⟨_, rfl⟩
        rw [← hx] at va
        rw [← hy] at vb
        obtain ⟨q, hu⟩ : ∃ q, eqK x y = q := ⟨_, rfl⟩
        have HV : Hid (eqK (nthK xs i) (nthK ys i) = q) := by show _ = _; rw [← hx, ← hy]; exact hu
        have hrun := fun w => run_neVer x y w
        rw [hu] at hrun
        clear hx hy hu
        obtain ⟨x1, x2, x3, x4⟩ := x
        obtain ⟨y1, y2, y3, y4⟩ := y
        obtain ⟨a0, a1, a2, a3, a4, a5⟩ := va
        obtain ⟨b0, b1, b2, b3, b4, b5⟩ := vb
        simp only at hrun a0 a1 a2 a3 a4 a5 b0 b1 b2 b3 b4 b5
        have ka0 := cell_regrown a0; have ka1 := cell_regrown a1; have ka2 := cell_regrown a2; have ka3 := cell_regrown a3; have ka4 := cell_regrown a4; have ka5 := cell_regrown a5
        have kb0 := cell_regrown b0; have kb1 := cell_regrown b1; have kb2 := cell_regrown b2; have kb3 := cell_regrown b3; have kb4 := cell_regrown b4; have kb5 := cell_regrown b5
        cases q with
        | true =>
          go_wp2_with fail
          go_quiet (fail)
          go_wp2_with fail
          go_roundg (n - (i + 1))
          case measure => omega
          case rel => exact ⟨i + 1, by omega, rfl, by go_num, Below.drewN HB.out _, allB_yes HP.out HV.out⟩
        | false =>
          have HE : Hid (u = false) := by
            show _ = _
            cases hu : u with
            | false => rfl
            | true => have := HV.out; rw [HU.out.1 hu] at this; rw [(eqK_iff _ _).2 rfl] at this; cases this
          go_wp2_with fail
          go_quiet (fail)
          go_wp2_with fail
          go_ret
          exact ⟨ret_bool (by rw [HE.out]), Below.drewN HB.out _⟩
      · obtain rfl : i = n := by omega
        have HE : Hid (u = true) := HU.out.2 (allK_eq (HA.out.2.2.1.symm.trans HA.out.2.2.2) (by rw [← HA.out.2.2.1]; exact HP.out))
        go_wp2_with fail
        go_ret
        exact ⟨ret_bool (by rw [HE.out]), HB.out⟩
  · have q0 : ((xs.length : Int) != (ys.length : Int)) = true := by simp; omega
    have HE : Hid (u = false) := by
      show _ = _
      cases hu : u with
      | false => rfl
      | true => exact absurd (congrArg List.length (HU.out.1 hu)) hne
    clear hne
    go_enter Tryd.func30, Tryd.ntmps30
    go_wp2_with fail
    go_ret
    exact ⟨ret_bool (by rw [HE.out]), by (repeat (first | exact Below.refl _ _ | assumption | refine Below.drew ?_ | refine Below.al ?_ _ | refine Below.setCell ?_ (by first | exact Nat.le_refl _ | (simp; omega) | (simp; done)) _ | refine Below.on ?_ (by assumption)))⟩
end Go.Proofs.YtmlacdfdpdkdaaaDoor.Vs
