import Derived.Test.YtbgmbbmnnfmbpabQOwn
import Derived.Laws.MakeOwn
namespace Go.Proofs.Ytbgmbbmnnfmbpab
open Go.RowKit Go.Sort
set_option linter.unusedVariables false

/-- n spans in block g -/
def Cells2 (w : World) (g : Nat) (f : Nat → T2) (n : Nat) : Prop := ∀ i, i < n → w.cell? ⟨g, i * 2, none⟩ = some (.string (f i).1) ∧ w.cell? ⟨g, i * 2 + 1, none⟩ = some (.string (f i).2)
/-- n writes in block g -/
def CellsW (w : World) (g : Nat) (f : Nat → Wr) (n : Nat) : Prop := ∀ i, i < n → w.cell? ⟨g, i * 3, none⟩ = some (.string (f i).key) ∧ w.cell? ⟨g, i * 3 + 1, none⟩ = some (.bool (f i).del) ∧ w.cell? ⟨g, i * 3 + 2, none⟩ = some (.string (f i).val)
theorem Cells2.later {w w' : World} {g n : Nat} {f : Nat → T2} (h : Cells2 w g f n) (hb : Below w.heap.size w w') : Cells2 w' g f n := fun i hi => ⟨cell_later hb (h i hi).1, cell_later hb (h i hi).2⟩
theorem CellsW.later {w w' : World} {g n : Nat} {f : Nat → Wr} (h : CellsW w g f n) (hb : Below w.heap.size w w') : CellsW w' g f n := fun i hi => ⟨cell_later hb (h i hi).1, cell_later hb (h i hi).2.1, cell_later hb (h i hi).2.2⟩
theorem Cells2.onl {w w' : World} {G : Nat → Prop} {g n : Nat} {f : Nat → T2} (h : Cells2 w g f n) (ho : Onl G w w') (hg : ¬ G g) : Cells2 w' g f n := fun i hi => ⟨ho.cell hg (h i hi).1, ho.cell hg (h i hi).2⟩
theorem CellsW.onl {w w' : World} {G : Nat → Prop} {g n : Nat} {f : Nat → Wr} (h : CellsW w g f n) (ho : Onl G w w') (hg : ¬ G g) : CellsW w' g f n := fun i hi => ⟨ho.cell hg (h i hi).1, ho.cell hg (h i hi).2.1, ho.cell hg (h i hi).2.2⟩
def put {α : Type} (f : Nat → α) (k : Nat) (y : α) : Nat → α := fun i => if i = k then y else f i
theorem put_same {α : Type} (f : Nat → α) (k : Nat) (y : α) : put f k y k = y := by simp [put]
theorem put_other {α : Type} (f : Nat → α) {k i : Nat} (y : α) (h : i ≠ k) : put f k y i = f i := by simp [put, h]
abbrev set2 (w : World) (g k : Nat) (y : T2) : World := (w.setCell ⟨g, k * 2, none⟩ (.string y.1)).setCell ⟨g, k * 2 + 1, none⟩ (.string y.2)
abbrev setW (w : World) (g k : Nat) (y : Wr) : World := ((w.setCell ⟨g, k * 3, none⟩ (.string y.key)).setCell ⟨g, k * 3 + 1, none⟩ (.bool y.del)).setCell ⟨g, k * 3 + 2, none⟩ (.string y.val)
theorem Cells2.put {w : World} {g n k : Nat} {f : Nat → T2} (h : Cells2 w g f n) (hk : k < n) (y : T2) : Cells2 (set2 w g k y) g (put f k y) n := by
  intro i hi
  by_cases e : i = k
  · subst e
    rw [put_same]
    refine ⟨cell_setc (by simp) (World.cell?_setCell_same _ _ _ (h i hi).1), World.cell?_setCell_same _ _ _ (cell_setc (by simp) (h i hi).2)⟩
  · rw [put_other _ _ e]
    exact ⟨cell_setc (by simp only [ne_eq, Addr.mk.injEq]; omega) (cell_setc (by simp only [ne_eq, Addr.mk.injEq]; omega) (h i hi).1), cell_setc (by simp only [ne_eq, Addr.mk.injEq]; omega) (cell_setc (by simp only [ne_eq, Addr.mk.injEq]; omega) (h i hi).2)⟩
theorem CellsW.put {w : World} {g n k : Nat} {f : Nat → Wr} (h : CellsW w g f n) (hk : k < n) (y : Wr) : CellsW (setW w g k y) g (put f k y) n := by
  intro i hi
  by_cases e : i = k
  · subst e
    rw [put_same]
    refine ⟨cell_setc (by simp) (cell_setc (by simp) (World.cell?_setCell_same _ _ _ (h i hi).1)), cell_setc (by simp) (World.cell?_setCell_same _ _ _ (cell_setc (by simp) (h i hi).2.1)), World.cell?_setCell_same _ _ _ (cell_setc (by simp) (cell_setc (by simp) (h i hi).2.2))⟩
  · rw [put_other _ _ e]
    exact ⟨cell_setc (by simp only [ne_eq, Addr.mk.injEq]; omega) (cell_setc (by simp only [ne_eq, Addr.mk.injEq]; omega) (cell_setc (by simp only [ne_eq, Addr.mk.injEq]; omega) (h i hi).1)), cell_setc (by simp only [ne_eq, Addr.mk.injEq]; omega) (cell_setc (by simp only [ne_eq, Addr.mk.injEq]; omega) (cell_setc (by simp only [ne_eq, Addr.mk.injEq]; omega) (h i hi).2.1)), cell_setc (by simp only [ne_eq, Addr.mk.injEq]; omega) (cell_setc (by simp only [ne_eq, Addr.mk.injEq]; omega) (cell_setc (by simp only [ne_eq, Addr.mk.injEq]; omega) (h i hi).2.2))⟩
theorem onl_set2 (w : World) (g k : Nat) (y : T2) : Onl (fun b => b = g) w (set2 w g k y) := ((Onl.refl (fun b => b = g) w).set (p := g) rfl _ _).set (p := g) rfl _ _
theorem onl_setW (w : World) (g k : Nat) (y : Wr) : Onl (fun b => b = g) w (setW w g k y) := (((Onl.refl (fun b => b = g) w).set (p := g) rfl _ _).set (p := g) rfl _ _).set (p := g) rfl _ _

theorem Try.infoSp : (Try.prog.info? 38).map (fun i => (i.zero, i.size, i.bytes)) = some (some (.agg #[.string ⟨#[]⟩, .string ⟨#[]⟩]), 2, 32) := by kernel_rfl
theorem Try.infoWr : (Try.prog.info? 70).map (fun i => (i.zero, i.size, i.bytes)) = some (some (.agg #[.string ⟨#[]⟩, .bool false, .string ⟨#[]⟩]), 3, 40) := by kernel_rfl
theorem info_of {P : Program} {t : TypeId} {z : Value} {n m : Nat} (h : (P.info? t).map (fun i => (i.zero, i.size, i.bytes)) = some (some z, n, m)) : ∃ i, P.info? t = some i ∧ i.zero = some z ∧ i.size = n ∧ i.bytes = m := by
  obtain ⟨i, hi, he⟩ := Option.map_eq_some_iff.1 h
  simp only [Prod.mk.injEq] at he
  exact ⟨i, hi, he.1, he.2.1, he.2.2⟩
theorem make_sp (w : World) (n : Nat) (h : n ≤ 8796093022208) : (Instr.makeSlice 33 (.int .i64 (n : Int)) (.int .i64 (n : Int))).run Try.prog w = .ok (.slice (some ⟨w.heap.size, 0, none⟩) n n) (w.alloc (.cells (madeCells (Value.agg #[.string ⟨#[]⟩, .string ⟨#[]⟩]).cells (n * 2)) 38)) := by
  obtain ⟨i0, hi, hz0, hz1, hz2⟩ := info_of Try.infoSp
  have := run_make (P := Try.prog) w 33 38 i0 _ Try.underlying33 hi hz0 .i64 .i64 n n (by omega) (by omega) (by rw [hz2]; omega) (by omega)
  rw [this, hz1]
  simp
theorem make_wr (w : World) (n : Nat) (h : n ≤ 7036874417766) : (Instr.makeSlice 34 (.int .i64 (n : Int)) (.int .i64 (n : Int))).run Try.prog w = .ok (.slice (some ⟨w.heap.size, 0, none⟩) n n) (w.alloc (.cells (madeCells (Value.agg #[.string ⟨#[]⟩, .bool false, .string ⟨#[]⟩]).cells (n * 3)) 70)) := by
  obtain ⟨i0, hi, hz0, hz1, hz2⟩ := info_of Try.infoWr
  have := run_make (P := Try.prog) w 34 70 i0 _ Try.underlying34 hi hz0 .i64 .i64 n n (by omega) (by omega) (by rw [hz2]; omega) (by omega)
  rw [this, hz1]
  simp
theorem made2 (w : World) (n : Nat) : Cells2 (w.alloc (.cells (madeCells (Value.agg #[.string ⟨#[]⟩, .string ⟨#[]⟩]).cells (n * 2)) 38)) w.heap.size (fun _ => (⟨#[]⟩, ⟨#[]⟩)) n := by
  intro i hi
  have h1 : i * 2 < n * 2 := by omega
  have h2 : i * 2 + 1 < n * 2 := by omega
  constructor
  · simp [go_sem, madeCells, h1]
  · simp [go_sem, madeCells, h2, Nat.add_mod]
theorem madeW (w : World) (n : Nat) : CellsW (w.alloc (.cells (madeCells (Value.agg #[.string ⟨#[]⟩, .bool false, .string ⟨#[]⟩]).cells (n * 3)) 70)) w.heap.size (fun _ => ⟨⟨#[]⟩, false, ⟨#[]⟩⟩) n := by
  intro i hi
  have h1 : i * 3 < n * 3 := by omega
  have h2 : i * 3 + 1 < n * 3 := by omega
  have h3 : i * 3 + 2 < n * 3 := by omega
  refine ⟨?_, ?_, ?_⟩
  · simp [go_sem, madeCells, h1]
  · simp [go_sem, madeCells, h2, Nat.add_mod]
  · simp [go_sem, madeCells, h3, Nat.add_mod]

/-- the mark behind a list -/
def spareS : ByteArray := ⟨#[115, 112, 97, 114, 101]⟩
/-- a list of spans in a block of its own, the mark behind it -/
structure Room2 (w wr : World) (g : Nat) (xs : List T2) : Prop where
  cells : ∃ f, Cells2 wr g f (xs.length + 1) ∧ (∀ i, i < xs.length → f i = nth2 xs i) ∧ f xs.length = (spareS, ⟨#[]⟩)
  loose : Loose wr g
  low : w.heap.size ≤ g
  lt : g < wr.heap.size
  bl : Below w.heap.size w wr

set_option maxHeartbeats 4000000 in
theorem roomReads_is {a : Option Addr} {c : Nat} {xs : List T2} {w : World} (h : Row2 w a xs) (hl : xs.length + 1 ≤ 8796093022208) :
    Calls Try.prog 31 #[.slice a xs.length c] w fun e w' => ∃ g, e = .returned (.slice (some ⟨g, 0, none⟩) xs.length (xs.length + 1)) ∧ Room2 w w' g xs := by
  have hmk := make_sp w (xs.length + 1) hl
  rw [show ((xs.length + 1 : Nat) : Int) = (xs.length : Int) + 1 by omega] at hmk
  obtain ⟨wa, hwa⟩ : ∃ wa, wa = w.alloc (.cells (madeCells (Value.agg #[.string ⟨#[]⟩, .string ⟨#[]⟩]).cells ((xs.length + 1) * 2)) 38) := ⟨_, rfl⟩
  have hc := made2 w (xs.length + 1)
  have hba : Below w.heap.size w wa := by rw [hwa]; exact Below.al (Below.refl _ _) _
  have hlo : Loose wa w.heap.size := by rw [hwa]; intro o; simp [go_sem]
  have hlt : w.heap.size < wa.heap.size := by rw [hwa]; simp
  rw [← hwa] at hmk hc
  obtain ⟨g, hg⟩ : ∃ g, g = w.heap.size := ⟨_, rfl⟩
  rw [← hg] at hmk hc hlo hlt
  have HC : Hid (Cells2 wa g (fun _ => (⟨#[]⟩, ⟨#[]⟩)) (xs.length + 1) ∧ Loose wa g ∧ g < wa.heap.size ∧ Below w.heap.size w wa ∧ g = w.heap.size) := ⟨hc, hlo, hlt, hba, hg⟩
  have HX := hid h
  clear hwa hc hba hlo hlt h hg
  go_enter Try.func31, Try.ntmps31
  go_wp2_with fail
  go_loopg [4] xs.length (fun gg s4 wr => ∃ k : Nat, k ≤ xs.length ∧ gg = xs.length - k ∧ s4 = .int .i64 k ∧ ∃ f, Hid (Cells2 wr g f (xs.length + 1) ∧ (∀ i, i < k → f i = nth2 xs i) ∧ Loose wr g ∧ g < wr.heap.size ∧ Below w.heap.size w wr ∧ g = w.heap.size))
  case atStart => exact ⟨0, by omega, by omega, rfl, _, ⟨HC.out.1, fun i hi => by omega, HC.out.2⟩⟩
  case round =>
    obtain ⟨k, hk, rfl, rfl, f, HK⟩ := hrel
    clear HC hmk
    have d0 := (HK.out.1 k (by omega)).1
    have d1 := (HK.out.1 k (by omega)).2
    have l0 := HK.out.2.2.1 (k * 2)
    have l1 := HK.out.2.2.1 (k * 2 + 1)
    by_cases hlt : k < xs.length
    · obtain ⟨b, off, rfl, c0, c1⟩ := (HX.out.later HK.out.2.2.2.2.1) k hlt
      obtain ⟨x, hx⟩ : ∃ x, x = nth2 xs k := ⟨_, rfl⟩
      rw [← hx] at c0 c1
      have HN := hid hx
      have HP : Hid (Cells2 (set2 wr g k x) g (put f k x) (xs.length + 1) ∧ (∀ i, i < k + 1 → put f k x i = nth2 xs i) ∧ Loose (set2 wr g k x) g ∧ g < (set2 wr g k x).heap.size ∧ Below w.heap.size w (set2 wr g k x) ∧ g = w.heap.size) := by
        refine ⟨HK.out.1.put (by omega) x, fun i hi => ?_, (HK.out.2.2.1.setc _ _).setc _ _, by simpa using HK.out.2.2.2.1, HK.out.2.2.2.2.1.trans ((onl_set2 wr g k x).below (fun b e => by rw [e, HK.out.2.2.2.2.2]; exact Nat.le_refl _) HK.out.2.2.2.2.1.size), HK.out.2.2.2.2.2⟩
        by_cases e : i = k
        · subst e; rw [put_same, HN.out]
        · rw [put_other _ _ e]; exact HK.out.2.1 i (by omega)
      clear hx
      go_wp2_with fail
      go_roundg (xs.length - (k + 1))
      case measure => omega
      case rel => exact ⟨k + 1, by omega, rfl, by go_num, _, HP⟩
    · obtain rfl : k = xs.length := by omega
      have HP : Hid (Room2 w (set2 wr g xs.length (spareS, ⟨#[]⟩)) g xs) := by
        refine ⟨⟨_, HK.out.1.put (by omega) (spareS, ⟨#[]⟩), fun i hi => ?_, put_same _ _ _⟩, (HK.out.2.2.1.setc _ _).setc _ _, by rw [HK.out.2.2.2.2.2]; exact Nat.le_refl _, by simpa using HK.out.2.2.2.1, HK.out.2.2.2.2.1.trans ((onl_set2 wr g xs.length _).below (fun b e => by rw [e, HK.out.2.2.2.2.2]; exact Nat.le_refl _) HK.out.2.2.2.2.1.size)⟩
        rw [put_other _ _ (by omega)]; exact HK.out.2.1 i hi
      go_wp2_with fail
      go_ret
      exact ⟨g, rfl, HP.out⟩

/-- a list of writes in a block of its own, the mark behind it -/
structure RoomW (w wr : World) (g : Nat) (xs : List Wr) : Prop where
  cells : ∃ f, CellsW wr g f (xs.length + 1) ∧ (∀ i, i < xs.length → f i = nthW xs i) ∧ f xs.length = ⟨spareS, false, ⟨#[]⟩⟩
  loose : Loose wr g
  low : w.heap.size ≤ g
  lt : g < wr.heap.size
  bl : Below w.heap.size w wr

set_option maxHeartbeats 4000000 in
theorem roomWrites_is {a : Option Addr} {c : Nat} {xs : List Wr} {w : World} (h : RowW w a xs) (hl : xs.length + 1 ≤ 7036874417766) :
    Calls Try.prog 32 #[.slice a xs.length c] w fun e w' => ∃ g, e = .returned (.slice (some ⟨g, 0, none⟩) xs.length (xs.length + 1)) ∧ RoomW w w' g xs := by
  have hmk := make_wr w (xs.length + 1) hl
  rw [show ((xs.length + 1 : Nat) : Int) = (xs.length : Int) + 1 by omega] at hmk
  obtain ⟨wa, hwa⟩ : ∃ wa, wa = w.alloc (.cells (madeCells (Value.agg #[.string ⟨#[]⟩, .bool false, .string ⟨#[]⟩]).cells ((xs.length + 1) * 3)) 70) := ⟨_, rfl⟩
  have hc := madeW w (xs.length + 1)
  have hba : Below w.heap.size w wa := by rw [hwa]; exact Below.al (Below.refl _ _) _
  have hlo : Loose wa w.heap.size := by rw [hwa]; intro o; simp [go_sem]
  have hlt : w.heap.size < wa.heap.size := by rw [hwa]; simp
  rw [← hwa] at hmk hc
  obtain ⟨g, hg⟩ : ∃ g, g = w.heap.size := ⟨_, rfl⟩
  rw [← hg] at hmk hc hlo hlt
  have HC : Hid (CellsW wa g (fun _ => ⟨⟨#[]⟩, false, ⟨#[]⟩⟩) (xs.length + 1) ∧ Loose wa g ∧ g < wa.heap.size ∧ Below w.heap.size w wa ∧ g = w.heap.size) := ⟨hc, hlo, hlt, hba, hg⟩
  have HX := hid h
  clear hwa hc hba hlo hlt h hg
  go_enter Try.func32, Try.ntmps32
  go_wp2_with fail
  go_loopg [4] xs.length (fun gg s4 wr => ∃ k : Nat, k ≤ xs.length ∧ gg = xs.length - k ∧ s4 = .int .i64 k ∧ ∃ f, Hid (CellsW wr g f (xs.length + 1) ∧ (∀ i, i < k → f i = nthW xs i) ∧ Loose wr g ∧ g < wr.heap.size ∧ Below w.heap.size w wr ∧ g = w.heap.size))
  case atStart => exact ⟨0, by omega, by omega, rfl, _, ⟨HC.out.1, fun i hi => by omega, HC.out.2⟩⟩
  case round =>
    obtain ⟨k, hk, rfl, rfl, f, HK⟩ := hrel
    clear HC hmk
    have d0 := (HK.out.1 k (by omega)).1
    have d1 := (HK.out.1 k (by omega)).2.1
    have d2 := (HK.out.1 k (by omega)).2.2
    have l0 := HK.out.2.2.1 (k * 3)
    have l1 := HK.out.2.2.1 (k * 3 + 1)
    have l2 := HK.out.2.2.1 (k * 3 + 2)
    by_cases hlt : k < xs.length
    · obtain ⟨b, off, rfl, c0, c1, c2⟩ := (HX.out.later HK.out.2.2.2.2.1) k hlt
      obtain ⟨x, hx⟩ : ∃ x, x = nthW xs k := ⟨_, rfl⟩
      rw [← hx] at c0 c1 c2
      have HN := hid hx
      have HP : Hid (CellsW (setW wr g k x) g (put f k x) (xs.length + 1) ∧ (∀ i, i < k + 1 → put f k x i = nthW xs i) ∧ Loose (setW wr g k x) g ∧ g < (setW wr g k x).heap.size ∧ Below w.heap.size w (setW wr g k x) ∧ g = w.heap.size) := by
        refine ⟨HK.out.1.put (by omega) x, fun i hi => ?_, ((HK.out.2.2.1.setc _ _).setc _ _).setc _ _, by simpa using HK.out.2.2.2.1, HK.out.2.2.2.2.1.trans ((onl_setW wr g k x).below (fun b e => by rw [e, HK.out.2.2.2.2.2]; exact Nat.le_refl _) HK.out.2.2.2.2.1.size), HK.out.2.2.2.2.2⟩
        by_cases e : i = k
        · subst e; rw [put_same, HN.out]
        · rw [put_other _ _ e]; exact HK.out.2.1 i (by omega)
      clear hx
      go_wp2_with fail
      go_roundg (xs.length - (k + 1))
      case measure => omega
      case rel => exact ⟨k + 1, by omega, rfl, by go_num, _, HP⟩
    · obtain rfl : k = xs.length := by omega
      have HP : Hid (RoomW w (setW wr g xs.length ⟨spareS, false, ⟨#[]⟩⟩) g xs) := by
        refine ⟨⟨_, HK.out.1.put (by omega) ⟨spareS, false, ⟨#[]⟩⟩, fun i hi => ?_, put_same _ _ _⟩, ((HK.out.2.2.1.setc _ _).setc _ _).setc _ _, by rw [HK.out.2.2.2.2.2]; exact Nat.le_refl _, by simpa using HK.out.2.2.2.1, HK.out.2.2.2.2.1.trans ((onl_setW wr g xs.length _).below (fun b e => by rw [e, HK.out.2.2.2.2.2]; exact Nat.le_refl _) HK.out.2.2.2.2.1.size)⟩
        rw [put_other _ _ (by omega)]; exact HK.out.2.1 i hi
      go_wp2_with fail
      go_ret
      exact ⟨g, rfl, HP.out⟩

end Go.Proofs.Ytbgmbbmnnfmbpab
