import Derived.Laws.MakeOwn
import Derived.Test.YtneojeidpfjpbaaGreatDoorB26
set_option linter.unusedVariables false
set_option maxHeartbeats 8000000
namespace Go.Proofs.YtneojeidpfjpbaaGreatDoor
open Go.RowKit Go.Sort
def Cells2 (w : World) (g : Nat) (f : Nat → T2) (n : Nat) : Prop := ∀ i, i < n → w.cell? ⟨g, i * 2, none⟩ = some (.string (f i).1) ∧ w.cell? ⟨g, i * 2 + 1, none⟩ = some (.string (f i).2)
def CellsW (w : World) (g : Nat) (f : Nat → Wr) (n : Nat) : Prop := ∀ i, i < n → w.cell? ⟨g, i * 3, none⟩ = some (.string (f i).key) ∧ w.cell? ⟨g, i * 3 + 1, none⟩ = some (.bool (f i).del) ∧ w.cell? ⟨g, i * 3 + 2, none⟩ = some (.string (f i).val)
theorem Cells2.later {w w' : World} {g n : Nat} {f : Nat → T2} (h : Cells2 w g f n) (hb : Below w.heap.size w w') : Cells2 w' g f n := fun i hi => ⟨cell_later hb (h i hi).1, cell_later hb (h i hi).2⟩
theorem Cells2.onl {w w' : World} {G : Nat → Prop} {g n : Nat} {f : Nat → T2} (h : Cells2 w g f n) (ho : Onl G w w') (hg : ¬ G g) : Cells2 w' g f n := fun i hi => ⟨ho.cell hg (h i hi).1, ho.cell hg (h i hi).2⟩
theorem CellsW.onl {w w' : World} {G : Nat → Prop} {g n : Nat} {f : Nat → Wr} (h : CellsW w g f n) (ho : Onl G w w') (hg : ¬ G g) : CellsW w' g f n := fun i hi => ⟨ho.cell hg (h i hi).1, ho.cell hg (h i hi).2.1, ho.cell hg (h i hi).2.2⟩
def put {α : Type} (f : Nat → α) (k : Nat) (y : α) : Nat → α := fun i => if i = k then y else f i
theorem put_same {α : Type} (f : Nat → α) (k : Nat) (y : α) : put f k y k = y := by simp [put]
theorem put_other {α : Type} (f : Nat → α) {k i : Nat} (y : α) (h : i ≠ k) : put f k y i = f i := by simp [put, h]
abbrev set2 (w : World) (g k : Nat) (y : T2) : World := (w.setCell ⟨g, k * 2, none⟩ (.string y.1)).setCell ⟨g, k * 2 + 1, none⟩ (.string y.2)
abbrev setW (w : World) (g k : Nat) (y : Wr) : World := ((w.setCell ⟨g, k * 3, none⟩ (.string y.key)).setCell ⟨g, k * 3 + 1, none⟩ (.bool y.del)).setCell ⟨g, k * 3 + 2, none⟩ (.string y.val)
theorem Cells2.put {w : World} {g n k : Nat} {f : Nat → T2} (h : Cells2 w g f n) (hk : k < n) (y : T2) : Cells2 (set2 w g k y) g (put f k y) n := by
 intro i hi; by_cases e : i = k
 ·subst e; rw [put_same]; refine ⟨cell_setc (by simp) (World.cell?_setCell_same _ _ _ (h i hi).1), World.cell?_setCell_same _ _ _ (cell_setc (by simp) (h i hi).2)⟩
 ·rw [put_other _ _ e]; exact ⟨cell_setc (by simp only [ne_eq, Addr.mk.injEq]; omega) (cell_setc (by simp only [ne_eq, Addr.mk.injEq]; omega) (h i hi).1), cell_setc (by simp only [ne_eq, Addr.mk.injEq]; omega) (cell_setc (by simp only [ne_eq, Addr.mk.injEq]; omega) (h i hi).2)⟩
theorem CellsW.put {w : World} {g n k : Nat} {f : Nat → Wr} (h : CellsW w g f n) (hk : k < n) (y : Wr) : CellsW (setW w g k y) g (put f k y) n := by
 intro i hi; by_cases e : i = k
 ·subst e; rw [put_same]; refine ⟨cell_setc (by simp) (cell_setc (by simp) (World.cell?_setCell_same _ _ _ (h i hi).1)), cell_setc (by simp) (World.cell?_setCell_same _ _ _ (cell_setc (by simp) (h i hi).2.1)), World.cell?_setCell_same _ _ _ (cell_setc (by simp) (cell_setc (by simp) (h i hi).2.2))⟩
 ·rw [put_other _ _ e]; exact ⟨cell_setc (by simp only [ne_eq, Addr.mk.injEq]; omega) (cell_setc (by simp only [ne_eq, Addr.mk.injEq]; omega) (cell_setc (by simp only [ne_eq, Addr.mk.injEq]; omega) (h i hi).1)), cell_setc (by simp only [ne_eq, Addr.mk.injEq]; omega) (cell_setc (by simp only [ne_eq, Addr.mk.injEq]; omega) (cell_setc (by simp only [ne_eq, Addr.mk.injEq]; omega) (h i hi).2.1)), cell_setc (by simp only [ne_eq, Addr.mk.injEq]; omega) (cell_setc (by simp only [ne_eq, Addr.mk.injEq]; omega) (cell_setc (by simp only [ne_eq, Addr.mk.injEq]; omega) (h i hi).2.2))⟩
theorem onl_set2 (w : World) (g k : Nat) (y : T2) : Onl (fun b => b = g) w (set2 w g k y) := ((Onl.refl (fun b => b = g) w).set (p := g) rfl _ _).set (p := g) rfl _ _
theorem onl_setW (w : World) (g k : Nat) (y : Wr) : Onl (fun b => b = g) w (setW w g k y) := (((Onl.refl (fun b => b = g) w).set (p := g) rfl _ _).set (p := g) rfl _ _).set (p := g) rfl _ _
theorem Tryz.infoSp : (Tryz.prog.info? 25).map (fun i => (i.zero, i.size, i.bytes)) = some (some (.agg #[.string ⟨#[]⟩, .string ⟨#[]⟩]), 2, 32) := by kernel_rfl
theorem Tryz.infoWr : (Tryz.prog.info? 103).map (fun i => (i.zero, i.size, i.bytes)) = some (some (.agg #[.string ⟨#[]⟩, .bool false, .string ⟨#[]⟩]), 3, 40) := by kernel_rfl
theorem info_of {P : Program} {t : TypeId} {z : Value} {n m : Nat} (h : (P.info? t).map (fun i => (i.zero, i.size, i.bytes)) = some (some z, n, m)) : ∃ i, P.info? t = some i ∧ i.zero = some z ∧ i.size = n ∧ i.bytes = m := by
 obtain ⟨i, hi, he⟩ := Option.map_eq_some_iff.1 h; simp only [Prod.mk.injEq] at he; exact ⟨i, hi, he.1, he.2.1, he.2.2⟩
theorem make_sp (w : World) (n : Nat) (h : n ≤ 8796093022208) : (Instr.makeSlice 40 (.int .i64 (n : Int)) (.int .i64 (n : Int))).run Tryz.prog w = .ok (.slice (some ⟨w.heap.size, 0, none⟩) n n) (w.alloc (.cells (madeCells (Value.agg #[.string ⟨#[]⟩, .string ⟨#[]⟩]).cells (n * 2)) 25)) := by
 obtain ⟨i0, hi, hz0, hz1, hz2⟩ := info_of Tryz.infoSp; have := run_make (P := Tryz.prog) w 40 25 i0 _ Tryz.underlying40 hi hz0 .i64 .i64 n n (by omega) (by omega) (by rw [hz2]; omega) (by omega); rw [this, hz1]; simp
theorem make_wr (w : World) (n : Nat) (h : n ≤ 7036874417766) : (Instr.makeSlice 41 (.int .i64 (n : Int)) (.int .i64 (n : Int))).run Tryz.prog w = .ok (.slice (some ⟨w.heap.size, 0, none⟩) n n) (w.alloc (.cells (madeCells (Value.agg #[.string ⟨#[]⟩, .bool false, .string ⟨#[]⟩]).cells (n * 3)) 103)) := by
 obtain ⟨i0, hi, hz0, hz1, hz2⟩ := info_of Tryz.infoWr; have := run_make (P := Tryz.prog) w 41 103 i0 _ Tryz.underlying41 hi hz0 .i64 .i64 n n (by omega) (by omega) (by rw [hz2]; omega) (by omega); rw [this, hz1]; simp
theorem made2 (w : World) (n : Nat) : Cells2 (w.alloc (.cells (madeCells (Value.agg #[.string ⟨#[]⟩, .string ⟨#[]⟩]).cells (n * 2)) 25)) w.heap.size (fun _ => (⟨#[]⟩, ⟨#[]⟩)) n := by
 intro i hi; have h1 : i * 2 < n * 2 := by omega
 have h2 : i * 2 + 1 < n * 2 := by omega
 constructor
 ·simp [go_sem, madeCells, h1]
 ·simp [go_sem, madeCells, h2, Nat.add_mod]
theorem madeW (w : World) (n : Nat) : CellsW (w.alloc (.cells (madeCells (Value.agg #[.string ⟨#[]⟩, .bool false, .string ⟨#[]⟩]).cells (n * 3)) 103)) w.heap.size (fun _ => ⟨⟨#[]⟩, false, ⟨#[]⟩⟩) n := by
 intro i hi; have h1 : i * 3 < n * 3 := by omega
 have h2 : i * 3 + 1 < n * 3 := by omega
 have h3 : i * 3 + 2 < n * 3 := by omega
 refine ⟨?_, ?_, ?_⟩
 ·simp [go_sem, madeCells, h1]
 ·simp [go_sem, madeCells, h2, Nat.add_mod]
 ·simp [go_sem, madeCells, h3, Nat.add_mod]
end Go.Proofs.YtneojeidpfjpbaaGreatDoor
namespace Go.Proofs.YtneojeidpfjpbaaGreatDoor.Lk
open Go.RowKit Go.Sort
theorem own_le {w : World} {B n size : Nat} {e : TypeId} {v : Value} {xs : List Value} (h : w.ownsRow B e size v n xs) : n ≤ 9223372036854775807 := by
 obtain ⟨_, ⟨_, e1⟩ | ⟨g, cap, cur, e1, _, _, h1, h2, _⟩⟩ := h
 ·omega
 ·simp only [maxLen] at h2; omega
theorem own_type {w : World} {B n size : Nat} {e : TypeId} {v : Value} {xs : List Value} (h : w.ownsRow B e size v n xs) {g : Nat} (hg : v.ownBlock = some g) : ∃ cur, w.heap[g]? = some (.cells cur e (0, 0)) := by
 obtain ⟨_, ⟨e1, _⟩ | ⟨g', cap, cur, e1, _, hh, _⟩⟩ := h
 ·subst e1; simp [Value.ownBlock] at hg
 ·subst e1; simp [Value.ownBlock] at hg; subst hg; exact ⟨cur, hh⟩
end Go.Proofs.YtneojeidpfjpbaaGreatDoor.Lk
namespace Go.Proofs.YtneojeidpfjpbaaGreatDoor
open Go.RowKit Go.Sort
def Lie (w : World) (g : Nat) (t : TypeId) (N : Nat) : Prop := ∃ cur, w.heap[g]? = some (.cells cur t (0, 0)) ∧ cur.size = N
theorem Lie.set {w : World} {g N : Nat} {t : TypeId} (h : Lie w g t N) (b o : Nat) (v : Value) : Lie (w.setCell ⟨b, o, none⟩ v) g t N := by
 obtain ⟨cur, h1, h2⟩ := h; by_cases e : g = b
 ·subst e; exact ⟨_, heap_setCell_same w g o cur t v h1, by simpa using h2⟩
 ·exact ⟨cur, (heap_setCell_other w ⟨b, o, none⟩ g v e).trans h1, h2⟩
theorem Lie.onl {F : Nat → Prop} {w w' : World} {g N : Nat} {t : TypeId} (h : Lie w g t N) (ho : Onl F w w') (hg : ¬ F g) : Lie w' g t N := by
 obtain ⟨cur, h1, h2⟩ := h; exact ⟨cur, (ho.block g (Array.getElem?_eq_some_iff.1 h1).1 hg).trans h1, h2⟩
theorem Lie.later {w w' : World} {g N : Nat} {t : TypeId} (h : Lie w g t N) (hb : Below w.heap.size w w') : Lie w' g t N := h.onl (F := fun _ => False) (Onl.of_below hb) (fun e => e)
theorem Lie.sets {g N b : Nat} {t : TypeId} : ∀ (vs : List Value) (o : Nat) (w : World), Lie w g t N → Lie (w.setCells b o vs) g t N
 | [], _, w, h => h
 | v :: r, o, w, h => Lie.sets r (o + 1) _ (h.set b o v)
def spareS : ByteArray := ⟨#[115, 112, 97, 114, 101]⟩
structure Room2 (w wr : World) (g : Nat) (xs : List T2) : Prop where
 cells : ∃ f, Cells2 wr g f (xs.length + 1) ∧ (∀ i, i < xs.length → f i = nth2 xs i) ∧ f xs.length = (spareS, ⟨#[]⟩)
 loose : Loose wr g
 low : w.heap.size ≤ g
 lt : g < wr.heap.size
 bl : Below w.heap.size w wr
 obj : Lie wr g 25 ((xs.length + 1) * 2)
theorem roomReads_is {a : Option Addr} {c : Nat} {xs : List T2} {w : World} (h : Row2 w a xs) (hl : xs.length + 1 ≤ 8796093022208) :
  Calls Tryz.prog 24 #[.slice a xs.length c] w fun e w' => ∃ g, e = .returned (.slice (some ⟨g, 0, none⟩) xs.length (xs.length + 1)) ∧ Room2 w w' g xs := by
 have hmk := make_sp w (xs.length + 1) hl; rw [show ((xs.length + 1 : Nat) : Int) = (xs.length : Int) + 1 by omega] at hmk; obtain ⟨wa, hwa⟩ : ∃ wa, wa = w.alloc (.cells (madeCells (Value.agg #[.string ⟨#[]⟩, .string ⟨#[]⟩]).cells ((xs.length + 1) * 2)) 25) := ⟨_, rfl⟩; have hc := made2 w (xs.length + 1); have hba : Below w.heap.size w wa := by rw [hwa]; exact Below.al (Below.refl _ _) _
 have hlo : Loose wa w.heap.size := by rw [hwa]; intro o; simp [go_sem]
 have hlt : w.heap.size < wa.heap.size := by rw [hwa]; simp
 have hli : Lie wa w.heap.size 25 ((xs.length + 1) * 2) := by rw [hwa]; exact ⟨_, (MapKept.heap_alloc _ _).1, by simp [madeCells]⟩
 rw [← hwa] at hmk hc; obtain ⟨g, hg⟩ : ∃ g, g = w.heap.size := ⟨_, rfl⟩; rw [← hg] at hmk hc hlo hlt hli; have HC : Hid (Cells2 wa g (fun _ => (⟨#[]⟩, ⟨#[]⟩)) (xs.length + 1) ∧ Loose wa g ∧ g < wa.heap.size ∧ Below w.heap.size w wa ∧ g = w.heap.size ∧ Lie wa g 25 ((xs.length + 1) * 2)) := ⟨hc, hlo, hlt, hba, hg, hli⟩; have HX := hid h; clear hwa hc hba hlo hlt h hg hli; go_enter Tryz.func24, Tryz.ntmps24
 go_wp2_with fail
 go_loopg [4] xs.length (fun gg s4 wr => ∃ k : Nat, k ≤ xs.length ∧ gg = xs.length - k ∧ s4 = .int .i64 k ∧ ∃ f, Hid (Cells2 wr g f (xs.length + 1) ∧ (∀ i, i < k → f i = nth2 xs i) ∧ Loose wr g ∧ g < wr.heap.size ∧ Below w.heap.size w wr ∧ g = w.heap.size ∧ Lie wr g 25 ((xs.length + 1) * 2)))
 case atStart => exact ⟨0, by omega, by omega, rfl, _, ⟨HC.out.1, fun i hi => by omega, HC.out.2⟩⟩
 case round =>
  obtain ⟨k, hk, rfl, rfl, f, HK⟩ := hrel; clear HC hmk; have d0 := (HK.out.1 k (by omega)).1; have d1 := (HK.out.1 k (by omega)).2; have l0 := HK.out.2.2.1 (k * 2); have l1 := HK.out.2.2.1 (k * 2 + 1); by_cases hlt : k < xs.length
  ·obtain ⟨b, off, rfl, c0, c1⟩ := (HX.out.later HK.out.2.2.2.2.1) k hlt; obtain ⟨x, hx⟩ : ∃ x, x = nth2 xs k := ⟨_, rfl⟩; rw [← hx] at c0 c1; have HN := hid hx; have HP : Hid (Cells2 (set2 wr g k x) g (put f k x) (xs.length + 1) ∧ (∀ i, i < k + 1 → put f k x i = nth2 xs i) ∧ Loose (set2 wr g k x) g ∧ g < (set2 wr g k x).heap.size ∧ Below w.heap.size w (set2 wr g k x) ∧ g = w.heap.size ∧ Lie (set2 wr g k x) g 25 ((xs.length + 1) * 2)) := by
    refine ⟨HK.out.1.put (by omega) x, fun i hi => ?_, (HK.out.2.2.1.setc _ _).setc _ _, by simpa using HK.out.2.2.2.1, HK.out.2.2.2.2.1.trans ((onl_set2 wr g k x).below (fun b e => by rw [e, HK.out.2.2.2.2.2.1]; exact Nat.le_refl _) HK.out.2.2.2.2.1.size), HK.out.2.2.2.2.2.1, (HK.out.2.2.2.2.2.2.set _ _ _).set _ _ _⟩; by_cases e : i = k
    ·subst e; rw [put_same, HN.out]
    ·rw [put_other _ _ e]; exact HK.out.2.1 i (by omega)
   clear hx; go_wp2_with fail
   go_roundg (xs.length - (k + 1))
   case measure => omega
   case rel => exact ⟨k + 1, by omega, rfl, by go_num, _, HP⟩
  ·obtain rfl : k = xs.length := by omega
   have HP : Hid (Room2 w (set2 wr g xs.length (spareS, ⟨#[]⟩)) g xs) := by
    refine ⟨⟨_, HK.out.1.put (by omega) (spareS, ⟨#[]⟩), fun i hi => ?_, put_same _ _ _⟩, (HK.out.2.2.1.setc _ _).setc _ _, by rw [HK.out.2.2.2.2.2.1]; exact Nat.le_refl _, by simpa using HK.out.2.2.2.1, HK.out.2.2.2.2.1.trans ((onl_set2 wr g xs.length _).below (fun b e => by rw [e, HK.out.2.2.2.2.2.1]; exact Nat.le_refl _) HK.out.2.2.2.2.1.size), (HK.out.2.2.2.2.2.2.set _ _ _).set _ _ _⟩; rw [put_other _ _ (by omega)]; exact HK.out.2.1 i hi
   go_wp2_with fail
   go_ret
   exact ⟨g, rfl, HP.out⟩
structure RoomW (w wr : World) (g : Nat) (xs : List Wr) : Prop where
 cells : ∃ f, CellsW wr g f (xs.length + 1) ∧ (∀ i, i < xs.length → f i = nthW xs i) ∧ f xs.length = ⟨spareS, false, ⟨#[]⟩⟩
 loose : Loose wr g
 low : w.heap.size ≤ g
 lt : g < wr.heap.size
 bl : Below w.heap.size w wr
 obj : Lie wr g 103 ((xs.length + 1) * 3)
theorem roomWrites_is {a : Option Addr} {c : Nat} {xs : List Wr} {w : World} (h : RowW w a xs) (hl : xs.length + 1 ≤ 7036874417766) :
  Calls Tryz.prog 25 #[.slice a xs.length c] w fun e w' => ∃ g, e = .returned (.slice (some ⟨g, 0, none⟩) xs.length (xs.length + 1)) ∧ RoomW w w' g xs := by
 have hmk := make_wr w (xs.length + 1) hl; rw [show ((xs.length + 1 : Nat) : Int) = (xs.length : Int) + 1 by omega] at hmk; obtain ⟨wa, hwa⟩ : ∃ wa, wa = w.alloc (.cells (madeCells (Value.agg #[.string ⟨#[]⟩, .bool false, .string ⟨#[]⟩]).cells ((xs.length + 1) * 3)) 103) := ⟨_, rfl⟩; have hc := madeW w (xs.length + 1); have hba : Below w.heap.size w wa := by rw [hwa]; exact Below.al (Below.refl _ _) _
 have hlo : Loose wa w.heap.size := by rw [hwa]; intro o; simp [go_sem]
 have hlt : w.heap.size < wa.heap.size := by rw [hwa]; simp
 have hli : Lie wa w.heap.size 103 ((xs.length + 1) * 3) := by rw [hwa]; exact ⟨_, (MapKept.heap_alloc _ _).1, by simp [madeCells]⟩
 rw [← hwa] at hmk hc; obtain ⟨g, hg⟩ : ∃ g, g = w.heap.size := ⟨_, rfl⟩; rw [← hg] at hmk hc hlo hlt hli; have HC : Hid (CellsW wa g (fun _ => ⟨⟨#[]⟩, false, ⟨#[]⟩⟩) (xs.length + 1) ∧ Loose wa g ∧ g < wa.heap.size ∧ Below w.heap.size w wa ∧ g = w.heap.size ∧ Lie wa g 103 ((xs.length + 1) * 3)) := ⟨hc, hlo, hlt, hba, hg, hli⟩; have HX := hid h; clear hwa hc hba hlo hlt h hg hli; go_enter Tryz.func25, Tryz.ntmps25
 go_wp2_with fail
 go_loopg [4] xs.length (fun gg s4 wr => ∃ k : Nat, k ≤ xs.length ∧ gg = xs.length - k ∧ s4 = .int .i64 k ∧ ∃ f, Hid (CellsW wr g f (xs.length + 1) ∧ (∀ i, i < k → f i = nthW xs i) ∧ Loose wr g ∧ g < wr.heap.size ∧ Below w.heap.size w wr ∧ g = w.heap.size ∧ Lie wr g 103 ((xs.length + 1) * 3)))
 case atStart => exact ⟨0, by omega, by omega, rfl, _, ⟨HC.out.1, fun i hi => by omega, HC.out.2⟩⟩
 case round =>
  obtain ⟨k, hk, rfl, rfl, f, HK⟩ := hrel; clear HC hmk; have d0 := (HK.out.1 k (by omega)).1; have d1 := (HK.out.1 k (by omega)).2.1; have d2 := (HK.out.1 k (by omega)).2.2; have l0 := HK.out.2.2.1 (k * 3); have l1 := HK.out.2.2.1 (k * 3 + 1); have l2 := HK.out.2.2.1 (k * 3 + 2); by_cases hlt : k < xs.length
  ·obtain ⟨b, off, rfl, c0, c1, c2⟩ := (HX.out.later HK.out.2.2.2.2.1) k hlt; obtain ⟨x, hx⟩ : ∃ x, x = nthW xs k := ⟨_, rfl⟩; rw [← hx] at c0 c1 c2; have HN := hid hx; have HP : Hid (CellsW (setW wr g k x) g (put f k x) (xs.length + 1) ∧ (∀ i, i < k + 1 → put f k x i = nthW xs i) ∧ Loose (setW wr g k x) g ∧ g < (setW wr g k x).heap.size ∧ Below w.heap.size w (setW wr g k x) ∧ g = w.heap.size ∧ Lie (setW wr g k x) g 103 ((xs.length + 1) * 3)) := by
    refine ⟨HK.out.1.put (by omega) x, fun i hi => ?_, ((HK.out.2.2.1.setc _ _).setc _ _).setc _ _, by simpa using HK.out.2.2.2.1, HK.out.2.2.2.2.1.trans ((onl_setW wr g k x).below (fun b e => by rw [e, HK.out.2.2.2.2.2.1]; exact Nat.le_refl _) HK.out.2.2.2.2.1.size), HK.out.2.2.2.2.2.1, ((HK.out.2.2.2.2.2.2.set _ _ _).set _ _ _).set _ _ _⟩; by_cases e : i = k
    ·subst e; rw [put_same, HN.out]
    ·rw [put_other _ _ e]; exact HK.out.2.1 i (by omega)
   clear hx; go_wp2_with fail
   go_roundg (xs.length - (k + 1))
   case measure => omega
   case rel => exact ⟨k + 1, by omega, rfl, by go_num, _, HP⟩
  ·obtain rfl : k = xs.length := by omega
   have HP : Hid (RoomW w (setW wr g xs.length ⟨spareS, false, ⟨#[]⟩⟩) g xs) := by
    refine ⟨⟨_, HK.out.1.put (by omega) ⟨spareS, false, ⟨#[]⟩⟩, fun i hi => ?_, put_same _ _ _⟩, ((HK.out.2.2.1.setc _ _).setc _ _).setc _ _, by rw [HK.out.2.2.2.2.2.1]; exact Nat.le_refl _, by simpa using HK.out.2.2.2.1, HK.out.2.2.2.2.1.trans ((onl_setW wr g xs.length _).below (fun b e => by rw [e, HK.out.2.2.2.2.2.1]; exact Nat.le_refl _) HK.out.2.2.2.2.1.size), ((HK.out.2.2.2.2.2.2.set _ _ _).set _ _ _).set _ _ _⟩; rw [put_other _ _ (by omega)]; exact HK.out.2.1 i hi
   go_wp2_with fail
   go_ret
   exact ⟨g, rfl, HP.out⟩
theorem Room2.later {w wr w' : World} {g : Nat} {xs : List T2} (h : Room2 w wr g xs) (hb : Below wr.heap.size wr w') : Room2 w w' g xs := by
 obtain ⟨f, h1, h2, h3⟩ := h.cells; exact ⟨⟨f, h1.later hb, h2, h3⟩, h.loose.later hb h.lt, h.low, Nat.lt_of_lt_of_le h.lt hb.size, Below.on h.bl hb, h.obj.later hb⟩
theorem Room2.onl {w wr w' : World} {G : Nat → Prop} {g : Nat} {xs : List T2} (h : Room2 w wr g xs) (ho : Onl G wr w') (hg : ¬ G g) (hb : Below w.heap.size w w') : Room2 w w' g xs := by
 obtain ⟨f, h1, h2, h3⟩ := h.cells; exact ⟨⟨f, h1.onl ho hg, h2, h3⟩, ho.loose hg h.lt h.loose, h.low, Nat.lt_of_lt_of_le h.lt ho.size, hb, h.obj.onl ho hg⟩
theorem RoomW.onl {w wr w' : World} {G : Nat → Prop} {g : Nat} {xs : List Wr} (h : RoomW w wr g xs) (ho : Onl G wr w') (hg : ¬ G g) (hb : Below w.heap.size w w') : RoomW w w' g xs := by
 obtain ⟨f, h1, h2, h3⟩ := h.cells; exact ⟨⟨f, h1.onl ho hg, h2, h3⟩, ho.loose hg h.lt h.loose, h.low, Nat.lt_of_lt_of_le h.lt ho.size, hb, h.obj.onl ho hg⟩
theorem Room2.from {w w0 wr : World} {g : Nat} {xs : List T2} (h : Room2 w0 wr g xs) (hb : Below w.heap.size w w0) : Room2 w wr g xs := ⟨h.cells, h.loose, Nat.le_trans hb.size h.low, h.lt, Below.on hb h.bl, h.obj⟩
theorem RoomW.from {w w0 wr : World} {g : Nat} {xs : List Wr} (h : RoomW w0 wr g xs) (hb : Below w.heap.size w w0) : RoomW w wr g xs := ⟨h.cells, h.loose, Nat.le_trans hb.size h.low, h.lt, Below.on hb h.bl, h.obj⟩
theorem Room2.row {w wr : World} {g : Nat} {xs : List T2} (h : Room2 w wr g xs) : Row2 wr (some ⟨g, 0, none⟩) xs := by
 obtain ⟨f, h1, h2, h3⟩ := h.cells; intro i hi; refine ⟨g, 0, rfl, ?_, ?_⟩
 ·rw [Nat.zero_add, (h1 i (by omega)).1, h2 i hi]
 ·rw [Nat.zero_add, (h1 i (by omega)).2, h2 i hi]
theorem RoomW.row {w wr : World} {g : Nat} {xs : List Wr} (h : RoomW w wr g xs) : RowW wr (some ⟨g, 0, none⟩) xs := by
 obtain ⟨f, h1, h2, h3⟩ := h.cells; intro i hi; refine ⟨g, 0, rfl, ?_, ?_, ?_⟩
 ·rw [Nat.zero_add, (h1 i (by omega)).1, h2 i hi]
 ·rw [Nat.zero_add, (h1 i (by omega)).2.1, h2 i hi]
 ·rw [Nat.zero_add, (h1 i (by omega)).2.2, h2 i hi]
def Rg.own (m : Rg) (g1 g2 : Nat) : Rg := { m with ra := some ⟨g1, 0, none⟩, rc := m.rs.length + 1, wa := some ⟨g2, 0, none⟩, wc := m.ws.length + 1 }
theorem BoxG.onl {w w' : World} {G : Nat → Prop} {q : Nat} {m : Rg} (h : BoxG w q m) (ho : Onl G w w') (hq : ¬ G q) : BoxG w' q m :=
 ⟨ho.cell hq h.c0, ho.cell hq h.c1, ho.cell hq h.c2, ho.cell hq h.c3, ho.cell hq h.c4, ho.cell hq h.c5, ho.cell hq h.c6, ho.cell hq h.c7, ho.cell hq h.c8, ho.cell hq h.c9, ho.cell hq h.c10, ho.cell hq h.c11⟩
theorem BoxG.reads {w : World} {q : Nat} {m : Rg} (h : BoxG w q m) (a : Option Addr) (c : Nat) : BoxG (w.setCell ⟨q, 9, none⟩ (.slice a m.rs.length c)) q { m with ra := a, rc := c } :=
 ⟨cell_setc (by simp) h.c0, cell_setc (by simp) h.c1, cell_setc (by simp) h.c2, cell_setc (by simp) h.c3, cell_setc (by simp) h.c4, cell_setc (by simp) h.c5, cell_setc (by simp) h.c6, cell_setc (by simp) h.c7, cell_setc (by simp) h.c8, World.cell?_setCell_same _ _ _ h.c9, cell_setc (by simp) h.c10, cell_setc (by simp) h.c11⟩
set_option maxRecDepth 4000 in
theorem copied_is {m : Rg} {w : World} (h : m.ok w) (hl : m.rs.length + 1 ≤ 8796093022208) (hl2 : m.ws.length + 1 ≤ 7036874417766) :
  Calls Tryz.prog 8 #[m.val] w fun e w' => ∃ g1 g2, e = .returned (m.own g1 g2).val ∧ Room2 w w' g1 m.rs ∧ RoomW w w' g2 m.ws ∧ g1 ≠ g2 := by
 obtain ⟨wa, hwa⟩ : ∃ wa, wa = (w.alloc (.cells m.cells 43)).alloc (.cells Rg.zero.cells 43) := ⟨_, rfl⟩; have hba : Below w.heap.size w wa := by rw [hwa]; exact Below.al (Below.al (Below.refl _ _) _) _
 have hbx : BoxG wa w.heap.size m := by rw [hwa]; exact (boxG w m _).later (Below.al (Below.refl _ _) _)
 have hbz : BoxG wa (w.heap.size + 1) Rg.zero := by
  rw [hwa]; have := boxG (w.alloc (.cells m.cells 43)) Rg.zero 43; rwa [World.size_alloc] at this
 have hlo : Loose wa w.heap.size := by rw [hwa]; intro o; simp [go_sem]
 have hlz : Loose wa (w.heap.size + 1) := by rw [hwa]; intro o; simp [go_sem]
 have hsz : wa.heap.size = w.heap.size + 2 := by rw [hwa]; simp
 have HOK := hid (h.later hba); have HOW := hid h.w; have HB := hid hbx; have HZ := hid hbz; have HBA := hid hba; have HW := hid hwa; have HLO := hid hlo; have HLZ := hid hlz; have HSZ := hid hsz; clear h hba hbx hbz hwa hlo hlz hsz; go_enter Tryz.func8, Tryz.ntmps8
 go_wp2_with fail
 have hwz : (w.alloc (.cells m.cells 43)).alloc (.cells #[.int .i64 0, .int .u64 0, .int .u32 0, .int .u32 0, .int .u32 0, .int .i64 0, .int .u64 0, .int .u32 0, .int .u32 0, .slice none 0 0, .slice none 0 0, .string ⟨#[]⟩] 43) = wa := HW.out.symm; rw [hwz]; clear hwz; refine (roomReads_is HOK.out.r hl).mono ?_; rintro e w1 ⟨g1, rfl, hr1⟩; have hb1 := hr1.bl; have H1 := hid hr1; have hq : w.heap.size < wa.heap.size := by rw [HSZ.out]; omega
 have hqz : w.heap.size + 1 < wa.heap.size := by rw [HSZ.out]; omega
 have hg1 : ¬ g1 = w.heap.size := by have := hr1.low; omega
 have H0 : Hid (w.heap.size + 2 ≤ g1) := by have := hr1.low; have := HSZ.out; show _ ≤ _; omega
 have c9 := cell_later hb1 HB.out.c9; have c10 := cell_later hb1 HB.out.c10; have f9 : w1.frozen? ⟨w.heap.size, 9, none⟩ = false := (HLO.out.later hb1 hq) 9; have HB1 := hid ((HB.out.later hb1).reads (some ⟨g1, 0, none⟩) (m.rs.length + 1)); have o1 : Onl (fun k => k = w.heap.size) w1 (w1.setCell ⟨w.heap.size, 9, none⟩ (.slice (some ⟨g1, 0, none⟩) m.rs.length (m.rs.length + 1))) := (Onl.refl (fun k => k = w.heap.size) w1).set (p := w.heap.size) rfl _ _; have hbb : Below w.heap.size w (w1.setCell ⟨w.heap.size, 9, none⟩ (.slice (some ⟨g1, 0, none⟩) m.rs.length (m.rs.length + 1))) := (Below.on HBA.out hb1).setCell (Nat.le_refl _) _; have HR1 : Hid (Room2 w (w1.setCell ⟨w.heap.size, 9, none⟩ (.slice (some ⟨g1, 0, none⟩) m.rs.length (m.rs.length + 1))) g1 m.rs) := (hr1.from HBA.out).onl o1 hg1 hbb; have HZ1 := hid ((HZ.out.later hb1).onl o1 (by omega)); have HBB := hid hbb
 have HLO1 : Hid (Loose (w1.setCell ⟨w.heap.size, 9, none⟩ (.slice (some ⟨g1, 0, none⟩) m.rs.length (m.rs.length + 1))) w.heap.size ∧ Loose (w1.setCell ⟨w.heap.size, 9, none⟩ (.slice (some ⟨g1, 0, none⟩) m.rs.length (m.rs.length + 1))) (w.heap.size + 1)) := ⟨(HLO.out.later hb1 hq).setc _ _, (HLZ.out.later hb1 hqz).setc _ _⟩; clear hr1 hb1 o1 hbb H1; go_wp2_with fail
 obtain ⟨v2, hv2⟩ : ∃ v2, v2 = w1.setCell ⟨w.heap.size, 9, none⟩ (.slice (some ⟨g1, 0, none⟩) m.rs.length (m.rs.length + 1)) := ⟨_, rfl⟩; rw [← hv2] at HB1 HR1 HZ1 HBB HLO1 ⊢; clear hv2 c9 c10 f9; refine (roomWrites_is (HOW.out.later HBB.out) hl2).mono ?_; rintro e w2 ⟨g2, rfl, hr2⟩; have hb2 := hr2.bl; have hqv : w.heap.size < v2.heap.size := World.block_lt_of_cell? _ _ HB1.out.c0; have hqz2 : w.heap.size + 1 < v2.heap.size := World.block_lt_of_cell? _ _ HZ1.out.c0; have hb := HB1.out.later hb2; have hz := HZ1.out.later hb2; have c0 := hb.c0; have c1 := hb.c1; have c2 := hb.c2; have c3 := hb.c3; have c4 := hb.c4; have c5 := hb.c5; have c6 := hb.c6; have c7 := hb.c7; have c8 := hb.c8; have c9 := hb.c9; have c10 := hb.c10; have c11 := hb.c11
 have z0 := hz.c0; have z1 := hz.c1; have z2 := hz.c2; have z3 := hz.c3; have z4 := hz.c4; have z5 := hz.c5; have z6 := hz.c6; have z7 := hz.c7; have z8 := hz.c8; have z9 := hz.c9; have z10 := hz.c10; have z11 := hz.c11
 have ff : ∀ o, w2.frozen? ⟨w.heap.size, o, none⟩ = false := HLO1.out.1.later hb2 hqv; have fz : ∀ o, w2.frozen? ⟨w.heap.size + 1, o, none⟩ = false := HLO1.out.2.later hb2 hqz2; have hgg : g1 ≠ g2 := fun e => by have h1 := HR1.out.lt; have h2 := hr2.low; omega
 have hg2 : ¬ g2 = w.heap.size := by have := hr2.low; omega
 have hg2' : ¬ g2 = w.heap.size + 1 := by have := hr2.low; omega
 have hg1' : ¬ g1 = w.heap.size + 1 := by have h1 := HR1.out.low; have := H0.out; omega
 have HR2 := hid (hr2.from HBB.out); have HR1' := hid (HR1.out.later hb2); have HG := hid hgg; clear hr2 hb2 hb hz hgg HB1 HZ1 HR1; go_wp2_with fail
 have hset : ∀ {a wx : World} {q o : Nat} {v : Value}, Onl (fun k => k = w.heap.size ∨ k = w.heap.size + 1) a wx → (q = w.heap.size ∨ q = w.heap.size + 1) → Onl (fun k => k = w.heap.size ∨ k = w.heap.size + 1) a (wx.setCell ⟨q, o, none⟩ v) := fun h hq => h.set hq _ _
 obtain ⟨WF, hWF⟩ : ∃ WF, WF = (((((((((((((w2.setCell ⟨w.heap.size, 10, none⟩ (.slice (some ⟨g2, 0, none⟩) m.ws.length (m.ws.length + 1))).setCell ⟨w.heap.size + 1, 0, none⟩ (.int .i64 m.k)).setCell ⟨w.heap.size + 1, 1, none⟩ (.int .u64 m.x)).setCell ⟨w.heap.size + 1, 2, none⟩ (.int .u32 m.c)).setCell ⟨w.heap.size + 1, 3, none⟩ (.int .u32 m.s)).setCell ⟨w.heap.size + 1, 4, none⟩ (.int .u32 m.h)).setCell ⟨w.heap.size + 1, 5, none⟩ (.int .i64 m.oc)).setCell ⟨w.heap.size + 1, 6, none⟩ (.int .u64 m.w)).setCell ⟨w.heap.size + 1, 7, none⟩ (.int .u32 m.l)).setCell ⟨w.heap.size + 1, 8, none⟩ (.int .u32 m.n)).setCell ⟨w.heap.size + 1, 9, none⟩ (.slice (some ⟨g1, 0, none⟩) m.rs.length (m.rs.length + 1))).setCell ⟨w.heap.size + 1, 10, none⟩ (.slice (some ⟨g2, 0, none⟩) m.ws.length (m.ws.length + 1))).setCell ⟨w.heap.size + 1, 11, none⟩ (.string m.im)) := ⟨_, rfl⟩
 have ho : Onl (fun k => k = w.heap.size ∨ k = w.heap.size + 1) w2 WF := by
  rw [hWF]; repeat (refine hset ?_ (by first | exact .inl rfl | exact .inr rfl))
  exact Onl.refl _ _
 have hbf : Below w.heap.size w WF := HR2.out.bl.trans (ho.below (fun k hk => by rcases hk with e | e <;> omega) HR2.out.bl.size); refine bodyPost_ret (v := (m.own g1 g2).val) (by simp [results, Tryz.results8, go_sem, z0, z1, z2, z3, z4, z5, z6, z7, z8, z9, z10, z11, Rg.own]) rfl ⟨g1, g2, rfl, ?_, ?_, HG.out⟩
 ·rw [← hWF]; exact HR1'.out.onl ho (fun hk => by rcases hk with e | e; exact hg1 e; exact hg1' e) hbf
 ·rw [← hWF]; exact HR2.out.onl ho (fun hk => by rcases hk with e | e; exact hg2 e; exact hg2' e) hbf
theorem own_ok {m : Rg} {w0 w : World} {g1 g2 : Nat} (h : m.ok w) (h1 : Room2 w0 w g1 m.rs) (h2 : RoomW w0 w g2 m.ws) : (m.own g1 g2).ok w := ⟨h1.row, h2.row, h.rl, h.wl, h.rg⟩
theorem own_valid (m : Rg) (g1 g2 : Nat) : (m.own g1 g2).valid = m.valid := by
 unfold Rg.valid Rg.named Rg.rules; show (sameR (m.own g1 g2) (if m.k = 1 then _ else if m.k = 2 then _ else if m.k = 3 then _ else if m.k = 4 then _ else if m.k = 5 then _ else _) && _) = _
 by_cases g1' : m.k = 1
 ·rw [if_pos g1', if_pos g1']; rfl
 rw [if_neg g1', if_neg g1']; by_cases g2' : m.k = 2
 ·rw [if_pos g2', if_pos g2']; rfl
 rw [if_neg g2', if_neg g2']; by_cases g3' : m.k = 3
 ·rw [if_pos g3', if_pos g3']; rfl
 rw [if_neg g3', if_neg g3']; by_cases g4' : m.k = 4
 ·rw [if_pos g4', if_pos g4']; rfl
 rw [if_neg g4', if_neg g4']; by_cases g5' : m.k = 5
 ·rw [if_pos g5', if_pos g5']; rfl
 rw [if_neg g5', if_neg g5']; rfl
theorem own_err (m : Rg) (g1 g2 : Nat) : (m.own g1 g2).err = m.err := by unfold Rg.err; rw [own_valid]
end Go.Proofs.YtneojeidpfjpbaaGreatDoor
namespace Go.Proofs.YtneojeidpfjpbaaGreatDoor.Ys
open Go.RowKit Go.Sort
def Sta (B : Nat) (w : World) (p : Nat) (s : Ps) : Prop := ∃ F m1 m2 m V I, St F w p m1 m2 m V I s ∧ ∀ b, F b ∨ Bm p m1 m2 m b → B ≤ b
def Chg (B : Nat) (w w' : World) : Prop := ∃ G : Nat → Prop, Onl G w w' ∧ ∀ b, G b → B ≤ b ∧ ∀ cs t z, w.heap[b]? = some (.cells cs t z) → t = SS ∨ t = 97
section
variable {B : Nat} {w w' : World} {p : Nat} {s : Ps}
theorem Chg.below (h : Chg B w w') (hB : B ≤ w.heap.size) : Below B w w' := by obtain ⟨G, ho, hg⟩ := h; exact ho.below (fun b hb => (hg b hb).1) hB
theorem Chg.block (h : Chg B w w') {b : Nat} {cs : Array Value} {t : TypeId} {z : Nat × Nat} (hb : w.heap[b]? = some (.cells cs t z)) (h1 : t ≠ SS) (h2 : t ≠ 97) : w'.heap[b]? = w.heap[b]? := by
 obtain ⟨G, ho, hg⟩ := h; exact ho.block b (Array.getElem?_eq_some_iff.1 hb).1 fun k => by
  rcases (hg b k).2 _ _ _ hb with e | e
  ·exact h1 e
  ·exact h2 e
theorem Sta.later (T : Sta B w p s) (h : Below w.heap.size w w') : Sta B w' p s := by
 obtain ⟨F, m1, m2, m, V, I, T, hl⟩ := T; exact ⟨F, m1, m2, m, V, I, T.later h, hl⟩
theorem Sta.good (T : Sta B w p s) : Vs.Good s.M := by obtain ⟨F, m1, m2, m, V, I, T, hl⟩ := T; exact T.good
theorem Sta.okI (T : Sta B w p s) : ∃ I, Lk.Ok s.H I := by obtain ⟨F, m1, m2, m, V, I, T, hl⟩ := T; exact ⟨I, T.okI⟩
theorem Sta.apply (T : Sta B w p s) (hB : B ≤ w.heap.size) (r : Rg) (hr : r.ok w) (hR : RgR r) (hk : r.k ≠ 5) (hn : Vs.countM s.M ≤ 268435456) (hj : r.k = 2 → acB s (at' r) = true → jbB (at' r) = true) :
  Calls Tryz.prog 6 #[sp p, r.val] w fun e w' => e = .returned (.int .i64 (apE s r)) ∧ Hid (Sta B w' p (apS s r) ∧ Chg B w w') := by
 obtain ⟨F, m1, m2, m, V, I, T, hl⟩ := T; refine (apply_any T r hr hR hk hn hj).mono ?_; rintro e w' ⟨he, F', m1', m2', m', V', I', T', h1, h2⟩; refine ⟨he, hid ⟨⟨F', m1', m2', m', V', I', T', fun b hb => ?_⟩, _, h2, fun b hb => ⟨hl b hb, fun cs t z hc => ?_⟩⟩⟩
 ·rcases h1 b hb with k | k
  ·exact hl b k
  ·exact Nat.le_trans hB k
 ·rcases T.own hb with ⟨ds, u, y, hd, hu⟩ | hn
  ·rw [hc] at hd; injection hd with hd
   injection hd with _ e _
   subst e; exact hu
  ·exact absurd hc (hn _ _ _)
end
theorem St.far {F : Nat → Prop} {w w' : World} {p : Nat} {m1 m2 m : Option Nat} {V : List Lk.Hv} {I : Lk.It} {s : Ps} (T : St F w p m1 m2 m V I s) {G : Nat → Prop} (ho : Onl G w w') (hG : ∀ b, G b → ∀ cs t z, w.heap[b]? = some (.cells cs t z) → t = SS ∨ t = 97) (hno : ∀ b, F b ∨ Bm p m1 m2 m b → ¬ G b) : St F w' p m1 m2 m V I s := by
 have hfor : Lk.Foreign w G := fun b hg => by
  refine ⟨fun cur h' => ?_, fun cur h' => ?_⟩ <;> rcases hG b hg _ _ _ h' with e | e <;> revert e <;> decide
 have hlt : ∀ b, F b ∨ Bm p m1 m2 m b → w'.heap[b]? = w.heap[b]? := fun b h => ho.block b (T.all h) (hno b h)
 have hp := hlt p (.inr (.inl rfl)); obtain ⟨root, hob⟩ := T.obj; have hob' : w'.heap[p]? = some (.cells (scs s m1 m2 m root) SS (0, 0)) := hp.trans hob; refine ⟨⟨root, hob'⟩, ?_, ?_, ?_, T.h, fun v hv => (T.ty v hv).onl ho hfor, T.dm, T.lw.1, Nat.le_trans T.lw.2 ho.size⟩
 ·refine T.tb.keepC T.ty ho hfor (fun b hb => hno b ?_) (fun cs hc => ⟨cs, hp.trans hc, rfl, rfl⟩) (bare13 hob'); rcases hb with hb | hb
  ·exact .inr (.inr (.inl hb))
  ·exact .inr (.inr (.inr (.inl hb)))
 ·obtain ⟨ds, hd, z0⟩ := T.lg.obj; exact ⟨⟨ds, hp.trans hd, z0⟩, T.lg.ents.same fun b e => hlt b (.inr (.inr (.inr (.inr e))))⟩
 ·obtain ⟨x, hx, ex⟩ := T.st; refine ⟨x, hx.keepC (Vs.Kp.of_onl ho fun b cs u z hf hb hu => ?_) (fun cs hc => ⟨cs, hp.trans hc, fun j _ _ => rfl⟩) (fun b hf _ => hlt b (.inl hf)), ex⟩; rcases hG b hf _ _ _ hb with e | e <;> subst e <;> rcases hu with e | e | e <;> revert e <;> decide
def Two (B : Nat) (w : World) (p : Nat) (s : Ps) (q : Nat) (t : Ps) : Prop := ∃ F m1 m2 m V I G k1 k2 k U J, St F w p m1 m2 m V I s ∧ St G w q k1 k2 k U J t ∧ (∀ b, F b ∨ Bm p m1 m2 m b → B ≤ b ∧ ¬ (G b ∨ Bm q k1 k2 k b)) ∧ ∀ b, G b ∨ Bm q k1 k2 k b → B ≤ b
section
variable {B : Nat} {w w' : World} {p q : Nat} {s t : Ps}
theorem Two.swap (h : Two B w p s q t) : Two B w q t p s := by
 obtain ⟨F, m1, m2, m, V, I, G, k1, k2, k, U, J, T, R, h1, h2⟩ := h; exact ⟨G, k1, k2, k, U, J, F, m1, m2, m, V, I, R, T, fun b hb => ⟨h2 b hb, fun hf => (h1 b hf).2 hb⟩, fun b hb => (h1 b hb).1⟩
theorem Two.one (h : Two B w p s q t) : Sta B w p s := by
 obtain ⟨F, m1, m2, m, V, I, G, k1, k2, k, U, J, T, R, h1, h2⟩ := h; exact ⟨F, m1, m2, m, V, I, T, fun b hb => (h1 b hb).1⟩
theorem Two.two (h : Two B w p s q t) : Sta B w q t := h.swap.one
theorem Two.later (h : Two B w p s q t) (hb : Below w.heap.size w w') : Two B w' p s q t := by
 obtain ⟨F, m1, m2, m, V, I, G, k1, k2, k, U, J, T, R, h1, h2⟩ := h; exact ⟨F, m1, m2, m, V, I, G, k1, k2, k, U, J, T.later hb, R.later hb, h1, h2⟩
theorem Two.mk (h : Sta B w p s) (hb : Below w.heap.size w w') (hB : B ≤ w.heap.size) (k : Sta w.heap.size w' q t) : Two B w' p s q t := by
 obtain ⟨F, m1, m2, m, V, I, T, h1⟩ := h; obtain ⟨G, k1, k2, k, U, J, R, h2⟩ := k; refine ⟨F, m1, m2, m, V, I, G, k1, k2, k, U, J, T.later hb, R, fun b hf => ⟨h1 b hf, fun hg => ?_⟩, fun b hg => Nat.le_trans hB (h2 b hg)⟩; have := T.all hf; have := h2 b hg; omega
theorem Two.apply (h : Two B w p s q t) (hB : B ≤ w.heap.size) (r : Rg) (hr : r.ok w) (hR : RgR r) (hc : (s.ceil == 0) = false) (hn : Vs.countM s.M ≤ 268435456) (hj : r.k = 2 → acB s (at' r) = true → jbB (at' r) = true) :
  Calls Tryz.prog 6 #[sp p, r.val] w fun e w' => e = .returned (.int .i64 (axE s r)) ∧ Hid (Two B w' p (axS s r) q t ∧ Below B w w') := by
 obtain ⟨F, m1, m2, m, V, I, G, k1, k2, k, U, J, T, R, h1, h2⟩ := h; refine (apply_all T r hr hR hc hn hj).mono ?_; rintro e w' ⟨he, F', m1', m2', m', V', I', T', g1, g2⟩; have hG : ∀ b, F b ∨ Bm p m1 m2 m b → ∀ cs t z, w.heap[b]? = some (.cells cs t z) → t = SS ∨ t = 97 := fun b hb cs t z hc => by
  rcases T.own hb with ⟨ds, u, y, hd, hu⟩ | hn
  ·rw [hc] at hd; injection hd with hd
   injection hd with _ e _
   subst e; exact hu
  ·exact absurd hc (hn _ _ _)
 refine ⟨he, hid ⟨⟨F', m1', m2', m', V', I', G, k1, k2, k, U, J, T', St.far R g2 hG fun b hb hf => (h1 b hf).2 hb, fun b hb => ?_, h2⟩, g2.below (fun b hb => (h1 b hb).1) hB⟩⟩; rcases g1 b hb with k' | k'
 ·exact h1 b k'
 ·exact ⟨Nat.le_trans hB k', fun hg => by have := R.all hg; omega⟩
theorem own_axE (s : Ps) (r : Rg) (g1 g2 : Nat) : axE s (r.own g1 g2) = axE s r ∧ axS s (r.own g1 g2) = axS s r := by
 have e := own_apE s r (some ⟨g1, 0, none⟩) (some ⟨g2, 0, none⟩) (r.rs.length + 1) (r.ws.length + 1) (own_err r g1 g2); have e1 : apE s (r.own g1 g2) = apE s r := e.1; have e2 : apS s (r.own g1 g2) = apS s r := e.2; have e3 : (r.own g1 g2).err = r.err := own_err r g1 g2; have e4 : (r.own g1 g2).k = r.k := rfl; unfold axE axS; rw [e1, e2, e3, e4]; exact ⟨rfl, rfl⟩
theorem Two.applyOwn (h : Two B w p s q t) (hB : B ≤ w.heap.size) {r : Rg} {g1 g2 : Nat} (hr : (r.own g1 g2).ok w) (hR : RgR r) (hc : (s.ceil == 0) = false) (hn : Vs.countM s.M ≤ 268435456) (hj : r.k = 2 → acB s (at' r) = true → jbB (at' r) = true) :
  Calls Tryz.prog 6 #[sp p, (r.own g1 g2).val] w fun e w' => e = .returned (.int .i64 (axE s r)) ∧ Hid (Two B w' p (axS s r) q t ∧ Below B w w') := by
 have h := h.apply hB (r.own g1 g2) hr ⟨hR.x, hR.t⟩ hc hn hj; rw [(own_axE s r g1 g2).1, (own_axE s r g1 g2).2] at h; exact h
end
end Go.Proofs.YtneojeidpfjpbaaGreatDoor.Ys
