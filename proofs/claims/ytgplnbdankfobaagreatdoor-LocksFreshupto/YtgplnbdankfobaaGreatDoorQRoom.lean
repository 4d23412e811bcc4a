import Derived.Test.YtgplnbdankfobaaGreatDoorQOwn
import Derived.Test.YtgplnbdankfobaaGreatDoorGCells
import Derived.Test.YtgplnbdankfobaaGreatDoorDLie
import Derived.Laws.MakeOwn
namespace Go.Proofs.YtgplnbdankfobaaGreatDoor
open Go.RowKit Go.Sort
set_option linter.unusedVariables false

/-- the mark behind a list -/
def spareS : ByteArray := ⟨#[115, 112, 97, 114, 101]⟩
/-- a list of spans in a block of its own, the mark behind it -/
structure Room2 (w wr : World) (g : Nat) (xs : List T2) : Prop where
  cells : ∃ f, Cells2 wr g f (xs.length + 1) ∧ (∀ i, i < xs.length → f i = nth2 xs i) ∧ f xs.length = (spareS, ⟨#[]⟩)
  loose : Loose wr g
  low : w.heap.size ≤ g
  lt : g < wr.heap.size
  bl : Below w.heap.size w wr
  obj : Lie wr g 34 ((xs.length + 1) * 2)

set_option maxHeartbeats 4000000 in
theorem roomReads_is {a : Option Addr} {c : Nat} {xs : List T2} {w : World} (h : Row2 w a xs) (hl : xs.length + 1 ≤ 8796093022208) :
    Calls Tryz.prog 19 #[.slice a xs.length c] w fun e w' => ∃ g, e = .returned (.slice (some ⟨g, 0, none⟩) xs.length (xs.length + 1)) ∧ Room2 w w' g xs := by
  have hmk := make_sp w (xs.length + 1) hl
  rw [show ((xs.length + 1 : Nat) : Int) = (xs.length : Int) + 1 by omega] at hmk
  obtain ⟨wa, hwa⟩ : ∃ wa, wa = w.alloc (.cells (madeCells (Value.agg #[.string ⟨#[]⟩, .string ⟨#[]⟩]).cells ((xs.length + 1) * 2)) 34) := ⟨_, rfl⟩
  have hc := made2 w (xs.length + 1)
  have hba : Below w.heap.size w wa := by rw [hwa]; exact Below.al (Below.refl _ _) _
  have hlo : Loose wa w.heap.size := by rw [hwa]; intro o; simp [go_sem]
  have hlt : w.heap.size < wa.heap.size := by rw [hwa]; simp
  have hli : Lie wa w.heap.size 34 ((xs.length + 1) * 2) := by rw [hwa]; exact ⟨_, (MapKept.heap_alloc _ _).1, by simp [madeCells]⟩
  rw [← hwa] at hmk hc
  obtain ⟨g, hg⟩ : ∃ g, g = w.heap.size := ⟨_, rfl⟩
  rw [← hg] at hmk hc hlo hlt hli
  have HC : Hid (Cells2 wa g (fun _ => (⟨#[]⟩, ⟨#[]⟩)) (xs.length + 1) ∧ Loose wa g ∧ g < wa.heap.size ∧ Below w.heap.size w wa ∧ g = w.heap.size ∧ Lie wa g 34 ((xs.length + 1) * 2)) := ⟨hc, hlo, hlt, hba, hg, hli⟩
  have HX := hid h
  clear hwa hc hba hlo hlt h hg hli
  go_enter Tryz.func19, Tryz.ntmps19
  go_wp2_with fail
  go_loopg [4] xs.length (fun gg s4 wr => ∃ k : Nat, k ≤ xs.length ∧ gg = xs.length - k ∧ s4 = .int .i64 k ∧ ∃ f, Hid (Cells2 wr g f (xs.length + 1) ∧ (∀ i, i < k → f i = nth2 xs i) ∧ Loose wr g ∧ g < wr.heap.size ∧ Below w.heap.size w wr ∧ g = w.heap.size ∧ Lie wr g 34 ((xs.length + 1) * 2)))
  case atStart => exact ⟨0, by omega, by omega, rfl, _, ⟨HC.out.1, fun i hi => by omega, HC.out.2⟩⟩
  case round =>
    obtain ⟨k, hk, rfl, rfl, f, HK⟩ := hrel
    clear HC hmk
    have d0 := (HK.out.1 k (by omega)).1
    have d1 := (HK.out.1 k (by omega)).2
    have l0 := HK.out.2.2.1 (k * 2)
    have l1 := HK.out.2.2.1 (k * 2 + 1)
    by_cases hlt : k < xs.length
    · obtain ⟨b, off, rfl, c0, c1⟩ := (HX.out.later HK.out.2.2.2.2.1) k hlt
      obtain ⟨x, hx⟩ : ∃ x, x = nth2 xs k := ⟨_, rfl⟩
      rw [← hx] at c0 c1
      have HN := hid hx
      have HP : Hid (Cells2 (set2 wr g k x) g (put f k x) (xs.length + 1) ∧ (∀ i, i < k + 1 → put f k x i = nth2 xs i) ∧ Loose (set2 wr g k x) g ∧ g < (set2 wr g k x).heap.size ∧ Below w.heap.size w (set2 wr g k x) ∧ g = w.heap.size ∧ Lie (set2 wr g k x) g 34 ((xs.length + 1) * 2)) := by
        refine ⟨HK.out.1.put (by omega) x, fun i hi => ?_, (HK.out.2.2.1.setc _ _).setc _ _, by simpa using HK.out.2.2.2.1, HK.out.2.2.2.2.1.trans ((onl_set2 wr g k x).below (fun b e => by rw [e, HK.out.2.2.2.2.2.1]; exact Nat.le_refl _) HK.out.2.2.2.2.1.size), HK.out.2.2.2.2.2.1, (HK.out.2.2.2.2.2.2.set _ _ _).set _ _ _⟩
        by_cases e : i = k
        · subst e; rw [put_same, HN.out]
        · rw [put_other _ _ e]; exact HK.out.2.1 i (by omega)
      clear hx
      go_wp2_with fail
      go_roundg (xs.length - (k + 1))
      case measure => omega
      case rel => exact ⟨k + 1, by omega, rfl, by go_num, _, HP⟩
    · obtain rfl : k = xs.length := by omega
      have HP : Hid (Room2 w (set2 wr g xs.length (spareS, ⟨#[]⟩)) g xs) := by
        refine ⟨⟨_, HK.out.1.put (by omega) (spareS, ⟨#[]⟩), fun i hi => ?_, put_same _ _ _⟩, (HK.out.2.2.1.setc _ _).setc _ _, by rw [HK.out.2.2.2.2.2.1]; exact Nat.le_refl _, by simpa using HK.out.2.2.2.1, HK.out.2.2.2.2.1.trans ((onl_set2 wr g xs.length _).below (fun b e => by rw [e, HK.out.2.2.2.2.2.1]; exact Nat.le_refl _) HK.out.2.2.2.2.1.size), (HK.out.2.2.2.2.2.2.set _ _ _).set _ _ _⟩
        rw [put_other _ _ (by omega)]; exact HK.out.2.1 i hi
      go_wp2_with fail
      go_ret
      exact ⟨g, rfl, HP.out⟩

/-- a list of writes in a block of its own, the mark behind it -/
structure RoomW (w wr : World) (g : Nat) (xs : List Wr) : Prop where
  cells : ∃ f, CellsW wr g f (xs.length + 1) ∧ (∀ i, i < xs.length → f i = nthW xs i) ∧ f xs.length = ⟨spareS, false, ⟨#[]⟩⟩
  loose : Loose wr g
  low : w.heap.size ≤ g
  lt : g < wr.heap.size
  bl : Below w.heap.size w wr
  obj : Lie wr g 64 ((xs.length + 1) * 3)

set_option maxHeartbeats 4000000 in
theorem roomWrites_is {a : Option Addr} {c : Nat} {xs : List Wr} {w : World} (h : RowW w a xs) (hl : xs.length + 1 ≤ 7036874417766) :
    Calls Tryz.prog 20 #[.slice a xs.length c] w fun e w' => ∃ g, e = .returned (.slice (some ⟨g, 0, none⟩) xs.length (xs.length + 1)) ∧ RoomW w w' g xs := by
  have hmk := make_wr w (xs.length + 1) hl
  rw [show ((xs.length + 1 : Nat) : Int) = (xs.length : Int) + 1 by omega] at hmk
  obtain ⟨wa, hwa⟩ : ∃ wa, wa = w.alloc (.cells (madeCells (Value.agg #[.string ⟨#[]⟩, .bool false, .string ⟨#[]⟩]).cells ((xs.length + 1) * 3)) 64) := ⟨_, rfl⟩
  have hc := madeW w (xs.length + 1)
  have hba : Below w.heap.size w wa := by rw [hwa]; exact Below.al (Below.refl _ _) _
  have hlo : Loose wa w.heap.size := by rw [hwa]; intro o; simp [go_sem]
  have hlt : w.heap.size < wa.heap.size := by rw [hwa]; simp
  have hli : Lie wa w.heap.size 64 ((xs.length + 1) * 3) := by rw [hwa]; exact ⟨_, (MapKept.heap_alloc _ _).1, by simp [madeCells]⟩
  rw [← hwa] at hmk hc
  obtain ⟨g, hg⟩ : ∃ g, g = w.heap.size := ⟨_, rfl⟩
  rw [← hg] at hmk hc hlo hlt hli
  have HC : Hid (CellsW wa g (fun _ => ⟨⟨#[]⟩, false, ⟨#[]⟩⟩) (xs.length + 1) ∧ Loose wa g ∧ g < wa.heap.size ∧ Below w.heap.size w wa ∧ g = w.heap.size ∧ Lie wa g 64 ((xs.length + 1) * 3)) := ⟨hc, hlo, hlt, hba, hg, hli⟩
  have HX := hid h
  clear hwa hc hba hlo hlt h hg hli
  go_enter Tryz.func20, Tryz.ntmps20
  go_wp2_with fail
  go_loopg [4] xs.length (fun gg s4 wr => ∃ k : Nat, k ≤ xs.length ∧ gg = xs.length - k ∧ s4 = .int .i64 k ∧ ∃ f, Hid (CellsW wr g f (xs.length + 1) ∧ (∀ i, i < k → f i = nthW xs i) ∧ Loose wr g ∧ g < wr.heap.size ∧ Below w.heap.size w wr ∧ g = w.heap.size ∧ Lie wr g 64 ((xs.length + 1) * 3)))
  case atStart => exact ⟨0, by omega, by omega, rfl, _, ⟨HC.out.1, fun i hi => by omega, HC.out.2⟩⟩
  case round =>
    obtain ⟨k, hk, rfl, rfl, f, HK⟩ := hrel
    clear HC hmk
    have d0 := (HK.out.1 k (by omega)).1
    have d1 := (HK.out.1 k (by omega)).2.1
    have d2 := (HK.out.1 k (by omega)).2.2
    have l0 := HK.out.2.2.1 (k * 3)
    have l1 := HK.out.2.2.1 (k * 3 + 1)
    have l2 := HK.out.2.2.1 (k * 3 + 2)
    by_cases hlt : k < xs.length
    · obtain ⟨b, off, rfl, c0, c1, c2⟩ := (HX.out.later HK.out.2.2.2.2.1) k hlt
      obtain ⟨x, hx⟩ : ∃ x, x = nthW xs k := ⟨_, rfl⟩
      rw [← hx] at c0 c1 c2
      have HN := hid hx
      have HP : Hid (CellsW (setW wr g k x) g (put f k x) (xs.length + 1) ∧ (∀ i, i < k + 1 → put f k x i = nthW xs i) ∧ Loose (setW wr g k x) g ∧ g < (setW wr g k x).heap.size ∧ Below w.heap.size w (setW wr g k x) ∧ g = w.heap.size ∧ Lie (setW wr g k x) g 64 ((xs.length + 1) * 3)) := by
        refine ⟨HK.out.1.put (by omega) x, fun i hi => ?_, ((HK.out.2.2.1.setc _ _).setc _ _).setc _ _, by simpa using HK.out.2.2.2.1, HK.out.2.2.2.2.1.trans ((onl_setW wr g k x).below (fun b e => by rw [e, HK.out.2.2.2.2.2.1]; exact Nat.le_refl _) HK.out.2.2.2.2.1.size), HK.out.2.2.2.2.2.1, ((HK.out.2.2.2.2.2.2.set _ _ _).set _ _ _).set _ _ _⟩
        by_cases e : i = k
        · subst e; rw [put_same, HN.out]
        · rw [put_other _ _ e]; exact HK.out.2.1 i (by omega)
      clear hx
      go_wp2_with fail
      go_roundg (xs.length - (k + 1))
      case measure => omega
      case rel => exact ⟨k + 1, by omega, rfl, by go_num, _, HP⟩
    · obtain rfl : k = xs.length := by omega
      have HP : Hid (RoomW w (setW wr g xs.length ⟨spareS, false, ⟨#[]⟩⟩) g xs) := by
        refine ⟨⟨_, HK.out.1.put (by omega) ⟨spareS, false, ⟨#[]⟩⟩, fun i hi => ?_, put_same _ _ _⟩, ((HK.out.2.2.1.setc _ _).setc _ _).setc _ _, by rw [HK.out.2.2.2.2.2.1]; exact Nat.le_refl _, by simpa using HK.out.2.2.2.1, HK.out.2.2.2.2.1.trans ((onl_setW wr g xs.length _).below (fun b e => by rw [e, HK.out.2.2.2.2.2.1]; exact Nat.le_refl _) HK.out.2.2.2.2.1.size), ((HK.out.2.2.2.2.2.2.set _ _ _).set _ _ _).set _ _ _⟩
        rw [put_other _ _ (by omega)]; exact HK.out.2.1 i hi
      go_wp2_with fail
      go_ret
      exact ⟨g, rfl, HP.out⟩

end Go.Proofs.YtgplnbdankfobaaGreatDoor
