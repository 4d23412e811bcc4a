import Derived.Test.YthenfioddnkjbaaGreatDoorRzSt
import Derived.Deep.RegionLaw
import Derived.Lib.AppendZeros
import Derived.Test.YthenfioddnkjbaaGreatDoorRzPar
import Derived.Test.YthenfioddnkjbaaGreatDoorRzTnC
import Derived.Test.YthenfioddnkjbaaGreatDoorRxSt
import Derived.Test.YthenfioddnkjbaaGreatDoorRdSplit
import Derived.Test.YthenfioddnkjbaaGreatDoorRzMark
/- keep. -/
namespace Go.Proofs.YthenfioddnkjbaaGreatDoor.Bg
open Go.RowKit Go.Sort Go.Proofs.YthenfioddnkjbaaGreatDoor Go.Proofs.YthenfioddnkjbaaGreatDoor.Rt
set_option linter.unusedVariables false

set_option maxRecDepth 8000 in
set_option maxHeartbeats 4000000 in
theorem keepT_is {M : Nat → Nat → ByteArray} {T : TypeId} {w : World} {B b oo d q : Nat} {c : Nat → Nat} {s : Bv (ByteArray)} {z : Value} {xs : List (ByteArray)} (h : Bk elT M T w B b oo d c s) (hz : RwC elT w B c q z xs) (hq : 32 ≤ q ∧ q < 64) (hB : B ≤ w.heap.size) (hl : xs.length * 64 ≤ 140737488355328) (hF : (s.F.length + 1) * 64 ≤ 140737488355328) :
    Calls Tryz.prog 16 #[.pointer (some ⟨b, oo, none⟩), z] w fun e w' => e = .returned (.tuple #[]) ∧ Hid (∃ c' s', Kp elT M T w w' B b oo d c c' s s' q xs) := by
  obtain ⟨a1, n1, c1, w1, a2, n2, c2, w3, a3, n3, c3, w5, r1, y1, y2, y3, r2, y4, r3, y5, y6, HK⟩ := keep_plain okT okT2 h hz hq hB hl hF
  have x0 : w.cell? ⟨b, oo, none⟩ = some s.vf := h.c0
  obtain ⟨af, kf, hvf⟩ := owns_slice h.rf
  obtain ⟨aw, kw, hvw⟩ := owns_slice h.rw_
  obtain ⟨az, kz, hzv, _, _⟩ := hz.1.slice
  rw [hvf] at r1 x0 y1
  rw [hvw] at r3 y2 y4 y5
  rw [hzv] at r1 r2 ⊢
  dsimp only [elT] at r1 r2 r3
  have R1 := hid r1
  have R2 := hid r2
  have R3 := hid r3
  generalize s.F.length = fl at R1 x0 y1
  generalize s.Z.length = zl at R3 y2 y4 y5
  generalize xs.length = xl at R1 R2
  have y2' : (w1.setCell ⟨b, oo, none⟩ (.slice a1 n1 c1)).cell? ⟨b, oo + 1, none⟩ = some (.slice aw zl kw) := by
    rw [World.cell?_setCell_other _ _ _ _ (by simp)]; exact y2
  have y4a : (w3.alloc (.cells #[.slice a2 n2 c2] 23)).cell? ⟨b, oo + 1, none⟩ = some (.slice aw zl kw) := cell_later (Below.al (Below.refl _ _) _) y4
  clear h hz hq hB hl hF hvf hvw hzv r1 r2 r3
  go_enter Tryz.func16, Tryz.ntmps16
  go_wp2_with (at_builtin; refine Lib.wpList_append_run _ rfl _ _ _ _ rfl _ _ rfl rfl _ _ R1.out ?_)
  go_region_law (first | refine step_append_runB rfl (.const (.slice none 0 0)) (.tmp 19) 23 23 rfl (.slice none 0 0) (.slice az xl kz) (by simp [Act.eval]) (by simp [Act.eval, Act.put]) R2.out ?_ | refine step_append_runB rfl (.tmp 18) (.tmp 21) 33 33 rfl (.slice aw zl kw) (.slice (some ⟨w3.heap.size, 0, none⟩) 1 1) (by simp [Act.eval]) (by simp [Act.eval]) R3.out ?_)
  all_goals (try go_wp2_with fail)
  all_goals go_end0
  all_goals exact ⟨rfl, HK.out⟩
end Go.Proofs.YthenfioddnkjbaaGreatDoor.Bg
/- keep. -/
namespace Go.Proofs.YthenfioddnkjbaaGreatDoor.Bg
open Go.RowKit Go.Sort Go.Proofs.YthenfioddnkjbaaGreatDoor Go.Proofs.YthenfioddnkjbaaGreatDoor.Rt
set_option linter.unusedVariables false

set_option maxRecDepth 8000 in
set_option maxHeartbeats 4000000 in
theorem keepA_is {M : Nat → Nat → Pt} {T : TypeId} {w : World} {B b oo d q : Nat} {c : Nat → Nat} {s : Bv (Pt)} {z : Value} {xs : List (Pt)} (h : Bk elA M T w B b oo d c s) (hz : RwC elA w B c q z xs) (hq : 32 ≤ q ∧ q < 64) (hB : B ≤ w.heap.size) (hl : xs.length * 64 ≤ 140737488355328) (hF : (s.F.length + 1) * 64 ≤ 140737488355328) :
    Calls Tryz.prog 30 #[.pointer (some ⟨b, oo, none⟩), z] w fun e w' => e = .returned (.tuple #[]) ∧ Hid (∃ c' s', Kp elA M T w w' B b oo d c c' s s' q xs) := by
  obtain ⟨a1, n1, c1, w1, a2, n2, c2, w3, a3, n3, c3, w5, r1, y1, y2, y3, r2, y4, r3, y5, y6, HK⟩ := keep_plain okA okA2 h hz hq hB hl hF
  have x0 : w.cell? ⟨b, oo, none⟩ = some s.vf := h.c0
  obtain ⟨af, kf, hvf⟩ := owns_slice h.rf
  obtain ⟨aw, kw, hvw⟩ := owns_slice h.rw_
  obtain ⟨az, kz, hzv, _, _⟩ := hz.1.slice
  rw [hvf] at r1 x0 y1
  rw [hvw] at r3 y2 y4 y5
  rw [hzv] at r1 r2 ⊢
  dsimp only [elA] at r1 r2 r3
  have R1 := hid r1
  have R2 := hid r2
  have R3 := hid r3
  generalize s.F.length = fl at R1 x0 y1
  generalize s.Z.length = zl at R3 y2 y4 y5
  generalize xs.length = xl at R1 R2
  have y2' : (w1.setCell ⟨b, oo, none⟩ (.slice a1 n1 c1)).cell? ⟨b, oo + 1, none⟩ = some (.slice aw zl kw) := by
    rw [World.cell?_setCell_other _ _ _ _ (by simp)]; exact y2
  have y4a : (w3.alloc (.cells #[.slice a2 n2 c2] 70)).cell? ⟨b, oo + 1, none⟩ = some (.slice aw zl kw) := cell_later (Below.al (Below.refl _ _) _) y4
  clear h hz hq hB hl hF hvf hvw hzv r1 r2 r3
  go_enter Tryz.func30, Tryz.ntmps30
  go_wp2_with (at_builtin; refine Lib.wpList_append_run _ rfl _ _ _ _ rfl _ _ rfl rfl _ _ R1.out ?_)
  go_region_law (first | refine step_append_runB rfl (.const (.slice none 0 0)) (.tmp 19) 70 70 rfl (.slice none 0 0) (.slice az xl kz) (by simp [Act.eval]) (by simp [Act.eval, Act.put]) R2.out ?_ | refine step_append_runB rfl (.tmp 18) (.tmp 21) 36 36 rfl (.slice aw zl kw) (.slice (some ⟨w3.heap.size, 0, none⟩) 1 1) (by simp [Act.eval]) (by simp [Act.eval]) R3.out ?_)
  all_goals (try go_wp2_with fail)
  all_goals go_end0
  all_goals exact ⟨rfl, HK.out⟩
end Go.Proofs.YthenfioddnkjbaaGreatDoor.Bg
/- keep. -/
namespace Go.Proofs.YthenfioddnkjbaaGreatDoor.Bg
open Go.RowKit Go.Sort Go.Proofs.YthenfioddnkjbaaGreatDoor Go.Proofs.YthenfioddnkjbaaGreatDoor.Rt
set_option linter.unusedVariables false

set_option maxRecDepth 8000 in
set_option maxHeartbeats 4000000 in
theorem keepS_is {M : Nat → Nat → T2} {T : TypeId} {w : World} {B b oo d q : Nat} {c : Nat → Nat} {s : Bv (T2)} {z : Value} {xs : List (T2)} (h : Bk elS M T w B b oo d c s) (hz : RwC elS w B c q z xs) (hq : 32 ≤ q ∧ q < 64) (hB : B ≤ w.heap.size) (hl : xs.length * 64 ≤ 140737488355328) (hF : (s.F.length + 1) * 64 ≤ 140737488355328) :
    Calls Tryz.prog 39 #[.pointer (some ⟨b, oo, none⟩), z] w fun e w' => e = .returned (.tuple #[]) ∧ Hid (∃ c' s', Kp elS M T w w' B b oo d c c' s s' q xs) := by
  obtain ⟨a1, n1, c1, w1, a2, n2, c2, w3, a3, n3, c3, w5, r1, y1, y2, y3, r2, y4, r3, y5, y6, HK⟩ := keep_plain okS okS2 h hz hq hB hl hF
  have x0 : w.cell? ⟨b, oo, none⟩ = some s.vf := h.c0
  obtain ⟨af, kf, hvf⟩ := owns_slice h.rf
  obtain ⟨aw, kw, hvw⟩ := owns_slice h.rw_
  obtain ⟨az, kz, hzv, _, _⟩ := hz.1.slice
  rw [hvf] at r1 x0 y1
  rw [hvw] at r3 y2 y4 y5
  rw [hzv] at r1 r2 ⊢
  dsimp only [elS] at r1 r2 r3
  have R1 := hid r1
  have R2 := hid r2
  have R3 := hid r3
  generalize s.F.length = fl at R1 x0 y1
  generalize s.Z.length = zl at R3 y2 y4 y5
  generalize xs.length = xl at R1 R2
  have y2' : (w1.setCell ⟨b, oo, none⟩ (.slice a1 n1 c1)).cell? ⟨b, oo + 1, none⟩ = some (.slice aw zl kw) := by
    rw [World.cell?_setCell_other _ _ _ _ (by simp)]; exact y2
  have y4a : (w3.alloc (.cells #[.slice a2 n2 c2] 50)).cell? ⟨b, oo + 1, none⟩ = some (.slice aw zl kw) := cell_later (Below.al (Below.refl _ _) _) y4
  clear h hz hq hB hl hF hvf hvw hzv r1 r2 r3
  go_enter Tryz.func39, Tryz.ntmps39
  go_wp2_with (at_builtin; refine Lib.wpList_append_run _ rfl _ _ _ _ rfl _ _ rfl rfl _ _ R1.out ?_)
  go_region_law (first | refine step_append_runB rfl (.const (.slice none 0 0)) (.tmp 19) 50 50 rfl (.slice none 0 0) (.slice az xl kz) (by simp [Act.eval]) (by simp [Act.eval, Act.put]) R2.out ?_ | refine step_append_runB rfl (.tmp 18) (.tmp 21) 39 39 rfl (.slice aw zl kw) (.slice (some ⟨w3.heap.size, 0, none⟩) 1 1) (by simp [Act.eval]) (by simp [Act.eval]) R3.out ?_)
  all_goals (try go_wp2_with fail)
  all_goals go_end0
  all_goals exact ⟨rfl, HK.out⟩
end Go.Proofs.YthenfioddnkjbaaGreatDoor.Bg
/- keep. -/
namespace Go.Proofs.YthenfioddnkjbaaGreatDoor.Bg
open Go.RowKit Go.Sort Go.Proofs.YthenfioddnkjbaaGreatDoor Go.Proofs.YthenfioddnkjbaaGreatDoor.Rt
set_option linter.unusedVariables false

set_option maxRecDepth 8000 in
set_option maxHeartbeats 4000000 in
theorem keepW_is {M : Nat → Nat → Wr} {T : TypeId} {w : World} {B b oo d q : Nat} {c : Nat → Nat} {s : Bv (Wr)} {z : Value} {xs : List (Wr)} (h : Bk elW M T w B b oo d c s) (hz : RwC elW w B c q z xs) (hq : 32 ≤ q ∧ q < 64) (hB : B ≤ w.heap.size) (hl : xs.length * 64 ≤ 140737488355328) (hF : (s.F.length + 1) * 64 ≤ 140737488355328) :
    Calls Tryz.prog 40 #[.pointer (some ⟨b, oo, none⟩), z] w fun e w' => e = .returned (.tuple #[]) ∧ Hid (∃ c' s', Kp elW M T w w' B b oo d c c' s s' q xs) := by
  obtain ⟨a1, n1, c1, w1, a2, n2, c2, w3, a3, n3, c3, w5, r1, y1, y2, y3, r2, y4, r3, y5, y6, HK⟩ := keep_plain okW okW2 h hz hq hB hl hF
  have x0 : w.cell? ⟨b, oo, none⟩ = some s.vf := h.c0
  obtain ⟨af, kf, hvf⟩ := owns_slice h.rf
  obtain ⟨aw, kw, hvw⟩ := owns_slice h.rw_
  obtain ⟨az, kz, hzv, _, _⟩ := hz.1.slice
  rw [hvf] at r1 x0 y1
  rw [hvw] at r3 y2 y4 y5
  rw [hzv] at r1 r2 ⊢
  dsimp only [elW] at r1 r2 r3
  have R1 := hid r1
  have R2 := hid r2
  have R3 := hid r3
  generalize s.F.length = fl at R1 x0 y1
  generalize s.Z.length = zl at R3 y2 y4 y5
  generalize xs.length = xl at R1 R2
  have y2' : (w1.setCell ⟨b, oo, none⟩ (.slice a1 n1 c1)).cell? ⟨b, oo + 1, none⟩ = some (.slice aw zl kw) := by
    rw [World.cell?_setCell_other _ _ _ _ (by simp)]; exact y2
  have y4a : (w3.alloc (.cells #[.slice a2 n2 c2] 51)).cell? ⟨b, oo + 1, none⟩ = some (.slice aw zl kw) := cell_later (Below.al (Below.refl _ _) _) y4
  clear h hz hq hB hl hF hvf hvw hzv r1 r2 r3
  go_enter Tryz.func40, Tryz.ntmps40
  go_wp2_with (at_builtin; refine Lib.wpList_append_run _ rfl _ _ _ _ rfl _ _ rfl rfl _ _ R1.out ?_)
  go_region_law (first | refine step_append_runB rfl (.const (.slice none 0 0)) (.tmp 19) 51 51 rfl (.slice none 0 0) (.slice az xl kz) (by simp [Act.eval]) (by simp [Act.eval, Act.put]) R2.out ?_ | refine step_append_runB rfl (.tmp 18) (.tmp 21) 42 42 rfl (.slice aw zl kw) (.slice (some ⟨w3.heap.size, 0, none⟩) 1 1) (by simp [Act.eval]) (by simp [Act.eval]) R3.out ?_)
  all_goals (try go_wp2_with fail)
  all_goals go_end0
  all_goals exact ⟨rfl, HK.out⟩
end Go.Proofs.YthenfioddnkjbaaGreatDoor.Bg
/- keep, at the book of four. -/
namespace Go.Proofs.YthenfioddnkjbaaGreatDoor.Bg
open Go.RowKit Go.Sort Go.Proofs.YthenfioddnkjbaaGreatDoor Go.Proofs.YthenfioddnkjbaaGreatDoor.Rt
set_option linter.unusedVariables false
/-- what keep leaves of what is in hand (colours 32 to 63) and of what is aside (0 to 7) -/
structure Kept (w w' : World) (c c' : Nat → Nat) (q : Nat) : Prop where
  onl : Onl (fun k => 8 ≤ c k ∧ c k < 32) w w'
  col : ∀ k, k < w.heap.size → c k ≠ q → c' k = c k
theorem Kept.row {α : Type} {E : El α} {w w' : World} {B : Nat} {c c' : Nat → Nat} {q r : Nat} {z : Value} {xs : List α} (k : Kept w w' c c' q) (h : RwC E w B c r z xs) (hr : 32 ≤ r) (hn : r ≠ q) : RwC E w' B c' r z xs :=
  h.onl (S := fun j => 8 ≤ j ∧ j < 32) k.onl (by omega) (fun j hj e => by rw [k.col j hj (by omega)]; exact e)
theorem Kept.cell {w w' : World} {c c' : Nat → Nat} {q g o : Nat} {v : Value} (k : Kept w w' c c' q) (hg : c g < 8) (h : w.cell? ⟨g, o, none⟩ = some v) : w'.cell? ⟨g, o, none⟩ = some v := k.onl.cell (by omega) h
section
variable {W w w' : World} {c c' : Nat → Nat} {b m : Nat} {x : B4v}
/-- a list of one's own goes into the book; what else is in hand stays -/
theorem B4.keepT (h : B4 W w c b x m) {q : Nat} {z : Value} {xs : List (ByteArray)} (hz : RwC elT w W.heap.size c q z xs) (hq : 32 ≤ q ∧ q < 64) (hm : m ≤ 1073741824) (hx : xs.length ≤ 1073741824) :
    Calls Tryz.prog 16 #[.pointer (some ⟨b, 0, none⟩), z] w fun e w' => e = .returned (.tuple #[]) ∧ Hid (∃ c' x', B4 W w' c' b x' (m + 1) ∧ Kept w w' c c' q) := by
  have hle := h.t.le
  refine (keepT_is h.t.bk hz hq h.bl.size (by omega) (by omega)).mono ?_
  rintro e w' ⟨rfl, c', s', k⟩
  exact ⟨rfl, c', _, h.kpT k hq hx, ⟨k.onl.mono fun k hk => by omega, k.col⟩⟩
/-- a list of one's own goes into the book; what else is in hand stays -/
theorem B4.keepA (h : B4 W w c b x m) {q : Nat} {z : Value} {xs : List (Pt)} (hz : RwC elA w W.heap.size c q z xs) (hq : 32 ≤ q ∧ q < 64) (hm : m ≤ 1073741824) (hx : xs.length ≤ 1073741824) :
    Calls Tryz.prog 30 #[.pointer (some ⟨b, 4, none⟩), z] w fun e w' => e = .returned (.tuple #[]) ∧ Hid (∃ c' x', B4 W w' c' b x' (m + 1) ∧ Kept w w' c c' q) := by
  have hle := h.a.le
  refine (keepA_is h.a.bk hz hq h.bl.size (by omega) (by omega)).mono ?_
  rintro e w' ⟨rfl, c', s', k⟩
  exact ⟨rfl, c', _, h.kpA k hq hx, ⟨k.onl.mono fun k hk => by omega, k.col⟩⟩
/-- a list of one's own goes into the book; what else is in hand stays -/
theorem B4.keepS (h : B4 W w c b x m) {q : Nat} {z : Value} {xs : List (T2)} (hz : RwC elS w W.heap.size c q z xs) (hq : 32 ≤ q ∧ q < 64) (hm : m ≤ 1073741824) (hx : xs.length ≤ 1073741824) :
    Calls Tryz.prog 39 #[.pointer (some ⟨b, 8, none⟩), z] w fun e w' => e = .returned (.tuple #[]) ∧ Hid (∃ c' x', B4 W w' c' b x' (m + 1) ∧ Kept w w' c c' q) := by
  have hle := h.s.le
  refine (keepS_is h.s.bk hz hq h.bl.size (by omega) (by omega)).mono ?_
  rintro e w' ⟨rfl, c', s', k⟩
  exact ⟨rfl, c', _, h.kpS k hq hx, ⟨k.onl.mono fun k hk => by omega, k.col⟩⟩
/-- a list of one's own goes into the book; what else is in hand stays -/
theorem B4.keepW (h : B4 W w c b x m) {q : Nat} {z : Value} {xs : List (Wr)} (hz : RwC elW w W.heap.size c q z xs) (hq : 32 ≤ q ∧ q < 64) (hm : m ≤ 1073741824) (hx : xs.length ≤ 1073741824) :
    Calls Tryz.prog 40 #[.pointer (some ⟨b, 12, none⟩), z] w fun e w' => e = .returned (.tuple #[]) ∧ Hid (∃ c' x', B4 W w' c' b x' (m + 1) ∧ Kept w w' c c' q) := by
  have hle := h.v.le
  refine (keepW_is h.v.bk hz hq h.bl.size (by omega) (by omega)).mono ?_
  rintro e w' ⟨rfl, c', s', k⟩
  exact ⟨rfl, c', _, h.kpW k hq hx, ⟨k.onl.mono fun k hk => by omega, k.col⟩⟩
end
end Go.Proofs.YthenfioddnkjbaaGreatDoor.Bg
/- texts: the calls about texts. -/
namespace Go.Proofs.YthenfioddnkjbaaGreatDoor.Bg
open Go.RowKit Go.Sort Go.Stop Go.Proofs.YthenfioddnkjbaaGreatDoor Go.Proofs.YthenfioddnkjbaaGreatDoor.Rt
set_option linter.unusedVariables false

/-- new lists in hand get colours of their own -/
def hand (n : Nat) (c : Nat → Nat) (u v : Value) : Nat → Nat := fun k => if k < n then c k else if u.ownBlock = some k then 32 else if v.ownBlock = some k then 36 else 0
theorem hand_old {n : Nat} {c : Nat → Nat} {u v : Value} {k : Nat} (h : k < n) : hand n c u v k = c k := by simp [hand, h]
theorem hand_box {n : Nat} {c : Nat → Nat} {u v : Value} {k : Nat} (h : n ≤ k) (hu : u.ownBlock ≠ some k) (hv : v.ownBlock ≠ some k) : hand n c u v k = 0 := by
  unfold hand; rw [if_neg (by omega), if_neg hu, if_neg hv]
/-- what a step leaves -/
abbrev After (W : World) (b m : Nat) (e : Ending) (w' : World) : Prop := e = .returned (.bool true) ∧ Hid (∃ c' x', B4 W w' c' b x' m)
theorem B4.still {W w w' : World} {c : Nat → Nat} {b m n : Nat} {x : B4v} (h : B4 W w c b x m) (hb : Below w.heap.size w w') (hn : m ≤ n) : ∃ c' x', B4 W w' c' b x' n := ⟨c, x, (h.later hb fun _ _ => rfl).mono hn⟩

end Go.Proofs.YthenfioddnkjbaaGreatDoor.Bg
