import Derived.Test.YtpnbgdbkiokooaaDoorFlTake
/- Drop and Copy. -/
namespace Go.Proofs.YtpnbgdbkiokooaaDoor.Fl
open Go.RowKit Go.Sort Go.Proofs.YtpnbgdbkiokooaaDoor
set_option linter.unusedVariables false

theorem drop_in {w : World} {B p : Nat} {v : Value} {xs : List ByteArray} (h : Fl w B p v xs) (i : Nat) (hi : i < xs.length) :
    Calls Tryd.prog 25 #[pt p, .int .i64 (i : Int)] w fun e w' => e = .returned (.int .i64 0) ∧ Hid (∃ v', Mv w w' B p v v' (xs.eraseIdx i)) := by
  have HT := hid (take_in h i hi)
  generalize nthT xs i = t at HT
  clear h hi
  go_enter Tryd.func25, Tryd.ntmps25
  go_wp2_with fail
  refine HT.out.mono ?_
  rintro e w1 ⟨rfl, hM⟩
  go_wp2_with fail
  go_ret
  exact ⟨rfl, hM⟩
theorem drop_out {w : World} {B p : Nat} {v : Value} {xs : List ByteArray} (h : Fl w B p v xs) (i : Int) (hi : i < 0 ∨ (xs.length : Int) ≤ i) :
    Calls Tryd.prog 25 #[pt p, .int .i64 i] w fun e w' => e = .returned (.int .i64 150) ∧ w' = w := by
  have HT := hid (take_out h i hi)
  clear h hi
  go_enter Tryd.func25, Tryd.ntmps25
  go_wp2_with fail
  refine HT.out.mono ?_
  rintro e w1 ⟨rfl, rfl⟩
  go_wp2_with fail
  go_ret
  exact ⟨rfl, rfl⟩
theorem rd_one (w : World) (t : ByteArray) : Rd (w.alloc (.cells #[.string t] 9)) (.slice (some ⟨w.heap.size, 0, none⟩) 1 1) [t] := by
  refine ⟨_, _, rfl, fun i u e => ⟨_, _, rfl, ?_⟩⟩
  match i, e with
  | 0, e =>
    simp at e
    subst e
    exact cell_obj (World.alloc_heap_new _ _) rfl
  | i + 1, e => simp at e
theorem copy_in {w : World} {B p : Nat} {v : Value} {xs : List ByteArray} (h : Fl w B p v xs) (i : Nat) (hi : i < xs.length) (hl : (xs.length + 1) * 64 ≤ 140737488355328) (hB : B ≤ w.heap.size) :
    Calls Tryd.prog 27 #[pt p, .int .i64 (i : Int)] w fun e w' => e = .returned (.int .i64 0) ∧ Hid (∃ v', Mv w w' B p v v' (xs ++ [nthT xs i])) := by
  have HL := hid (look_in h i hi)
  have HF := hid h
  generalize nthT xs i = t at HL ⊢
  obtain ⟨w1, hw1⟩ : ∃ w1, w1 = w.alloc (.cells #[.string t] 9) := ⟨_, rfl⟩
  have hb1 : Below w.heap.size w w1 := by rw [hw1]; exact Below.al (Below.refl _ _) _
  have HS := hid (send_is (u := .slice (some ⟨w.heap.size, 0, none⟩) 1 1) (h.later hb1) (by rw [hw1]; exact rd_one w t) (by simpa using hl) (Nat.le_trans hB hb1.size))
  have HB1 := hid hb1
  have HW1 := hid hw1
  clear h hi hl hB hb1 hw1
  go_enter Tryd.func27, Tryd.ntmps27
  go_wp2_with fail
  refine HL.out.mono ?_
  rintro e w' ⟨rfl, rfl⟩
  go_wp2_with fail
  rw [← HW1.out]
  refine HS.out.mono ?_
  rintro e w2 ⟨rfl, hM⟩
  go_wp2_with fail
  go_ret
  obtain ⟨v', hM⟩ := hM
  exact ⟨rfl, v', (Mv.refl HF.out HB1.out).trans hM⟩
theorem copy_out {w : World} {B p : Nat} {v : Value} {xs : List ByteArray} (h : Fl w B p v xs) (i : Int) (hi : i < 0 ∨ (xs.length : Int) ≤ i) :
    Calls Tryd.prog 27 #[pt p, .int .i64 i] w fun e w' => e = .returned (.int .i64 150) ∧ w' = w := by
  have HL := hid (look_out h i hi)
  clear h hi
  go_enter Tryd.func27, Tryd.ntmps27
  go_wp2_with fail
  refine HL.out.mono ?_
  rintro e w' ⟨rfl, rfl⟩
  go_wp2_with fail
  go_ret
  exact ⟨rfl, rfl⟩
end Go.Proofs.YtpnbgdbkiokooaaDoor.Fl
