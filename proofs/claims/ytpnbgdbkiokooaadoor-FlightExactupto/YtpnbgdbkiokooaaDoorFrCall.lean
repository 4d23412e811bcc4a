import Derived.Test.YtpnbgdbkiokooaaDoorFlCall
import Derived.Test.YtpnbgdbkiokooaaDoorFrRow
/- The document's flight: its small calls. -/
namespace Go.Proofs.YtpnbgdbkiokooaaDoor.Fl
open Go.RowKit Go.Sort Go.Proofs.YtpnbgdbkiokooaaDoor
set_option linter.unusedVariables false

theorem rnew_is (w : World) : Calls Tryd.prog 12 #[] w fun e w' => ∃ p, e = .returned (pt p) ∧ Hid (Rf w' w.heap.size p (.slice none 0 0) []) ∧ Hid (Below w.heap.size w w') := by
  go_enter Tryd.func12, Tryd.ntmps12
  go_wp2_with fail
  go_ret
  refine ⟨_, rfl, ⟨?_, ⟨_, World.alloc_heap_new _ _⟩, RowF.nil _ _, Nat.le_refl _⟩, Below.al (Below.refl _ _) _⟩
  simp [go_sem]
theorem rlen_is {w : World} {B p : Nat} {v : Value} {xs : List ByteArray} (h : Rf w B p v xs) : Calls Tryd.prog 22 #[pt p] w fun e w' => e = .returned (.int .i64 (xs.length : Int)) ∧ w' = w := by
  obtain ⟨a, c, rfl, hc, hm⟩ := h.row.slice
  have c0 := h.cell
  generalize xs.length = n at c0
  clear h hc hm
  go_enter Tryd.func22, Tryd.ntmps22
  go_wp2_with fail
  go_ret
  exact ⟨rfl, rfl⟩
theorem rright_in {w : World} {p n c : Nat} {a : Option Addr} (c0 : w.cell? ⟨p, 0, none⟩ = some (.slice a n c)) (i : Nat) (hi : i < n) : Calls Tryd.prog 37 #[pt p, .int .i64 (i : Int)] w fun e w' => e = .returned (.bool true) ∧ w' = w := by
  have k0 : decide ((i : Int) < 0) = false := by simp
  have k1 : decide ((i : Int) < (n : Int)) = true := by simp; exact hi
  go_enter Tryd.func37, Tryd.ntmps37
  go_wp2_with fail
  go_ret
  exact ⟨rfl, rfl⟩
theorem rright_out {w : World} {p n c : Nat} {a : Option Addr} (c0 : w.cell? ⟨p, 0, none⟩ = some (.slice a n c)) (i : Int) (hi : i < 0 ∨ (n : Int) ≤ i) : Calls Tryd.prog 37 #[pt p, .int .i64 i] w fun e w' => e = .returned (.bool false) ∧ w' = w := by
  by_cases h0 : i < 0
  · have k0 : decide (i < 0) = true := by simpa using h0
    go_enter Tryd.func37, Tryd.ntmps37
    go_wp2_with fail
    go_ret
    exact ⟨rfl, rfl⟩
  · have k0 : decide (i < 0) = false := by simpa using h0
    have k1 : decide (i < (n : Int)) = false := by simp; omega
    go_enter Tryd.func37, Tryd.ntmps37
    go_wp2_with fail
    go_ret
    exact ⟨rfl, rfl⟩
theorem rlook_in {w : World} {B p : Nat} {v : Value} {xs : List ByteArray} (h : Rf w B p v xs) (i : Nat) (hi : i < xs.length) : Calls Tryd.prog 23 #[pt p, .int .i64 (i : Int)] w fun e w' => e = .returned (lookV (nthT xs i) 0) ∧ w' = w := by
  rcases h.row with ⟨_, rfl⟩ | ⟨g, off, c, rfl, _, hr⟩
  · simp at hi
  have c0 := h.cell
  have c1 := hr.at_ i _ (nthT_get hi)
  have hc := hr.le
  have hm := hr.mx
  unfold maxLen at hm
  generalize xs.length = n at c0 hi hc
  generalize nthT xs i = t at c1 ⊢
  clear h hr
  go_enter Tryd.func23, Tryd.ntmps23
  go_wp2_with fail
  refine (rright_in c0 i hi).mono ?_
  rintro e w' ⟨rfl, rfl⟩
  go_wp2_with fail
  refine bodyPost_ret (v := lookV t 0) (by simp [results, Tryd.results23, go_sem]) rfl ?_
  exact ⟨rfl, rfl⟩
theorem rlook_out {w : World} {B p : Nat} {v : Value} {xs : List ByteArray} (h : Rf w B p v xs) (i : Int) (hi : i < 0 ∨ (xs.length : Int) ≤ i) : Calls Tryd.prog 23 #[pt p, .int .i64 i] w fun e w' => e = .returned (lookV mt 150) ∧ w' = w := by
  obtain ⟨a, c, rfl, hc, hm⟩ := h.row.slice
  have c0 := h.cell
  generalize xs.length = n at c0 hi
  clear h hc hm
  go_enter Tryd.func23, Tryd.ntmps23
  go_wp2_with fail
  refine (rright_out c0 i hi).mono ?_
  rintro e w' ⟨rfl, rfl⟩
  go_wp2_with fail
  refine bodyPost_ret (v := lookV mt 150) (by simp [results, Tryd.results23, go_sem]) rfl ?_
  exact ⟨rfl, rfl⟩
end Go.Proofs.YtpnbgdbkiokooaaDoor.Fl
