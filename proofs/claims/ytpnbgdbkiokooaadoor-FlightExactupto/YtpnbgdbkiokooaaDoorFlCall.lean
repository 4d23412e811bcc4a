import Derived.Test.YtpnbgdbkiokooaaDoorFlRow
import Derived.Lib.AppendZeros
/- The flight's small calls. -/
namespace Go.Proofs.YtpnbgdbkiokooaaDoor.Fl
open Go.RowKit Go.Sort Go.Proofs.YtpnbgdbkiokooaaDoor
set_option linter.unusedVariables false

abbrev pt (p : Nat) : Value := .pointer (some ⟨p, 0, none⟩)
abbrev mt : ByteArray := ⟨#[]⟩
theorem infoStr : (Tryd.prog.info? 9).map (fun i => (i.zero, i.size, i.bytes)) = some (some (.string ⟨#[]⟩), 1, 16) := by kernel_rfl
theorem info_ofF {P : Program} {t : TypeId} {z : Value} {n m : Nat} (h : (P.info? t).map (fun i => (i.zero, i.size, i.bytes)) = some (some z, n, m)) : ∃ i, P.info? t = some i ∧ i.zero = some z ∧ i.size = n ∧ i.bytes = m := by
  cases hi : P.info? t with
  | none => rw [hi] at h; cases h
  | some i =>
    rw [hi] at h
    simp only [Option.map_some, Option.some.injEq, Prod.mk.injEq] at h
    exact ⟨i, rfl, h.1, h.2.1, h.2.2⟩

theorem new_is (w : World) : Calls Tryd.prog 5 #[] w fun e w' => ∃ p, e = .returned (pt p) ∧ Hid (Fl w' w.heap.size p (.slice none 0 0) []) ∧ Hid (Below w.heap.size w w') := by
  go_enter Tryd.func5, Tryd.ntmps5
  go_wp2_with fail
  go_ret
  refine ⟨_, rfl, ⟨?_, ⟨_, World.alloc_heap_new _ _⟩, RowF.nil _ _, Nat.le_refl _⟩, Below.al (Below.refl _ _) _⟩
  simp [go_sem]
theorem len_is {w : World} {B p : Nat} {v : Value} {xs : List ByteArray} (h : Fl w B p v xs) : Calls Tryd.prog 9 #[pt p] w fun e w' => e = .returned (.int .i64 (xs.length : Int)) ∧ w' = w := by
  obtain ⟨a, c, rfl, hc, hm⟩ := h.row.slice
  have c0 := h.cell
  generalize xs.length = n at c0
  clear h hc hm
  go_enter Tryd.func9, Tryd.ntmps9
  go_wp2_with fail
  go_ret
  exact ⟨rfl, rfl⟩
theorem right_in {w : World} {p n c : Nat} {a : Option Addr} (c0 : w.cell? ⟨p, 0, none⟩ = some (.slice a n c)) (i : Nat) (hi : i < n) : Calls Tryd.prog 20 #[pt p, .int .i64 (i : Int)] w fun e w' => e = .returned (.bool true) ∧ w' = w := by
  have k0 : decide ((i : Int) < 0) = false := by simp
  have k1 : decide ((i : Int) < (n : Int)) = true := by simp; exact hi
  go_enter Tryd.func20, Tryd.ntmps20
  go_wp2_with fail
  go_ret
  exact ⟨rfl, rfl⟩
theorem right_out {w : World} {p n c : Nat} {a : Option Addr} (c0 : w.cell? ⟨p, 0, none⟩ = some (.slice a n c)) (i : Int) (hi : i < 0 ∨ (n : Int) ≤ i) : Calls Tryd.prog 20 #[pt p, .int .i64 i] w fun e w' => e = .returned (.bool false) ∧ w' = w := by
  by_cases h0 : i < 0
  · have k0 : decide (i < 0) = true := by simpa using h0
    go_enter Tryd.func20, Tryd.ntmps20
    go_wp2_with fail
    go_ret
    exact ⟨rfl, rfl⟩
  · have k0 : decide (i < 0) = false := by simpa using h0
    have k1 : decide (i < (n : Int)) = false := by simp; omega
    go_enter Tryd.func20, Tryd.ntmps20
    go_wp2_with fail
    go_ret
    exact ⟨rfl, rfl⟩
abbrev lookV (t : ByteArray) (e : Int) : Value := .tuple #[.string t, .int .i64 e]
theorem look_in {w : World} {B p : Nat} {v : Value} {xs : List ByteArray} (h : Fl w B p v xs) (i : Nat) (hi : i < xs.length) : Calls Tryd.prog 10 #[pt p, .int .i64 (i : Int)] w fun e w' => e = .returned (lookV (nthT xs i) 0) ∧ w' = w := by
  rcases h.row with ⟨_, rfl⟩ | ⟨g, off, c, rfl, _, hr⟩
  · simp at hi
  have c0 := h.cell
  have c1 := hr.at_ i _ (nthT_get hi)
  have hc := hr.le
  have hm := hr.mx
  unfold maxLen at hm
  generalize xs.length = n at c0 hi hc
  generalize nthT xs i = t at c1 ⊢
  clear h hr
  go_enter Tryd.func10, Tryd.ntmps10
  go_wp2_with fail
  refine (right_in c0 i hi).mono ?_
  rintro e w' ⟨rfl, rfl⟩
  go_wp2_with fail
  refine bodyPost_ret (v := lookV t 0) (by simp [results, Tryd.results10, go_sem]) rfl ?_
  exact ⟨rfl, rfl⟩
theorem look_out {w : World} {B p : Nat} {v : Value} {xs : List ByteArray} (h : Fl w B p v xs) (i : Int) (hi : i < 0 ∨ (xs.length : Int) ≤ i) : Calls Tryd.prog 10 #[pt p, .int .i64 i] w fun e w' => e = .returned (lookV mt 150) ∧ w' = w := by
  obtain ⟨a, c, rfl, hc, hm⟩ := h.row.slice
  have c0 := h.cell
  generalize xs.length = n at c0 hi
  clear h hc hm
  go_enter Tryd.func10, Tryd.ntmps10
  go_wp2_with fail
  refine (right_out c0 i hi).mono ?_
  rintro e w' ⟨rfl, rfl⟩
  go_wp2_with fail
  refine bodyPost_ret (v := lookV mt 150) (by simp [results, Tryd.results10, go_sem]) rfl ?_
  exact ⟨rfl, rfl⟩
theorem send_is {w : World} {B p : Nat} {v u : Value} {xs ys : List ByteArray} (h : Fl w B p v xs) (hu : Rd w u ys) (hl : (xs.length + ys.length) * 64 ≤ 140737488355328) (hB : B ≤ w.heap.size) :
    Calls Tryd.prog 6 #[pt p, u] w fun e w' => e = .returned (.tuple #[]) ∧ Hid (∃ v', Mv w w' B p v v' (xs ++ ys)) := by
  obtain ⟨i0, hi, hz0, hz1, hz2⟩ := info_ofF infoStr
  obtain ⟨v', w1, hr, hrow, hg, hn⟩ := run_append_F h.row hu 22 hi hz0 hz1 hz2 hl hB
  have hM := hid (h.put hg hrow hn)
  have c0 := h.cell
  have hp : w1.heap[p]? = w.heap[p]? := hg.block p h.lt (fun e => (h.apart (h.row.ty p e.symm)) rfl)
  have c1 : w1.cell? ⟨p, 0, none⟩ = some v := (World.cell?_of_block (a := ⟨p, 0, none⟩) hp).trans c0
  have f1 : w1.frozen? ⟨p, 0, none⟩ = false := (World.frozen?_of_block (a := ⟨p, 0, none⟩) hp).trans (h.loose 0)
  obtain ⟨a, c, rfl, _, _⟩ := h.row.slice
  obtain ⟨a', c', rfl, _, _⟩ := hrow.slice
  obtain ⟨au, cu, rfl, _⟩ := hu
  have HR := hid hr
  generalize xs.length = n at c0 c1 HR hM
  generalize (xs ++ ys).length = n' at HR hM
  generalize ys.length = m at HR
  clear h hl hB hi hz0 hz1 hz2 hrow hg hn hr hp
  go_enter Tryd.func6, Tryd.ntmps6
  go_wp2_with (at_builtin; refine Lib.wpList_append_run _ rfl _ _ _ _ rfl _ _ rfl rfl _ _ HR.out ?_)
  go_end0
  exact ⟨rfl, _, hM.out⟩
end Go.Proofs.YtpnbgdbkiokooaaDoor.Fl
