import Derived.Test.YtchfoipkaookmabDoorWCatch
import Derived.Test.YtchfoipkaookmabDoorWOrders
import Derived.Test.YtchfoipkaookmabDoorWText
namespace Go.Proofs.YtchfoipkaookmabDoor
open Go.RowKit Go.Sort
set_option linter.unusedVariables false

set_option maxHeartbeats 400000 in
theorem dbyte_ok {w : World} {b o x : Nat} {t : List Nat} {r : Int} (h : DecR w b o (x :: t) r) (hl : t.length + 1 ≤ 9223372036854775807) :
    Calls Tryd.prog 13 #[.pointer (some ⟨b, o, none⟩)] w fun e w' => e = .returned (.int .u8 (x : Int)) ∧ Cel b o 2 w w' ∧ DecR w' b o t r := by
  have hmf : ∀ (fn : Fn) (first cap : Array Value) (w : World), (Instr.makeFunc fn first cap).run Tryd.prog w = .ok (.func fn first cap) w := fun _ _ _ _ => rfl
  obtain ⟨wa, hwa⟩ : ∃ wa, wa = w.alloc (.cells #[.pointer (some ⟨b, o, none⟩)] 32) := ⟨_, rfl⟩
  have hba : Below w.heap.size w wa := by rw [hwa]; exact Below.al (Below.refl _ _) _
  have H := hid (h.later hba)
  have hq : wa.cell? ⟨w.heap.size, 0, none⟩ = some (.pointer (some ⟨b, o, none⟩)) := by rw [hwa]; simp [go_sem]
  have hbl := h.lt
  have HWA := hid hwa
  clear h hwa
  go_enter_defers Tryd.func13, Tryd.ntmps13
  go_wp2_with (rw [← HWA.out]; go_at_call 33; refine (next_ok H.out hl).mono ?_; rintro e w1 ⟨rfl, hc, hd⟩)
  have hq1 := hc.cell (.inl (by omega)) hq
  refine leaves_cons (f := 31) (args := #[.pointer (some ⟨w.heap.size, 0, none⟩)]) (by simp) (by simp [go_sem]) ?_
  refine (catch_byte_idle hq1).mono ?_
  rintro e u' w9 ⟨rfl, rfl, rfl⟩
  refine ⟨.int .u8 x, by simp [results, Tryd.results13, go_sem], rfl, ((Cel.of_below hba).trans hc).drew, hd.drew⟩

set_option maxHeartbeats 400000 in
theorem dbyte_bad {w : World} {b o : Nat} {r : Int} (h : DecR w b o [] r) :
    Calls Tryd.prog 13 #[.pointer (some ⟨b, o, none⟩)] w fun e w' => e = .returned (.int .u8 0) ∧ Cel b o 2 w w' ∧ DecR w' b o [] (stopR r 30) := by
  have hmf : ∀ (fn : Fn) (first cap : Array Value) (w : World), (Instr.makeFunc fn first cap).run Tryd.prog w = .ok (.func fn first cap) w := fun _ _ _ _ => rfl
  obtain ⟨wa, hwa⟩ : ∃ wa, wa = w.alloc (.cells #[.pointer (some ⟨b, o, none⟩)] 32) := ⟨_, rfl⟩
  have hba : Below w.heap.size w wa := by rw [hwa]; exact Below.al (Below.refl _ _) _
  have H := hid (h.later hba)
  have hq : wa.cell? ⟨w.heap.size, 0, none⟩ = some (.pointer (some ⟨b, o, none⟩)) := by rw [hwa]; simp [go_sem]
  have hbl := h.lt
  have HWA := hid hwa
  clear h hwa
  go_enter_defers Tryd.func13, Tryd.ntmps13
  go_wp2_with (rw [← HWA.out]; go_at_call 33; refine (next_bad H.out).mono ?_; rintro e w1 ⟨rfl, rfl⟩)
  have hq1 := hq
  have hd := H.out
  refine leaves_cons (f := 31) (args := #[.pointer (some ⟨w.heap.size, 0, none⟩)]) (by simp) (by simp [go_sem]) ?_
  refine (catch_byte_bad hq1 hd).mono ?_
  rintro e u' w9 ⟨rfl, rfl, hc9, hd9⟩
  refine ⟨.int .u8 0, by simp [results, Tryd.results13, go_sem], rfl, (Cel.of_below hba).trans hc9, hd9⟩

/-- Byte: P3.3, P3.4 -/
theorem dbyte_is {w : World} {b o x : Nat} {d d' : Ds} (h : DecAt w b o d) (hl : d.left.length ≤ 9223372036854775807) (hv : tByte d = (x, d')) :
    Calls Tryd.prog 13 #[.pointer (some ⟨b, o, none⟩)] w fun e w' => e = .returned (.int .u8 (x : Int)) ∧ Cel b o 2 w w' ∧ DecAt w' b o d' := by
  have hok := h.ok
  cases d with
  | stop c =>
    have hc : c ≠ 0 := hok
    simp only [tByte] at hv
    injection hv with h1 h2
    subst h1 h2
    refine (dbyte_bad h.raw).mono ?_
    rintro e w' ⟨h1, h2, h3⟩
    have e1 : stopR (Ds.stop c).num 30 = c := if_neg hc
    rw [e1] at h3
    exact ⟨h1, h2, h3, hc⟩
  | «at» s =>
    cases s with
    | nil =>
      simp only [tByte] at hv
      injection hv with h1 h2
      subst h1 h2
      refine (dbyte_bad h.raw).mono ?_
      rintro e w' ⟨h1, h2, h3⟩
      exact ⟨h1, h2, h3, show (30 : Int) ≠ 0 by decide⟩
    | cons y t =>
      simp only [tByte] at hv
      injection hv with h1 h2
      subst h1 h2
      refine (dbyte_ok h.raw hl).mono ?_
      rintro e w' ⟨h1, h2, h3⟩
      exact ⟨h1, h2, h3, trivial⟩

end Go.Proofs.YtchfoipkaookmabDoor
