import Derived.Test.YtchfoipkaookmabDoorWCatch
import Derived.Test.YtchfoipkaookmabDoorWOrders
import Derived.Test.YtchfoipkaookmabDoorWText
namespace Go.Proofs.YtchfoipkaookmabDoor
open Go.RowKit Go.Sort
set_option linter.unusedVariables false

set_option maxHeartbeats 400000 in
theorem dflag_ok {w : World} {b o x : Nat} {t : List Nat} {r : Int} (h : DecR w b o (x :: t) r) (hx : x = 0 ∨ x = 1) (hl : t.length + 1 ≤ 9223372036854775807) :
    Calls Tryd.prog 18 #[.pointer (some ⟨b, o, none⟩)] w fun e w' => e = .returned (.bool (decide (x = 1))) ∧ Cel b o 2 w w' ∧ DecR w' b o t r := by
  have hmf : ∀ (fn : Fn) (first cap : Array Value) (w : World), (Instr.makeFunc fn first cap).run Tryd.prog w = .ok (.func fn first cap) w := fun _ _ _ _ => rfl
  obtain ⟨wa, hwa⟩ : ∃ wa, wa = w.alloc (.cells #[.pointer (some ⟨b, o, none⟩)] 32) := ⟨_, rfl⟩
  have hba : Below w.heap.size w wa := by rw [hwa]; exact Below.al (Below.refl _ _) _
  have H := hid (h.later hba)
  have hq : wa.cell? ⟨w.heap.size, 0, none⟩ = some (.pointer (some ⟨b, o, none⟩)) := by rw [hwa]; simp [go_sem]
  have hbl := h.lt
  have HWA := hid hwa
  clear h hwa
  rcases hx with rfl | rfl
  all_goals
    go_enter_defers Tryd.func18, Tryd.ntmps18
    go_wp2_with (rw [← HWA.out]; go_at_call 33; refine (next_ok H.out hl).mono ?_; rintro e w1 ⟨rfl, hc, hd⟩)
    have hq1 := hc.cell (.inl (by omega)) hq
    refine leaves_cons (f := 35) (args := #[.pointer (some ⟨w.heap.size, 0, none⟩)]) (by simp) (by simp [go_sem]) ?_
    refine (catch_flag_idle hq1).mono ?_
    rintro e u' w9 ⟨rfl, rfl, rfl⟩
    refine ⟨_, by simp [results, Tryd.results18, go_sem], rfl, ((Cel.of_below hba).trans hc).drew, hd.drew⟩

set_option maxHeartbeats 400000 in
theorem dflag_form {w : World} {b o x : Nat} {t : List Nat} {r : Int} (h : DecR w b o (x :: t) r) (hx : ¬ (x = 0 ∨ x = 1)) (hl : t.length + 1 ≤ 9223372036854775807) :
    Calls Tryd.prog 18 #[.pointer (some ⟨b, o, none⟩)] w fun e w' => e = .returned (.bool false) ∧ Cel b o 2 w w' ∧ DecR w' b o [] (stopR r 31) := by
  have e1 : ((x : Int) != 1) = true := by simp; omega
  have e0 : ((x : Int) != 0) = true := by simp; omega
  have f1 : decide ((x : Int) = 1) = false := by simp; omega
  have f0 : decide ((x : Int) = 0) = false := by simp; omega
  have hmf : ∀ (fn : Fn) (first cap : Array Value) (w : World), (Instr.makeFunc fn first cap).run Tryd.prog w = .ok (.func fn first cap) w := fun _ _ _ _ => rfl
  obtain ⟨wa, hwa⟩ : ∃ wa, wa = w.alloc (.cells #[.pointer (some ⟨b, o, none⟩)] 32) := ⟨_, rfl⟩
  have hba : Below w.heap.size w wa := by rw [hwa]; exact Below.al (Below.refl _ _) _
  have H := hid (h.later hba)
  have hq : wa.cell? ⟨w.heap.size, 0, none⟩ = some (.pointer (some ⟨b, o, none⟩)) := by rw [hwa]; simp [go_sem]
  have hbl := h.lt
  have HWA := hid hwa
  clear h hwa
  have HX := hid hx
  clear hx
  go_enter_defers Tryd.func18, Tryd.ntmps18
  go_wp2_with (rw [← HWA.out]; go_at_call 33; refine (next_ok H.out hl).mono ?_; rintro e w1 ⟨rfl, hc, hd⟩)
  have hq1 := hc.cell (.inl (by omega)) hq
  refine leaves_cons (f := 35) (args := #[.pointer (some ⟨w.heap.size, 0, none⟩)]) (by simp) (by simp [go_sem]) ?_
  refine (catch_flag_bad hq1 hd).mono ?_
  rintro e u' w9 ⟨rfl, rfl, hc9, hd9⟩
  refine ⟨.bool false, by simp [results, Tryd.results18, go_sem], rfl, ((Cel.of_below hba).trans hc).trans hc9, hd9⟩

set_option maxHeartbeats 400000 in
theorem dflag_bad {w : World} {b o : Nat} {r : Int} (h : DecR w b o [] r) :
    Calls Tryd.prog 18 #[.pointer (some ⟨b, o, none⟩)] w fun e w' => e = .returned (.bool false) ∧ Cel b o 2 w w' ∧ DecR w' b o [] (stopR r 30) := by
  have hmf : ∀ (fn : Fn) (first cap : Array Value) (w : World), (Instr.makeFunc fn first cap).run Tryd.prog w = .ok (.func fn first cap) w := fun _ _ _ _ => rfl
  obtain ⟨wa, hwa⟩ : ∃ wa, wa = w.alloc (.cells #[.pointer (some ⟨b, o, none⟩)] 32) := ⟨_, rfl⟩
  have hba : Below w.heap.size w wa := by rw [hwa]; exact Below.al (Below.refl _ _) _
  have H := hid (h.later hba)
  have hq : wa.cell? ⟨w.heap.size, 0, none⟩ = some (.pointer (some ⟨b, o, none⟩)) := by rw [hwa]; simp [go_sem]
  have hbl := h.lt
  have HWA := hid hwa
  clear h hwa
  go_enter_defers Tryd.func18, Tryd.ntmps18
  go_wp2_with (rw [← HWA.out]; go_at_call 33; refine (next_bad H.out).mono ?_; rintro e w1 ⟨rfl, rfl⟩)
  have hq1 := hq
  have hd := H.out
  refine leaves_cons (f := 35) (args := #[.pointer (some ⟨w.heap.size, 0, none⟩)]) (by simp) (by simp [go_sem]) ?_
  refine (catch_flag_bad hq1 hd).mono ?_
  rintro e u' w9 ⟨rfl, rfl, hc9, hd9⟩
  refine ⟨.bool false, by simp [results, Tryd.results18, go_sem], rfl, (Cel.of_below hba).trans hc9, hd9⟩

/-- Flag: P3.3, P3.4 -/
theorem dflag_is {w : World} {b o : Nat} {x : Bool} {d d' : Ds} (h : DecAt w b o d) (hl : d.left.length ≤ 9223372036854775807) (hv : tFlag d = (x, d')) :
    Calls Tryd.prog 18 #[.pointer (some ⟨b, o, none⟩)] w fun e w' => e = .returned (.bool x) ∧ Cel b o 2 w w' ∧ DecAt w' b o d' := by
  have hok := h.ok
  cases d with
  | stop c =>
    have hc : c ≠ 0 := hok
    simp only [tFlag] at hv
    injection hv with h1 h2
    subst h1 h2
    refine (dflag_bad h.raw).mono ?_
    rintro e w' ⟨h1, h2, h3⟩
    have e1 : stopR (Ds.stop c).num 30 = c := if_neg hc
    rw [e1] at h3
    exact ⟨h1, h2, h3, hc⟩
  | «at» s =>
    cases s with
    | nil =>
      simp only [tFlag] at hv
      injection hv with h1 h2
      subst h1 h2
      refine (dflag_bad h.raw).mono ?_
      rintro e w' ⟨h1, h2, h3⟩
      exact ⟨h1, h2, h3, show (30 : Int) ≠ 0 by decide⟩
    | cons y t =>
      by_cases hy : y = 0 ∨ y = 1
      · have hv' : x = decide (y = 1) ∧ d' = .at t := by
          rcases hy with rfl | rfl
          · simp only [tFlag, if_true] at hv
            injection hv with h1 h2
            exact ⟨h1.symm, h2.symm⟩
          · have hv2 : (true, Ds.at t) = (x, d') := hv
            injection hv2 with h1 h2
            exact ⟨h1.symm, h2.symm⟩
        obtain ⟨rfl, rfl⟩ := hv'
        refine (dflag_ok h.raw hy hl).mono ?_
        rintro e w' ⟨h1, h2, h3⟩
        exact ⟨h1, h2, h3, trivial⟩
      · have h0 : ¬ y = 0 := fun e => hy (.inl e)
        have h1' : ¬ y = 1 := fun e => hy (.inr e)
        simp only [tFlag, h0, h1', if_false] at hv
        injection hv with h1 h2
        subst h1 h2
        refine (dflag_form h.raw hy hl).mono ?_
        rintro e w' ⟨h1, h2, h3⟩
        exact ⟨h1, h2, h3, show (31 : Int) ≠ 0 by decide⟩

end Go.Proofs.YtchfoipkaookmabDoor
