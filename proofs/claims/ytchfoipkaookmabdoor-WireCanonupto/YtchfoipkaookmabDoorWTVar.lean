import Derived.Test.YtchfoipkaookmabDoorWCVar
namespace Go.Proofs.YtchfoipkaookmabDoor
open Go.RowKit Go.Sort
set_option linter.unusedVariables false

set_option maxHeartbeats 400000 in
theorem dvar_raw {w : World} {b o m : Nat} {s : List Nat} {r : Int} (h : DecR w b o s r) (hl : s.length ≤ 9223372036854775807) :
    Calls Tryd.prog 20 #[.pointer (some ⟨b, o, none⟩), .int .u64 (m : Int)] w fun e w' => match vdec m s with
      | .ok v t => e = .returned (.int .u64 (v : Int)) ∧ Cel b o 2 w w' ∧ DecR w' b o t r
      | .short => e = .returned (.int .u64 0) ∧ Cel b o 2 w w' ∧ DecR w' b o [] (stopR r 30)
      | .form => e = .returned (.int .u64 0) ∧ Cel b o 2 w w' ∧ DecR w' b o [] (stopR r 31) := by
  have hmf : ∀ (fn : Fn) (first cap : Array Value) (w : World), (Instr.makeFunc fn first cap).run Tryd.prog w = .ok (.func fn first cap) w := fun _ _ _ _ => rfl
  obtain ⟨wa, hwa⟩ : ∃ wa, wa = w.alloc (.cells #[.pointer (some ⟨b, o, none⟩)] 32) := ⟨_, rfl⟩
  have hba : Below w.heap.size w wa := by rw [hwa]; exact Below.al (Below.refl _ _) _
  have H := hid (h.later hba)
  have hq : wa.cell? ⟨w.heap.size, 0, none⟩ = some (.pointer (some ⟨b, o, none⟩)) := by rw [hwa]; simp [go_sem]
  have hbl := h.lt
  have HWA := hid hwa
  clear h hwa
  cases hv : vdec m s with
  | ok v t =>
    have HV := hid hv
    clear hv
    go_enter_defers Tryd.func20, Tryd.ntmps20
    go_wp2_with (rw [← HWA.out]; go_at_call 37; refine (dnumber_any H.out hl).mono ?_; rw [HV.out]; rintro e w1 ⟨rfl, hc, hd⟩)
    have hq1 := hc.cell (.inl (by omega)) hq
    refine leaves_cons (f := 36) (args := #[.pointer (some ⟨w.heap.size, 0, none⟩)]) (by simp) (by simp [go_sem]) ?_
    refine (catch_var_idle hq1).mono ?_
    rintro e u' w2 ⟨rfl, rfl, rfl⟩
    refine ⟨.int .u64 v, by simp [results, Tryd.results20, go_sem], rfl, ((Cel.of_below hba).trans hc).drew, ⟨hd.c0, hd.c1, hd.b8, hd.loose⟩⟩
  | short =>
    have HV := hid hv
    clear hv
    go_enter_defers Tryd.func20, Tryd.ntmps20
    go_wp2_with (rw [← HWA.out]; go_at_call 37; refine (dnumber_any H.out hl).mono ?_; rw [HV.out]; rintro e w1 ⟨rfl, hc, t, hd⟩)
    have hq1 := hc.cell (.inl (by omega)) hq
    refine leaves_cons (f := 36) (args := #[.pointer (some ⟨w.heap.size, 0, none⟩)]) (by simp) (by simp [go_sem]) ?_
    refine (catch_var_bad hq1 hd).mono ?_
    rintro e u' w2 ⟨rfl, rfl, hc2, hd2⟩
    refine ⟨.int .u64 0, by simp [results, Tryd.results20, go_sem], rfl, ((Cel.of_below hba).trans hc).trans hc2, hd2⟩
  | form =>
    have HV := hid hv
    clear hv
    go_enter_defers Tryd.func20, Tryd.ntmps20
    go_wp2_with (rw [← HWA.out]; go_at_call 37; refine (dnumber_any H.out hl).mono ?_; rw [HV.out]; rintro e w1 ⟨rfl, hc, t, hd⟩)
    have hq1 := hc.cell (.inl (by omega)) hq
    refine leaves_cons (f := 36) (args := #[.pointer (some ⟨w.heap.size, 0, none⟩)]) (by simp) (by simp [go_sem]) ?_
    refine (catch_var_bad hq1 hd).mono ?_
    rintro e u' w2 ⟨rfl, rfl, hc2, hd2⟩
    refine ⟨.int .u64 0, by simp [results, Tryd.results20, go_sem], rfl, ((Cel.of_below hba).trans hc).trans hc2, hd2⟩

/-- Var(m): P3.3, P3.4 -/
theorem dvar_any {w : World} {b o m : Nat} {d : Ds} (h : DecAt w b o d) (hl : d.left.length ≤ 9223372036854775807) :
    Calls Tryd.prog 20 #[.pointer (some ⟨b, o, none⟩), .int .u64 (m : Int)] w fun e w' => e = .returned (.int .u64 ((tVar m d).1 : Int)) ∧ Cel b o 2 w w' ∧ DecAt w' b o (tVar m d).2 := by
  refine (dvar_raw (m := m) h.raw hl).mono ?_
  intro e w'
  have hok := h.ok
  cases d with
  | stop c =>
    have hc : c ≠ 0 := hok
    simp only [Ds.left, Ds.num, vdec, vgo, tVar, stopR, hc, if_false]
    rintro ⟨h1, h2, h3⟩
    exact ⟨h1, h2, h3, hc⟩
  | «at» s =>
    simp only [Ds.left, Ds.num, tVar, stopR, if_true]
    cases vdec m s with
    | ok v t => rintro ⟨h1, h2, h3⟩; exact ⟨h1, h2, h3, trivial⟩
    | short => rintro ⟨h1, h2, h3⟩; exact ⟨h1, h2, h3, show (30 : Int) ≠ 0 by decide⟩
    | form => rintro ⟨h1, h2, h3⟩; exact ⟨h1, h2, h3, show (31 : Int) ≠ 0 by decide⟩

end Go.Proofs.YtchfoipkaookmabDoor
