import Derived.Test.YtchfoipkaookmabDoorWStop
namespace Go.Proofs.YtchfoipkaookmabDoor
open Go.RowKit Go.Sort
set_option linter.unusedVariables false

theorem catch_var_bad {w : World} {b o q : Nat} {s : List Nat} {r c : Int} {older : List PanicEntry} (hq : w.cell? ⟨q, 0, none⟩ = some (.pointer (some ⟨b, o, none⟩))) (h : DecR w b o s r) :
    CallsD Tryd.prog 36 #[.pointer (some ⟨q, 0, none⟩)] (.panicking (fault c :: older)) w fun e u' w' =>
      e = .returned (.tuple #[]) ∧ u' = .panicking (fault' c :: older) ∧ Cel b o 2 w w' ∧ DecR w' b o [] (stopR r c) := by
  refine callsD_of_wpS Tryd.func36 rfl fun c₀ cs hu => ?_
  apply wpS_region_draw
  intro t
  have h' : DecR w.drew b o s r := ⟨h.c0, h.c1, h.b8, h.loose⟩
  change wpOpsS _ (cOps "dec.go:40") _ (Region.schedule _ (cOps "dec.go:40") t) _ _ _
  rcases c_orders "dec.go:40" (Tryd.prog.follows Departure.mixedOrders) t with e | e
  all_goals
    rw [e]
    simp [wpOpsS, cOps, go_sem, recoverD, hu, Tryd.ntmps36, hq]
    refine (stop_fault h').mono ?_
    rintro e1 w1 ⟨rfl, hc, hd⟩
    exact ⟨rfl, _, rfl, _, results_none rfl _ _ _, rfl, rfl, (Cel.refl b o 2 w).drew.trans hc, hd⟩

theorem catch_var_idle {w : World} {b o q : Nat} (hq : w.cell? ⟨q, 0, none⟩ = some (.pointer (some ⟨b, o, none⟩))) :
    CallsD Tryd.prog 36 #[.pointer (some ⟨q, 0, none⟩)] .returning w fun e u' w' => e = .returned (.tuple #[]) ∧ u' = .returning ∧ w' = w.drew := by
  refine callsD_of_wpS Tryd.func36 rfl fun c₀ cs hu => ?_
  apply wpS_region_draw
  intro t
  change wpOpsS _ (cOps "dec.go:40") _ (Region.schedule _ (cOps "dec.go:40") t) _ _ _
  rcases c_orders "dec.go:40" (Tryd.prog.follows Departure.mixedOrders) t with e | e
  all_goals
    rw [e]
    simp [wpOpsS, cOps, go_sem, recoverD, hu, Tryd.ntmps36, hq]
    refine stop_nil.mono ?_
    rintro e1 w1 ⟨rfl, rfl⟩
    refine ⟨rfl, .returning, ?_, _, results_none rfl _ _ _, rfl, rfl, rfl⟩
    cases c₀
    simp_all

end Go.Proofs.YtchfoipkaookmabDoor
