import Derived.Test.YtchfoipkaookmabDoorWStop
namespace Go.Proofs.YtchfoipkaookmabDoor
open Go.RowKit Go.Sort
set_option linter.unusedVariables false

theorem catch_byte_bad {w : World} {b o q : Nat} {s : List Nat} {r c : Int} {older : List PanicEntry} (hq : w.cell? ⟨q, 0, none⟩ = some (.pointer (some ⟨b, o, none⟩))) (h : DecR w b o s r) :
    CallsD Tryd.prog 31 #[.pointer (some ⟨q, 0, none⟩)] (.panicking (fault c :: older)) w fun e u' w' =>
      e = .returned (.tuple #[]) ∧ u' = .panicking (fault' c :: older) ∧ Cel b o 2 w w' ∧ DecR w' b o [] (stopR r c) := by
  refine callsD_of_wpS Tryd.func31 rfl fun c₀ cs hu => ?_
  apply wpS_region_draw
  intro t
  have h' : DecR w.drew b o s r := ⟨h.c0, h.c1, h.b8, h.loose⟩
  change wpOpsS _ (cOps "dec.go:24") _ (Region.schedule _ (cOps "dec.go:24") t) _ _ _
  rcases c_orders "dec.go:24" (Tryd.prog.follows Departure.mixedOrders) t with e | e
  all_goals
    rw [e]
    simp [wpOpsS, cOps, go_sem, recoverD, hu, Tryd.ntmps31, hq]
    refine (stop_fault h').mono ?_
    rintro e1 w1 ⟨rfl, hc, hd⟩
    exact ⟨rfl, _, rfl, _, results_none rfl _ _ _, rfl, rfl, (Cel.refl b o 2 w).drew.trans hc, hd⟩

theorem catch_byte_idle {w : World} {b o q : Nat} (hq : w.cell? ⟨q, 0, none⟩ = some (.pointer (some ⟨b, o, none⟩))) :
    CallsD Tryd.prog 31 #[.pointer (some ⟨q, 0, none⟩)] .returning w fun e u' w' => e = .returned (.tuple #[]) ∧ u' = .returning ∧ w' = w.drew := by
  refine callsD_of_wpS Tryd.func31 rfl fun c₀ cs hu => ?_
  apply wpS_region_draw
  intro t
  change wpOpsS _ (cOps "dec.go:24") _ (Region.schedule _ (cOps "dec.go:24") t) _ _ _
  rcases c_orders "dec.go:24" (Tryd.prog.follows Departure.mixedOrders) t with e | e
  all_goals
    rw [e]
    simp [wpOpsS, cOps, go_sem, recoverD, hu, Tryd.ntmps31, hq]
    refine stop_nil.mono ?_
    rintro e1 w1 ⟨rfl, rfl⟩
    refine ⟨rfl, .returning, ?_, _, results_none rfl _ _ _, rfl, rfl, rfl⟩
    cases c₀
    simp_all

theorem catch_flag_bad {w : World} {b o q : Nat} {s : List Nat} {r c : Int} {older : List PanicEntry} (hq : w.cell? ⟨q, 0, none⟩ = some (.pointer (some ⟨b, o, none⟩))) (h : DecR w b o s r) :
    CallsD Tryd.prog 35 #[.pointer (some ⟨q, 0, none⟩)] (.panicking (fault c :: older)) w fun e u' w' =>
      e = .returned (.tuple #[]) ∧ u' = .panicking (fault' c :: older) ∧ Cel b o 2 w w' ∧ DecR w' b o [] (stopR r c) := by
  refine callsD_of_wpS Tryd.func35 rfl fun c₀ cs hu => ?_
  apply wpS_region_draw
  intro t
  have h' : DecR w.drew b o s r := ⟨h.c0, h.c1, h.b8, h.loose⟩
  change wpOpsS _ (cOps "dec.go:30") _ (Region.schedule _ (cOps "dec.go:30") t) _ _ _
  rcases c_orders "dec.go:30" (Tryd.prog.follows Departure.mixedOrders) t with e | e
  all_goals
    rw [e]
    simp [wpOpsS, cOps, go_sem, recoverD, hu, Tryd.ntmps35, hq]
    refine (stop_fault h').mono ?_
    rintro e1 w1 ⟨rfl, hc, hd⟩
    exact ⟨rfl, _, rfl, _, results_none rfl _ _ _, rfl, rfl, (Cel.refl b o 2 w).drew.trans hc, hd⟩

theorem catch_flag_idle {w : World} {b o q : Nat} (hq : w.cell? ⟨q, 0, none⟩ = some (.pointer (some ⟨b, o, none⟩))) :
    CallsD Tryd.prog 35 #[.pointer (some ⟨q, 0, none⟩)] .returning w fun e u' w' => e = .returned (.tuple #[]) ∧ u' = .returning ∧ w' = w.drew := by
  refine callsD_of_wpS Tryd.func35 rfl fun c₀ cs hu => ?_
  apply wpS_region_draw
  intro t
  change wpOpsS _ (cOps "dec.go:30") _ (Region.schedule _ (cOps "dec.go:30") t) _ _ _
  rcases c_orders "dec.go:30" (Tryd.prog.follows Departure.mixedOrders) t with e | e
  all_goals
    rw [e]
    simp [wpOpsS, cOps, go_sem, recoverD, hu, Tryd.ntmps35, hq]
    refine stop_nil.mono ?_
    rintro e1 w1 ⟨rfl, rfl⟩
    refine ⟨rfl, .returning, ?_, _, results_none rfl _ _ _, rfl, rfl, rfl⟩
    cases c₀
    simp_all

theorem catch_text_bad {w : World} {b o q : Nat} {s : List Nat} {r c : Int} {older : List PanicEntry} (hq : w.cell? ⟨q, 0, none⟩ = some (.pointer (some ⟨b, o, none⟩))) (h : DecR w b o s r) :
    CallsD Tryd.prog 38 #[.pointer (some ⟨q, 0, none⟩)] (.panicking (fault c :: older)) w fun e u' w' =>
      e = .returned (.tuple #[]) ∧ u' = .panicking (fault' c :: older) ∧ Cel b o 2 w w' ∧ DecR w' b o [] (stopR r c) := by
  refine callsD_of_wpS Tryd.func38 rfl fun c₀ cs hu => ?_
  apply wpS_region_draw
  intro t
  have h' : DecR w.drew b o s r := ⟨h.c0, h.c1, h.b8, h.loose⟩
  change wpOpsS _ (cOps "dec.go:46") _ (Region.schedule _ (cOps "dec.go:46") t) _ _ _
  rcases c_orders "dec.go:46" (Tryd.prog.follows Departure.mixedOrders) t with e | e
  all_goals
    rw [e]
    simp [wpOpsS, cOps, go_sem, recoverD, hu, Tryd.ntmps38, hq]
    refine (stop_fault h').mono ?_
    rintro e1 w1 ⟨rfl, hc, hd⟩
    exact ⟨rfl, _, rfl, _, results_none rfl _ _ _, rfl, rfl, (Cel.refl b o 2 w).drew.trans hc, hd⟩

theorem catch_text_idle {w : World} {b o q : Nat} (hq : w.cell? ⟨q, 0, none⟩ = some (.pointer (some ⟨b, o, none⟩))) :
    CallsD Tryd.prog 38 #[.pointer (some ⟨q, 0, none⟩)] .returning w fun e u' w' => e = .returned (.tuple #[]) ∧ u' = .returning ∧ w' = w.drew := by
  refine callsD_of_wpS Tryd.func38 rfl fun c₀ cs hu => ?_
  apply wpS_region_draw
  intro t
  change wpOpsS _ (cOps "dec.go:46") _ (Region.schedule _ (cOps "dec.go:46") t) _ _ _
  rcases c_orders "dec.go:46" (Tryd.prog.follows Departure.mixedOrders) t with e | e
  all_goals
    rw [e]
    simp [wpOpsS, cOps, go_sem, recoverD, hu, Tryd.ntmps38, hq]
    refine stop_nil.mono ?_
    rintro e1 w1 ⟨rfl, rfl⟩
    refine ⟨rfl, .returning, ?_, _, results_none rfl _ _ _, rfl, rfl, rfl⟩
    cases c₀
    simp_all

theorem catch_texts_bad {w : World} {b o q : Nat} {s : List Nat} {r c : Int} {older : List PanicEntry} (hq : w.cell? ⟨q, 0, none⟩ = some (.pointer (some ⟨b, o, none⟩))) (h : DecR w b o s r) :
    CallsD Tryd.prog 41 #[.pointer (some ⟨q, 0, none⟩)] (.panicking (fault c :: older)) w fun e u' w' =>
      e = .returned (.tuple #[]) ∧ u' = .panicking (fault' c :: older) ∧ Cel b o 2 w w' ∧ DecR w' b o [] (stopR r c) := by
  refine callsD_of_wpS Tryd.func41 rfl fun c₀ cs hu => ?_
  apply wpS_region_draw
  intro t
  have h' : DecR w.drew b o s r := ⟨h.c0, h.c1, h.b8, h.loose⟩
  change wpOpsS _ (cOps "dec.go:52") _ (Region.schedule _ (cOps "dec.go:52") t) _ _ _
  rcases c_orders "dec.go:52" (Tryd.prog.follows Departure.mixedOrders) t with e | e
  all_goals
    rw [e]
    simp [wpOpsS, cOps, go_sem, recoverD, hu, Tryd.ntmps41, hq]
    refine (stop_fault h').mono ?_
    rintro e1 w1 ⟨rfl, hc, hd⟩
    exact ⟨rfl, _, rfl, _, results_none rfl _ _ _, rfl, rfl, (Cel.refl b o 2 w).drew.trans hc, hd⟩

theorem catch_texts_idle {w : World} {b o q : Nat} (hq : w.cell? ⟨q, 0, none⟩ = some (.pointer (some ⟨b, o, none⟩))) :
    CallsD Tryd.prog 41 #[.pointer (some ⟨q, 0, none⟩)] .returning w fun e u' w' => e = .returned (.tuple #[]) ∧ u' = .returning ∧ w' = w.drew := by
  refine callsD_of_wpS Tryd.func41 rfl fun c₀ cs hu => ?_
  apply wpS_region_draw
  intro t
  change wpOpsS _ (cOps "dec.go:52") _ (Region.schedule _ (cOps "dec.go:52") t) _ _ _
  rcases c_orders "dec.go:52" (Tryd.prog.follows Departure.mixedOrders) t with e | e
  all_goals
    rw [e]
    simp [wpOpsS, cOps, go_sem, recoverD, hu, Tryd.ntmps41, hq]
    refine stop_nil.mono ?_
    rintro e1 w1 ⟨rfl, rfl⟩
    refine ⟨rfl, .returning, ?_, _, results_none rfl _ _ _, rfl, rfl, rfl⟩
    cases c₀
    simp_all

theorem catch_raw_bad {w : World} {b o q : Nat} {s : List Nat} {r c : Int} {older : List PanicEntry} (hq : w.cell? ⟨q, 0, none⟩ = some (.pointer (some ⟨b, o, none⟩))) (h : DecR w b o s r) :
    CallsD Tryd.prog 42 #[.pointer (some ⟨q, 0, none⟩)] (.panicking (fault c :: older)) w fun e u' w' =>
      e = .returned (.tuple #[]) ∧ u' = .panicking (fault' c :: older) ∧ Cel b o 2 w w' ∧ DecR w' b o [] (stopR r c) := by
  refine callsD_of_wpS Tryd.func42 rfl fun c₀ cs hu => ?_
  apply wpS_region_draw
  intro t
  have h' : DecR w.drew b o s r := ⟨h.c0, h.c1, h.b8, h.loose⟩
  change wpOpsS _ (cOps "dec.go:62") _ (Region.schedule _ (cOps "dec.go:62") t) _ _ _
  rcases c_orders "dec.go:62" (Tryd.prog.follows Departure.mixedOrders) t with e | e
  all_goals
    rw [e]
    simp [wpOpsS, cOps, go_sem, recoverD, hu, Tryd.ntmps42, hq]
    refine (stop_fault h').mono ?_
    rintro e1 w1 ⟨rfl, hc, hd⟩
    exact ⟨rfl, _, rfl, _, results_none rfl _ _ _, rfl, rfl, (Cel.refl b o 2 w).drew.trans hc, hd⟩

theorem catch_raw_idle {w : World} {b o q : Nat} (hq : w.cell? ⟨q, 0, none⟩ = some (.pointer (some ⟨b, o, none⟩))) :
    CallsD Tryd.prog 42 #[.pointer (some ⟨q, 0, none⟩)] .returning w fun e u' w' => e = .returned (.tuple #[]) ∧ u' = .returning ∧ w' = w.drew := by
  refine callsD_of_wpS Tryd.func42 rfl fun c₀ cs hu => ?_
  apply wpS_region_draw
  intro t
  change wpOpsS _ (cOps "dec.go:62") _ (Region.schedule _ (cOps "dec.go:62") t) _ _ _
  rcases c_orders "dec.go:62" (Tryd.prog.follows Departure.mixedOrders) t with e | e
  all_goals
    rw [e]
    simp [wpOpsS, cOps, go_sem, recoverD, hu, Tryd.ntmps42, hq]
    refine stop_nil.mono ?_
    rintro e1 w1 ⟨rfl, rfl⟩
    refine ⟨rfl, .returning, ?_, _, results_none rfl _ _ _, rfl, rfl, rfl⟩
    cases c₀
    simp_all

theorem catch_stamp_bad {w : World} {b o q : Nat} {s : List Nat} {r c : Int} {older : List PanicEntry} (hq : w.cell? ⟨q, 0, none⟩ = some (.pointer (some ⟨b, o, none⟩))) (h : DecR w b o s r) :
    CallsD Tryd.prog 45 #[.pointer (some ⟨q, 0, none⟩)] (.panicking (fault c :: older)) w fun e u' w' =>
      e = .returned (.tuple #[]) ∧ u' = .panicking (fault' c :: older) ∧ Cel b o 2 w w' ∧ DecR w' b o [] (stopR r c) := by
  refine callsD_of_wpS Tryd.func45 rfl fun c₀ cs hu => ?_
  apply wpS_region_draw
  intro t
  have h' : DecR w.drew b o s r := ⟨h.c0, h.c1, h.b8, h.loose⟩
  change wpOpsS _ (cOps "dec.go:68") _ (Region.schedule _ (cOps "dec.go:68") t) _ _ _
  rcases c_orders "dec.go:68" (Tryd.prog.follows Departure.mixedOrders) t with e | e
  all_goals
    rw [e]
    simp [wpOpsS, cOps, go_sem, recoverD, hu, Tryd.ntmps45, hq]
    refine (stop_fault h').mono ?_
    rintro e1 w1 ⟨rfl, hc, hd⟩
    exact ⟨rfl, _, rfl, _, results_none rfl _ _ _, rfl, rfl, (Cel.refl b o 2 w).drew.trans hc, hd⟩

theorem catch_stamp_idle {w : World} {b o q : Nat} (hq : w.cell? ⟨q, 0, none⟩ = some (.pointer (some ⟨b, o, none⟩))) :
    CallsD Tryd.prog 45 #[.pointer (some ⟨q, 0, none⟩)] .returning w fun e u' w' => e = .returned (.tuple #[]) ∧ u' = .returning ∧ w' = w.drew := by
  refine callsD_of_wpS Tryd.func45 rfl fun c₀ cs hu => ?_
  apply wpS_region_draw
  intro t
  change wpOpsS _ (cOps "dec.go:68") _ (Region.schedule _ (cOps "dec.go:68") t) _ _ _
  rcases c_orders "dec.go:68" (Tryd.prog.follows Departure.mixedOrders) t with e | e
  all_goals
    rw [e]
    simp [wpOpsS, cOps, go_sem, recoverD, hu, Tryd.ntmps45, hq]
    refine stop_nil.mono ?_
    rintro e1 w1 ⟨rfl, rfl⟩
    refine ⟨rfl, .returning, ?_, _, results_none rfl _ _ _, rfl, rfl, rfl⟩
    cases c₀
    simp_all

end Go.Proofs.YtchfoipkaookmabDoor
