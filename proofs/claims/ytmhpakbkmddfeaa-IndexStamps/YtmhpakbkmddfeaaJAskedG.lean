import Derived.Test.YtmhpakbkmddfeaaJAsked
namespace Go.Proofs.Ytmhpakbkmddfeaa.St
open Go.RowKit Go.Sort
set_option linter.unusedVariables false

set_option maxRecDepth 100000 in
set_option maxHeartbeats 1000000 in
theorem asked_Get {W w : World} {x d : Nat} {v : Value} {log : List Ch} {op : Ao} (hk : op.k = 3) (hq : Qs W w x d v log) (hl : (log.length + 2) * 64 ≤ 140737488355328) :
    Calls Try.prog 30 (stA x d op) w fun e w' => e = .returned (.bool true) ∧ ∃ v' log', log'.length ≤ log.length + 1 ∧ Qs W w' x d v' log' := by
  obtain ⟨w0, hw0⟩ : ∃ w0, w0 = w.alloc (.cells (opC op) 26) := ⟨_, rfl⟩
  have hb0 : Below w.heap.size w w0 := by rw [hw0]; exact Below.al (Below.refl _ _) _
  have hop : OpAt w0 w.heap.size op := by rw [hw0]; exact op_new w op
  have hq0 := hq.later hb0
  have q0 := hop.c0; have q2 := hop.c2
  have hlx : (ixL log).length ≤ 9223372036854775806 := by have := ixL_len log; omega
  obtain ⟨o, ho⟩ : ∃ o, getL log op.key = o := ⟨_, rfl⟩
  have XG : Hid (Calls Try.prog 48 #[.pointer (some ⟨x, 0, none⟩), .string op.key] w0 fun e w' => e = .returned (gotX o) ∧ Below w0.heap.size w0 w' ∧ w'.cell? ⟨w.heap.size, 2, none⟩ = some (.string op.key)) := (get_is hq0.xi op.key).mono fun e w' ⟨he, hb⟩ => ⟨by rw [he, ixL_get, ho], hb, cell_later hb q2⟩
  have RG : Hid (∀ W', Below w0.heap.size w0 W' → Calls Try.prog 49 #[.pointer (some ⟨d, 0, none⟩), .string op.key] W' fun e w' => e = .returned (gotV o) ∧ Below W'.heap.size W' w') := fun W' hb => (refget_is (hq0.ri.later hb) op.key).mono fun e w' ⟨he, hw⟩ => ⟨by rw [he, ho], hw ▸ Below.refl _ _⟩
  have HQ := hid hq0
  have p2 : (op.k == 2) = false := by rw [hk]; rfl
  have p4 : (op.k == 4) = false := by rw [hk]; rfl
  have p3 : (op.k == 3) = true := by rw [hk]; rfl
  clear hq hl hop hb0 hlx ho hk hq0
  subst hw0
  cases o with
  | none =>
    rw [show gotX none = .tuple #[s0, .bool false] from rfl] at XG
    rw [show gotV none = .tuple #[.int .i64 0, .bool false] from rfl] at RG
    have ST : Hid (∀ W', Calls Try.prog 46 #[.int .i64 0, .bool false] W' fun e w' => e = .returned (s0) ∧ Below W'.heap.size W' w') := fun W' => stamped_ff 0 W'
    go_enter Try.func30, Try.ntmps30
    go_wp2_with (first
      | (go_at_call 48; refine XG.out.mono ?_; rintro e w2 ⟨rfl, hb2, r2⟩; have r3 := cell_later (Below.al (Below.refl _ w2) (.cells #[.int .u64 0, .int .u32 0, .int .u32 0] 63)) r2; have HB2 := hid hb2)
      | (go_at_call 49; refine (RG.out _ (Below.on HB2.out (Below.al (Below.refl _ _) _))).mono ?_; rintro e w3 ⟨rfl, hb3⟩; have hz : Tri w3 w2.heap.size (.int .u64 0) (.int .u32 0) (.int .u32 0) := (hb3.block _ (by simp)).trans (Tri.new w2 (.int .u64 0) (.int .u32 0) (.int .u32 0)); have HB3 := hid hb3))
    have z0 := hz.c0; have z1 := hz.c1; have z2 := hz.c2
    go_region_held3 (fun w' => w'.cell? ⟨w2.heap.size, 0, none⟩ = some (.int .u64 0) ∧ w'.cell? ⟨w2.heap.size, 1, none⟩ = some (.int .u32 0) ∧ w'.cell? ⟨w2.heap.size, 2, none⟩ = some (.int .u32 0) ∧ Below w3.heap.size w3 w')
      ((refine (fun (hB : Below w3.heap.size w3 _) => ⟨cell_later hB z0, cell_later hB z1, cell_later hB z2, hB⟩) ?_; (repeat (first | exact Below.refl _ _ | assumption | refine Below.drew ?_ | refine Below.al ?_ _ | refine Below.setCell ?_ (by first | exact Nat.le_refl _ | (simp; omega) | (simp; done)) _ | refine Below.on ?_ (by assumption)))))
      (first
        | (go_at_call 46; refine (ST.out _).mono ?_; rintro e w4 ⟨rfl, hb4⟩))
    go_wp2_with fail
    go_ret
    exact ⟨retB' (by simp), v, log, by omega, HQ.out.later (Below.on (Below.on (Below.on HB2.out (Below.al (Below.refl _ _) _)) HB3.out) (by (repeat (first | exact Below.refl _ _ | assumption | refine Below.drew ?_ | refine Below.al ?_ _ | refine Below.setCell ?_ (by first | exact Nat.le_refl _ | (simp; omega) | (simp; done)) _ | refine Below.on ?_ (by assumption)))))⟩
  | some n =>
    rw [show gotX (some n) = .tuple #[sg n, .bool true] from rfl] at XG
    rw [show gotV (some n) = .tuple #[.int .i64 n, .bool true] from rfl] at RG
    have ST : Hid (∀ W', Calls Try.prog 46 #[.int .i64 n, .bool true] W' fun e w' => e = .returned (sg n) ∧ Below W'.heap.size W' w') := fun W' => stamped_tt n W'
    go_enter Try.func30, Try.ntmps30
    go_wp2_with (first
      | (go_at_call 48; refine XG.out.mono ?_; rintro e w2 ⟨rfl, hb2, r2⟩; have r3 := cell_later (Below.al (Below.refl _ w2) (.cells #[.int .u64 (sv n), .int .u32 7, .int .u32 9] 63)) r2; have HB2 := hid hb2)
      | (go_at_call 49; refine (RG.out _ (Below.on HB2.out (Below.al (Below.refl _ _) _))).mono ?_; rintro e w3 ⟨rfl, hb3⟩; have hz : Tri w3 w2.heap.size (.int .u64 (sv n)) (.int .u32 7) (.int .u32 9) := (hb3.block _ (by simp)).trans (Tri.new w2 (.int .u64 (sv n)) (.int .u32 7) (.int .u32 9)); have HB3 := hid hb3))
    have z0 := hz.c0; have z1 := hz.c1; have z2 := hz.c2
    go_region_held3 (fun w' => w'.cell? ⟨w2.heap.size, 0, none⟩ = some (.int .u64 (sv n)) ∧ w'.cell? ⟨w2.heap.size, 1, none⟩ = some (.int .u32 7) ∧ w'.cell? ⟨w2.heap.size, 2, none⟩ = some (.int .u32 9) ∧ Below w3.heap.size w3 w')
      ((refine (fun (hB : Below w3.heap.size w3 _) => ⟨cell_later hB z0, cell_later hB z1, cell_later hB z2, hB⟩) ?_; (repeat (first | exact Below.refl _ _ | assumption | refine Below.drew ?_ | refine Below.al ?_ _ | refine Below.setCell ?_ (by first | exact Nat.le_refl _ | (simp; omega) | (simp; done)) _ | refine Below.on ?_ (by assumption)))))
      (first
        | (go_at_call 46; refine (ST.out _).mono ?_; rintro e w4 ⟨rfl, hb4⟩))
    go_wp2_with fail
    go_ret
    exact ⟨retB' (by simp), v, log, by omega, HQ.out.later (Below.on (Below.on (Below.on HB2.out (Below.al (Below.refl _ _) _)) HB3.out) (by (repeat (first | exact Below.refl _ _ | assumption | refine Below.drew ?_ | refine Below.al ?_ _ | refine Below.setCell ?_ (by first | exact Nat.le_refl _ | (simp; omega) | (simp; done)) _ | refine Below.on ?_ (by assumption)))))⟩

set_option maxRecDepth 100000 in
set_option maxHeartbeats 1000000 in
theorem asked_Floor {W w : World} {x d : Nat} {v : Value} {log : List Ch} {op : Ao} (hk : op.k = 6) (hq : Qs W w x d v log) (hl : (log.length + 2) * 64 ≤ 140737488355328) (hs : op.key.size + 1 ≤ 9223372036854775807) :
    Calls Try.prog 30 (stA x d op) w fun e w' => e = .returned (.bool true) ∧ ∃ v' log', log'.length ≤ log.length + 1 ∧ Qs W w' x d v' log' := by
  obtain ⟨w0, hw0⟩ : ∃ w0, w0 = w.alloc (.cells (opC op) 26) := ⟨_, rfl⟩
  have hb0 : Below w.heap.size w w0 := by rw [hw0]; exact Below.al (Below.refl _ _) _
  have hop : OpAt w0 w.heap.size op := by rw [hw0]; exact op_new w op
  have hq0 := hq.later hb0
  have q0 := hop.c0; have q2 := hop.c2
  have hlx : (ixL log).length ≤ 9223372036854775806 := by have := ixL_len log; omega
  obtain ⟨o, ho⟩ : ∃ o, (rangeX (ixL log) ⟨#[]⟩ (zb op.key)).reverse.head? = o := ⟨_, rfl⟩
  have XG : Hid (Calls Try.prog 50 #[.pointer (some ⟨x, 0, none⟩), .string op.key] w0 fun e w' => e = .returned (firV o) ∧ Below w0.heap.size w0 w' ∧ w'.cell? ⟨w.heap.size, 2, none⟩ = some (.string op.key)) := (floor_is hq0.xi op.key hs).mono fun e w' ⟨he, hb⟩ => ⟨by rw [he, ho], hb, cell_later hb q2⟩
  have RG : Hid (∀ W', Below w0.heap.size w0 W' → Calls Try.prog 51 #[.pointer (some ⟨d, 0, none⟩), .string op.key] W' fun e w' => e = .returned (Go.Proofs.Ytmhpakbkmddfeaa.firV o) ∧ Below W'.heap.size W' w') := fun W' hb => (reffloor_is (hq0.ri.later hb) op.key hlx).mono fun e w' ⟨he, hw⟩ => ⟨by rw [he, ho], hw⟩
  have HQ := hid hq0
  have p2 : (op.k == 2) = false := by rw [hk]; rfl
  have p4 : (op.k == 4) = false := by rw [hk]; rfl
  have p3 : (op.k == 3) = false := by rw [hk]; rfl
  have p6 : (op.k == 6) = true := by rw [hk]; rfl
  clear hq hl hop hb0 hlx ho hk hq0 hs
  subst hw0
  cases o with
  | none =>
    rw [show firV none = .tuple #[.string ⟨#[]⟩, s0, .bool false] from rfl] at XG
    rw [show Go.Proofs.Ytmhpakbkmddfeaa.firV none = .tuple #[.string ⟨#[]⟩, .int .i64 0, .bool false] from rfl] at RG
    have ST : Hid (∀ W', Calls Try.prog 46 #[.int .i64 0, .bool false] W' fun e w' => e = .returned (s0) ∧ Below W'.heap.size W' w') := fun W' => stamped_ff 0 W'
    go_enter Try.func30, Try.ntmps30
    go_wp2_with (first
      | (go_at_call 50; refine XG.out.mono ?_; rintro e w2 ⟨rfl, hb2, r2⟩; have r3 := cell_later (Below.al (Below.refl _ w2) (.cells #[.int .u64 0, .int .u32 0, .int .u32 0] 63)) r2; have HB2 := hid hb2)
      | (go_at_call 51; refine (RG.out _ (Below.on HB2.out (Below.al (Below.refl _ _) _))).mono ?_; rintro e w3 ⟨rfl, hb3⟩; have hz : Tri w3 w2.heap.size (.int .u64 0) (.int .u32 0) (.int .u32 0) := (hb3.block _ (by simp)).trans (Tri.new w2 (.int .u64 0) (.int .u32 0) (.int .u32 0)); have HB3 := hid hb3))
    have z0 := hz.c0; have z1 := hz.c1; have z2 := hz.c2
    go_region_held3 (fun w' => w'.cell? ⟨w2.heap.size, 0, none⟩ = some (.int .u64 0) ∧ w'.cell? ⟨w2.heap.size, 1, none⟩ = some (.int .u32 0) ∧ w'.cell? ⟨w2.heap.size, 2, none⟩ = some (.int .u32 0) ∧ Below w3.heap.size w3 w')
      ((refine (fun (hB : Below w3.heap.size w3 _) => ⟨cell_later hB z0, cell_later hB z1, cell_later hB z2, hB⟩) ?_; (repeat (first | exact Below.refl _ _ | assumption | refine Below.drew ?_ | refine Below.al ?_ _ | refine Below.setCell ?_ (by first | exact Nat.le_refl _ | (simp; omega) | (simp; done)) _ | refine Below.on ?_ (by assumption)))))
      (first
        | (go_at_call 46; refine (ST.out _).mono ?_; rintro e w4 ⟨rfl, hb4⟩))
    go_wp2_with fail
    go_ret
    exact ⟨retB' (by simp), v, log, by omega, HQ.out.later (Below.on (Below.on (Below.on HB2.out (Below.al (Below.refl _ _) _)) HB3.out) (by (repeat (first | exact Below.refl _ _ | assumption | refine Below.drew ?_ | refine Below.al ?_ _ | refine Below.setCell ?_ (by first | exact Nat.le_refl _ | (simp; omega) | (simp; done)) _ | refine Below.on ?_ (by assumption)))))⟩
  | some n =>
    rw [show firV (some n) = .tuple #[.string n.1, sg n.2, .bool true] from rfl] at XG
    rw [show Go.Proofs.Ytmhpakbkmddfeaa.firV (some n) = .tuple #[.string n.1, .int .i64 n.2, .bool true] from rfl] at RG
    have ST : Hid (∀ W', Calls Try.prog 46 #[.int .i64 n.2, .bool true] W' fun e w' => e = .returned (sg (n.2)) ∧ Below W'.heap.size W' w') := fun W' => stamped_tt (n.2) W'
    go_enter Try.func30, Try.ntmps30
    go_wp2_with (first
      | (go_at_call 50; refine XG.out.mono ?_; rintro e w2 ⟨rfl, hb2, r2⟩; have r3 := cell_later (Below.al (Below.refl _ w2) (.cells #[.int .u64 (sv n.2), .int .u32 7, .int .u32 9] 63)) r2; have HB2 := hid hb2)
      | (go_at_call 51; refine (RG.out _ (Below.on HB2.out (Below.al (Below.refl _ _) _))).mono ?_; rintro e w3 ⟨rfl, hb3⟩; have hz : Tri w3 w2.heap.size (.int .u64 (sv n.2)) (.int .u32 7) (.int .u32 9) := (hb3.block _ (by simp)).trans (Tri.new w2 (.int .u64 (sv n.2)) (.int .u32 7) (.int .u32 9)); have HB3 := hid hb3))
    have z0 := hz.c0; have z1 := hz.c1; have z2 := hz.c2
    go_region_held3 (fun w' => w'.cell? ⟨w2.heap.size, 0, none⟩ = some (.int .u64 (sv n.2)) ∧ w'.cell? ⟨w2.heap.size, 1, none⟩ = some (.int .u32 7) ∧ w'.cell? ⟨w2.heap.size, 2, none⟩ = some (.int .u32 9) ∧ Below w3.heap.size w3 w')
      ((refine (fun (hB : Below w3.heap.size w3 _) => ⟨cell_later hB z0, cell_later hB z1, cell_later hB z2, hB⟩) ?_; (repeat (first | exact Below.refl _ _ | assumption | refine Below.drew ?_ | refine Below.al ?_ _ | refine Below.setCell ?_ (by first | exact Nat.le_refl _ | (simp; omega) | (simp; done)) _ | refine Below.on ?_ (by assumption)))))
      (first
        | (go_at_call 46; refine (ST.out _).mono ?_; rintro e w4 ⟨rfl, hb4⟩))
    go_wp2_with fail
    go_ret
    exact ⟨retB' (by simp), v, log, by omega, HQ.out.later (Below.on (Below.on (Below.on HB2.out (Below.al (Below.refl _ _) _)) HB3.out) (by (repeat (first | exact Below.refl _ _ | assumption | refine Below.drew ?_ | refine Below.al ?_ _ | refine Below.setCell ?_ (by first | exact Nat.le_refl _ | (simp; omega) | (simp; done)) _ | refine Below.on ?_ (by assumption)))))⟩

set_option maxRecDepth 100000 in
set_option maxHeartbeats 1000000 in
theorem asked_Ceil {W w : World} {x d : Nat} {v : Value} {log : List Ch} {op : Ao} (hk : op.k = 7) (hq : Qs W w x d v log) (hl : (log.length + 2) * 64 ≤ 140737488355328) :
    Calls Try.prog 30 (stA x d op) w fun e w' => e = .returned (.bool true) ∧ ∃ v' log', log'.length ≤ log.length + 1 ∧ Qs W w' x d v' log' := by
  obtain ⟨w0, hw0⟩ : ∃ w0, w0 = w.alloc (.cells (opC op) 26) := ⟨_, rfl⟩
  have hb0 : Below w.heap.size w w0 := by rw [hw0]; exact Below.al (Below.refl _ _) _
  have hop : OpAt w0 w.heap.size op := by rw [hw0]; exact op_new w op
  have hq0 := hq.later hb0
  have q0 := hop.c0; have q2 := hop.c2
  have hlx : (ixL log).length ≤ 9223372036854775806 := by have := ixL_len log; omega
  obtain ⟨o, ho⟩ : ∃ o, (rangeX (ixL log) op.key ⟨#[]⟩).head? = o := ⟨_, rfl⟩
  have XG : Hid (Calls Try.prog 52 #[.pointer (some ⟨x, 0, none⟩), .string op.key] w0 fun e w' => e = .returned (firV o) ∧ Below w0.heap.size w0 w' ∧ w'.cell? ⟨w.heap.size, 2, none⟩ = some (.string op.key)) := (ceil_is hq0.xi op.key).mono fun e w' ⟨he, hb⟩ => ⟨by rw [he, ho], hb, cell_later hb q2⟩
  have RG : Hid (∀ W', Below w0.heap.size w0 W' → Calls Try.prog 53 #[.pointer (some ⟨d, 0, none⟩), .string op.key] W' fun e w' => e = .returned (Go.Proofs.Ytmhpakbkmddfeaa.firV o) ∧ Below W'.heap.size W' w') := fun W' hb => (refceil_is (hq0.ri.later hb) op.key hlx).mono fun e w' ⟨he, hw⟩ => ⟨by rw [he, ho], hw⟩
  have HQ := hid hq0
  have p2 : (op.k == 2) = false := by rw [hk]; rfl
  have p4 : (op.k == 4) = false := by rw [hk]; rfl
  have p3 : (op.k == 3) = false := by rw [hk]; rfl
  have p6 : (op.k == 6) = false := by rw [hk]; rfl
  have p7 : (op.k == 7) = true := by rw [hk]; rfl
  clear hq hl hop hb0 hlx ho hk hq0
  subst hw0
  cases o with
  | none =>
    rw [show firV none = .tuple #[.string ⟨#[]⟩, s0, .bool false] from rfl] at XG
    rw [show Go.Proofs.Ytmhpakbkmddfeaa.firV none = .tuple #[.string ⟨#[]⟩, .int .i64 0, .bool false] from rfl] at RG
    have ST : Hid (∀ W', Calls Try.prog 46 #[.int .i64 0, .bool false] W' fun e w' => e = .returned (s0) ∧ Below W'.heap.size W' w') := fun W' => stamped_ff 0 W'
    go_enter Try.func30, Try.ntmps30
    go_wp2_with (first
      | (go_at_call 52; refine XG.out.mono ?_; rintro e w2 ⟨rfl, hb2, r2⟩; have r3 := cell_later (Below.al (Below.refl _ w2) (.cells #[.int .u64 0, .int .u32 0, .int .u32 0] 63)) r2; have HB2 := hid hb2)
      | (go_at_call 53; refine (RG.out _ (Below.on HB2.out (Below.al (Below.refl _ _) _))).mono ?_; rintro e w3 ⟨rfl, hb3⟩; have hz : Tri w3 w2.heap.size (.int .u64 0) (.int .u32 0) (.int .u32 0) := (hb3.block _ (by simp)).trans (Tri.new w2 (.int .u64 0) (.int .u32 0) (.int .u32 0)); have HB3 := hid hb3))
    have z0 := hz.c0; have z1 := hz.c1; have z2 := hz.c2
    go_region_held3 (fun w' => w'.cell? ⟨w2.heap.size, 0, none⟩ = some (.int .u64 0) ∧ w'.cell? ⟨w2.heap.size, 1, none⟩ = some (.int .u32 0) ∧ w'.cell? ⟨w2.heap.size, 2, none⟩ = some (.int .u32 0) ∧ Below w3.heap.size w3 w')
      ((refine (fun (hB : Below w3.heap.size w3 _) => ⟨cell_later hB z0, cell_later hB z1, cell_later hB z2, hB⟩) ?_; (repeat (first | exact Below.refl _ _ | assumption | refine Below.drew ?_ | refine Below.al ?_ _ | refine Below.setCell ?_ (by first | exact Nat.le_refl _ | (simp; omega) | (simp; done)) _ | refine Below.on ?_ (by assumption)))))
      (first
        | (go_at_call 46; refine (ST.out _).mono ?_; rintro e w4 ⟨rfl, hb4⟩))
    go_wp2_with fail
    go_ret
    exact ⟨retB' (by simp), v, log, by omega, HQ.out.later (Below.on (Below.on (Below.on HB2.out (Below.al (Below.refl _ _) _)) HB3.out) (by (repeat (first | exact Below.refl _ _ | assumption | refine Below.drew ?_ | refine Below.al ?_ _ | refine Below.setCell ?_ (by first | exact Nat.le_refl _ | (simp; omega) | (simp; done)) _ | refine Below.on ?_ (by assumption)))))⟩
  | some n =>
    rw [show firV (some n) = .tuple #[.string n.1, sg n.2, .bool true] from rfl] at XG
    rw [show Go.Proofs.Ytmhpakbkmddfeaa.firV (some n) = .tuple #[.string n.1, .int .i64 n.2, .bool true] from rfl] at RG
    have ST : Hid (∀ W', Calls Try.prog 46 #[.int .i64 n.2, .bool true] W' fun e w' => e = .returned (sg (n.2)) ∧ Below W'.heap.size W' w') := fun W' => stamped_tt (n.2) W'
    go_enter Try.func30, Try.ntmps30
    go_wp2_with (first
      | (go_at_call 52; refine XG.out.mono ?_; rintro e w2 ⟨rfl, hb2, r2⟩; have r3 := cell_later (Below.al (Below.refl _ w2) (.cells #[.int .u64 (sv n.2), .int .u32 7, .int .u32 9] 63)) r2; have HB2 := hid hb2)
      | (go_at_call 53; refine (RG.out _ (Below.on HB2.out (Below.al (Below.refl _ _) _))).mono ?_; rintro e w3 ⟨rfl, hb3⟩; have hz : Tri w3 w2.heap.size (.int .u64 (sv n.2)) (.int .u32 7) (.int .u32 9) := (hb3.block _ (by simp)).trans (Tri.new w2 (.int .u64 (sv n.2)) (.int .u32 7) (.int .u32 9)); have HB3 := hid hb3))
    have z0 := hz.c0; have z1 := hz.c1; have z2 := hz.c2
    go_region_held3 (fun w' => w'.cell? ⟨w2.heap.size, 0, none⟩ = some (.int .u64 (sv n.2)) ∧ w'.cell? ⟨w2.heap.size, 1, none⟩ = some (.int .u32 7) ∧ w'.cell? ⟨w2.heap.size, 2, none⟩ = some (.int .u32 9) ∧ Below w3.heap.size w3 w')
      ((refine (fun (hB : Below w3.heap.size w3 _) => ⟨cell_later hB z0, cell_later hB z1, cell_later hB z2, hB⟩) ?_; (repeat (first | exact Below.refl _ _ | assumption | refine Below.drew ?_ | refine Below.al ?_ _ | refine Below.setCell ?_ (by first | exact Nat.le_refl _ | (simp; omega) | (simp; done)) _ | refine Below.on ?_ (by assumption)))))
      (first
        | (go_at_call 46; refine (ST.out _).mono ?_; rintro e w4 ⟨rfl, hb4⟩))
    go_wp2_with fail
    go_ret
    exact ⟨retB' (by simp), v, log, by omega, HQ.out.later (Below.on (Below.on (Below.on HB2.out (Below.al (Below.refl _ _) _)) HB3.out) (by (repeat (first | exact Below.refl _ _ | assumption | refine Below.drew ?_ | refine Below.al ?_ _ | refine Below.setCell ?_ (by first | exact Nat.le_refl _ | (simp; omega) | (simp; done)) _ | refine Below.on ?_ (by assumption)))))⟩

set_option maxHeartbeats 1000000 in
theorem asked_none {W w : World} {x d : Nat} {v : Value} {log : List Ch} {op : Ao} (h2 : op.k ≠ 2) (h4 : op.k ≠ 4) (h3 : op.k ≠ 3) (h6 : op.k ≠ 6) (h7 : op.k ≠ 7) (hq : Qs W w x d v log) :
    Calls Try.prog 30 (stA x d op) w fun e w' => e = .returned (.bool true) ∧ ∃ v' log', log'.length ≤ log.length + 1 ∧ Qs W w' x d v' log' := by
  have HQ := hid (hq.later (Below.al (Below.refl _ w) (.cells (opC op) 26)))
  have p2 : (op.k == 2) = false := by simpa using h2
  have p4 : (op.k == 4) = false := by simpa using h4
  have p3 : (op.k == 3) = false := by simpa using h3
  have p6 : (op.k == 6) = false := by simpa using h6
  have p7 : (op.k == 7) = false := by simpa using h7
  clear h2 h3 h4 h6 h7 hq
  go_enter Try.func30, Try.ntmps30
  go_wp2_with fail
  go_ret
  exact ⟨rfl, v, log, by omega, HQ.out⟩
theorem asked_is {W w : World} {x d : Nat} {v : Value} {log : List Ch} (op : Ao) (hq : Qs W w x d v log) (hl : (log.length + 2) * 64 ≤ 140737488355328) (hs : op.key.size + 1 ≤ 9223372036854775807) :
    Calls Try.prog 30 (stA x d op) w fun e w' => e = .returned (.bool true) ∧ ∃ v' log', log'.length ≤ log.length + 1 ∧ Qs W w' x d v' log' := by
  by_cases h2 : op.k = 2
  · exact asked_set h2 hq hl
  by_cases h4 : op.k = 4
  · exact asked_del h4 hq hl
  by_cases h3 : op.k = 3
  · exact asked_Get h3 hq hl
  by_cases h6 : op.k = 6
  · exact asked_Floor h6 hq hl hs
  by_cases h7 : op.k = 7
  · exact asked_Ceil h7 hq hl
  exact asked_none h2 h4 h3 h6 h7 hq

end Go.Proofs.Ytmhpakbkmddfeaa.St
