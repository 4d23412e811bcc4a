import Derived.Test.YtdllhkjdckcgmaaDoorIAskK
import Derived.Test.YtdllhkjdckcgmaaDoorITwo
import Derived.Test.YtdllhkjdckcgmaaDoorISpan
namespace Go.Proofs.YtdllhkjdckcgmaaDoor
open Go.RowKit Go.Sort
set_option linter.unusedVariables false

set_option maxRecDepth 100000 in
set_option maxHeartbeats 4000000 in
theorem asked_Get {w : World} {B L o x d : Nat} {v : Value} {log : List Ch} {op : Ao} (hk : op.k = 3) (hp : PairAt w B L o x d v log) (hl : (log.length + 2) * 64 ≤ 140737488355328) (hs : op.key.size + 1 ≤ 9223372036854775807) :
    Calls Tryd.prog 8 #[.pointer (some ⟨L, o, none⟩), opV op] w fun e w' => e = .returned (.bool true) ∧ Below w.heap.size w w' := by
  obtain ⟨w0, hw0⟩ : ∃ w0, w0 = w.alloc (.cells (opC op) 33) := ⟨_, rfl⟩
  have hb0 : Below w.heap.size w w0 := by rw [hw0]; exact Below.al (Below.refl _ _) _
  have hop : OpAt w0 w.heap.size op := by rw [hw0]; exact op_new w op
  have hp0 := hp.later hb0
  have cx := hp0.cx
  have cd := hp0.cd
  obtain ⟨b0, hb0e⟩ : ∃ b0, b0 = w.heap.size := ⟨_, rfl⟩
  rw [← hb0e] at hop
  have q0 := hop.c0; have q1 := hop.c1; have q2 := hop.c2; have q3 := hop.c3; have q4 := hop.c4; have q5 := hop.c5
  have hlx : (ixL log).length ≤ log.length := ixL_len log
  obtain ⟨g, b, hV⟩ : ∃ g b, gotV (getL log op.key) = .tuple #[.int .i64 g, .bool b] := ⟨_, _, rfl⟩
  have FX : Hid (∀ W', Below w0.heap.size w0 W' → Calls Tryd.prog 24 #[.pointer (some ⟨x, 0, none⟩), .string op.key] W' fun e w' => e = .returned (.tuple #[.int .i64 g, .bool b]) ∧ Below w0.heap.size w0 w') := fun W' hb => (get_is (hp0.xi.later hb) op.key).mono fun e w' ⟨he, hw⟩ => ⟨by rw [he, ixL_get]; exact congrArg _ hV, hw ▸ hb⟩
  have FD : Hid (∀ W', Below w0.heap.size w0 W' → Calls Tryd.prog 20 #[.pointer (some ⟨d, 0, none⟩), .string op.key] W' fun e w' => e = .returned (.tuple #[.int .i64 g, .bool b]) ∧ Below w0.heap.size w0 w') := fun W' hb => (refget_is (hp0.ri.later hb) op.key).mono fun e w' ⟨he, hw⟩ => ⟨by rw [he]; exact congrArg _ hV, hw ▸ hb⟩
  clear hV
  have p3 : (op.k == 3) = true := by rw [hk]; rfl
  have HBW := hid hb0
  clear hp hl hs hop hp0 hb0 hlx hk
  go_enter Tryd.func8, Tryd.ntmps8
  go_wp2_with fail
  rw [← hw0, ← hb0e]
  clear hw0 hb0e
  go_region_held3 (fun w' => w'.cell? ⟨L, o, none⟩ = some (.pointer (some ⟨x, 0, none⟩)) ∧ w'.cell? ⟨b0, 2, none⟩ = some (.string op.key) ∧ Below w0.heap.size w0 w')
    ((refine (fun (hB : Below w0.heap.size w0 _) => ⟨cell_later hB cx, cell_later hB q2, hB⟩) ?_; (repeat (first | exact Below.refl _ _ | assumption | refine Below.drew ?_ | refine Below.al ?_ _ | refine Below.setCell ?_ (by first | exact Nat.le_refl _ | (simp; omega) | (simp; done)) _ | refine Below.on ?_ (by assumption)))))
    (first | (go_at_call 24; refine (FX.out _ ?_).mono ?_; ((repeat (first | exact Below.refl _ _ | assumption | refine Below.drew ?_ | refine Below.al ?_ _ | refine Below.setCell ?_ (by first | exact Nat.le_refl _ | (simp; omega) | (simp; done)) _ | refine Below.on ?_ (by assumption)))); rintro e w1 ⟨rfl, hb1⟩))
  go_wp2_with fail
  go_region_held3 (fun w' => w'.cell? ⟨L, o + 1, none⟩ = some (.pointer (some ⟨d, 0, none⟩)) ∧ w'.cell? ⟨b0, 2, none⟩ = some (.string op.key) ∧ Below w0.heap.size w0 w')
    ((refine (fun (hB : Below w0.heap.size w0 _) => ⟨cell_later hB cd, cell_later hB q2, hB⟩) ?_; (repeat (first | exact Below.refl _ _ | assumption | refine Below.drew ?_ | refine Below.al ?_ _ | refine Below.setCell ?_ (by first | exact Nat.le_refl _ | (simp; omega) | (simp; done)) _ | refine Below.on ?_ (by assumption)))))
    (first | (go_at_call 20; refine (FD.out _ ?_).mono ?_; ((repeat (first | exact Below.refl _ _ | assumption | refine Below.drew ?_ | refine Below.al ?_ _ | refine Below.setCell ?_ (by first | exact Nat.le_refl _ | (simp; omega) | (simp; done)) _ | refine Below.on ?_ (by assumption)))); rintro e w2 ⟨rfl, hb2⟩))
  go_wp2_with fail
  go_ret
  exact ⟨retB' (by simp), Below.on HBW.out hb2⟩

set_option maxRecDepth 100000 in
set_option maxHeartbeats 4000000 in
theorem asked_Len {w : World} {B L o x d : Nat} {v : Value} {log : List Ch} {op : Ao} (hk : op.k = 5) (hp : PairAt w B L o x d v log) (hl : (log.length + 2) * 64 ≤ 140737488355328) (hs : op.key.size + 1 ≤ 9223372036854775807) :
    Calls Tryd.prog 8 #[.pointer (some ⟨L, o, none⟩), opV op] w fun e w' => e = .returned (.bool true) ∧ Below w.heap.size w w' := by
  obtain ⟨w0, hw0⟩ : ∃ w0, w0 = w.alloc (.cells (opC op) 33) := ⟨_, rfl⟩
  have hb0 : Below w.heap.size w w0 := by rw [hw0]; exact Below.al (Below.refl _ _) _
  have hop : OpAt w0 w.heap.size op := by rw [hw0]; exact op_new w op
  have hp0 := hp.later hb0
  have cx := hp0.cx
  have cd := hp0.cd
  obtain ⟨b0, hb0e⟩ : ∃ b0, b0 = w.heap.size := ⟨_, rfl⟩
  rw [← hb0e] at hop
  have q0 := hop.c0; have q1 := hop.c1; have q2 := hop.c2; have q3 := hop.c3; have q4 := hop.c4; have q5 := hop.c5
  have hlx : (ixL log).length ≤ log.length := ixL_len log
  have FX : Hid (∀ W', Below w0.heap.size w0 W' → Calls Tryd.prog 18 #[.pointer (some ⟨x, 0, none⟩)] W' fun e w' => e = .returned (.int .i64 ((ixL log).length : Int)) ∧ Below w0.heap.size w0 w') := fun W' hb => (len_is (hp0.xi.later hb)).mono fun e w' ⟨he, hw⟩ => ⟨he, hw ▸ hb⟩
  have FD : Hid (∀ W', Below w0.heap.size w0 W' → Calls Tryd.prog 25 #[.pointer (some ⟨d, 0, none⟩)] W' fun e w' => e = .returned (.int .i64 ((ixL log).length : Int)) ∧ Below w0.heap.size w0 w') := fun W' hb => (reflen_is (hp0.ri.later hb)).mono fun e w' ⟨he, hw⟩ => ⟨he, Below.on hb hw⟩
  have p3 : (op.k == 3) = false := by rw [hk]; rfl
  have p5 : (op.k == 5) = true := by rw [hk]; rfl
  have HBW := hid hb0
  clear hp hl hs hop hp0 hb0 hlx hk
  go_enter Tryd.func8, Tryd.ntmps8
  go_wp2_with fail
  rw [← hw0, ← hb0e]
  clear hw0 hb0e
  go_region_held3 (fun w' => w'.cell? ⟨L, o, none⟩ = some (.pointer (some ⟨x, 0, none⟩)) ∧ w'.cell? ⟨L, o + 1, none⟩ = some (.pointer (some ⟨d, 0, none⟩)) ∧ Below w0.heap.size w0 w')
    ((refine (fun (hB : Below w0.heap.size w0 _) => ⟨cell_later hB cx, cell_later hB cd, hB⟩) ?_; (repeat (first | exact Below.refl _ _ | assumption | refine Below.drew ?_ | refine Below.al ?_ _ | refine Below.setCell ?_ (by first | exact Nat.le_refl _ | (simp; omega) | (simp; done)) _ | refine Below.on ?_ (by assumption)))))
    (first
      | (go_at_call 18; refine (FX.out _ ?_).mono ?_; ((repeat (first | exact Below.refl _ _ | assumption | refine Below.drew ?_ | refine Below.al ?_ _ | refine Below.setCell ?_ (by first | exact Nat.le_refl _ | (simp; omega) | (simp; done)) _ | refine Below.on ?_ (by assumption)))); rintro e w1 ⟨rfl, hb1⟩)
      | (go_at_call 25; refine (FD.out _ ?_).mono ?_; ((repeat (first | exact Below.refl _ _ | assumption | refine Below.drew ?_ | refine Below.al ?_ _ | refine Below.setCell ?_ (by first | exact Nat.le_refl _ | (simp; omega) | (simp; done)) _ | refine Below.on ?_ (by assumption)))); rintro e w2 ⟨rfl, hb2⟩))
  all_goals go_wp2_with fail
  all_goals go_ret
  all_goals exact ⟨retB' (by simp), Below.on HBW.out (by assumption)⟩

set_option maxRecDepth 100000 in
set_option maxHeartbeats 4000000 in
theorem asked_Floor {w : World} {B L o x d : Nat} {v : Value} {log : List Ch} {op : Ao} (hk : op.k = 6) (hp : PairAt w B L o x d v log) (hl : (log.length + 2) * 64 ≤ 140737488355328) (hs : op.key.size + 1 ≤ 9223372036854775807) :
    Calls Tryd.prog 8 #[.pointer (some ⟨L, o, none⟩), opV op] w fun e w' => e = .returned (.bool true) ∧ Below w.heap.size w w' := by
  obtain ⟨w0, hw0⟩ : ∃ w0, w0 = w.alloc (.cells (opC op) 33) := ⟨_, rfl⟩
  have hb0 : Below w.heap.size w w0 := by rw [hw0]; exact Below.al (Below.refl _ _) _
  have hop : OpAt w0 w.heap.size op := by rw [hw0]; exact op_new w op
  have hp0 := hp.later hb0
  have cx := hp0.cx
  have cd := hp0.cd
  obtain ⟨b0, hb0e⟩ : ∃ b0, b0 = w.heap.size := ⟨_, rfl⟩
  rw [← hb0e] at hop
  have q0 := hop.c0; have q1 := hop.c1; have q2 := hop.c2; have q3 := hop.c3; have q4 := hop.c4; have q5 := hop.c5
  have hlx : (ixL log).length ≤ log.length := ixL_len log
  obtain ⟨g, b, c, hV⟩ : ∃ g b c, firV (rangeX (ixL log) ⟨#[]⟩ (zb op.key)).reverse.head? = .tuple #[.string g, .int .i64 b, .bool c] := ⟨_, _, _, rfl⟩
  have FX : Hid (∀ W', Below w0.heap.size w0 W' → Calls Tryd.prog 26 #[.pointer (some ⟨x, 0, none⟩), .string op.key] W' fun e w' => e = .returned (.tuple #[.string g, .int .i64 b, .bool c]) ∧ Below w0.heap.size w0 w') := fun W' hb => (floor_is (hp0.xi.later hb) op.key hs).mono fun e w' ⟨he, hw⟩ => ⟨by rw [he, ← hV], Below.on hb hw⟩
  have FD : Hid (∀ W', Below w0.heap.size w0 W' → Calls Tryd.prog 27 #[.pointer (some ⟨d, 0, none⟩), .string op.key] W' fun e w' => e = .returned (.tuple #[.string g, .int .i64 b, .bool c]) ∧ Below w0.heap.size w0 w') := fun W' hb => (reffloor_is (hp0.ri.later hb) op.key (by omega)).mono fun e w' ⟨he, hw⟩ => ⟨by rw [he, ← hV], Below.on hb hw⟩
  clear hV
  have p3 : (op.k == 3) = false := by rw [hk]; rfl
  have p5 : (op.k == 5) = false := by rw [hk]; rfl
  have p6 : (op.k == 6) = true := by rw [hk]; rfl
  have HBW := hid hb0
  clear hp hl hs hop hp0 hb0 hlx hk
  go_enter Tryd.func8, Tryd.ntmps8
  go_wp2_with fail
  rw [← hw0, ← hb0e]
  clear hw0 hb0e
  go_region_held3 (fun w' => w'.cell? ⟨L, o, none⟩ = some (.pointer (some ⟨x, 0, none⟩)) ∧ w'.cell? ⟨b0, 2, none⟩ = some (.string op.key) ∧ Below w0.heap.size w0 w')
    ((refine (fun (hB : Below w0.heap.size w0 _) => ⟨cell_later hB cx, cell_later hB q2, hB⟩) ?_; (repeat (first | exact Below.refl _ _ | assumption | refine Below.drew ?_ | refine Below.al ?_ _ | refine Below.setCell ?_ (by first | exact Nat.le_refl _ | (simp; omega) | (simp; done)) _ | refine Below.on ?_ (by assumption)))))
    (first | (go_at_call 26; refine (FX.out _ ?_).mono ?_; ((repeat (first | exact Below.refl _ _ | assumption | refine Below.drew ?_ | refine Below.al ?_ _ | refine Below.setCell ?_ (by first | exact Nat.le_refl _ | (simp; omega) | (simp; done)) _ | refine Below.on ?_ (by assumption)))); rintro e w1 ⟨rfl, hb1⟩))
  go_wp2_with fail
  go_region_held3 (fun w' => w'.cell? ⟨L, o + 1, none⟩ = some (.pointer (some ⟨d, 0, none⟩)) ∧ w'.cell? ⟨b0, 2, none⟩ = some (.string op.key) ∧ Below w0.heap.size w0 w')
    ((refine (fun (hB : Below w0.heap.size w0 _) => ⟨cell_later hB cd, cell_later hB q2, hB⟩) ?_; (repeat (first | exact Below.refl _ _ | assumption | refine Below.drew ?_ | refine Below.al ?_ _ | refine Below.setCell ?_ (by first | exact Nat.le_refl _ | (simp; omega) | (simp; done)) _ | refine Below.on ?_ (by assumption)))))
    (first | (go_at_call 27; refine (FD.out _ ?_).mono ?_; ((repeat (first | exact Below.refl _ _ | assumption | refine Below.drew ?_ | refine Below.al ?_ _ | refine Below.setCell ?_ (by first | exact Nat.le_refl _ | (simp; omega) | (simp; done)) _ | refine Below.on ?_ (by assumption)))); rintro e w2 ⟨rfl, hb2⟩))
  go_wp2_with fail
  go_ret
  exact ⟨retB' (by simp), Below.on HBW.out hb2⟩

set_option maxRecDepth 100000 in
set_option maxHeartbeats 4000000 in
theorem asked_Ceil {w : World} {B L o x d : Nat} {v : Value} {log : List Ch} {op : Ao} (hk : op.k = 7) (hp : PairAt w B L o x d v log) (hl : (log.length + 2) * 64 ≤ 140737488355328) (hs : op.key.size + 1 ≤ 9223372036854775807) :
    Calls Tryd.prog 8 #[.pointer (some ⟨L, o, none⟩), opV op] w fun e w' => e = .returned (.bool true) ∧ Below w.heap.size w w' := by
  obtain ⟨w0, hw0⟩ : ∃ w0, w0 = w.alloc (.cells (opC op) 33) := ⟨_, rfl⟩
  have hb0 : Below w.heap.size w w0 := by rw [hw0]; exact Below.al (Below.refl _ _) _
  have hop : OpAt w0 w.heap.size op := by rw [hw0]; exact op_new w op
  have hp0 := hp.later hb0
  have cx := hp0.cx
  have cd := hp0.cd
  obtain ⟨b0, hb0e⟩ : ∃ b0, b0 = w.heap.size := ⟨_, rfl⟩
  rw [← hb0e] at hop
  have q0 := hop.c0; have q1 := hop.c1; have q2 := hop.c2; have q3 := hop.c3; have q4 := hop.c4; have q5 := hop.c5
  have hlx : (ixL log).length ≤ log.length := ixL_len log
  obtain ⟨g, b, c, hV⟩ : ∃ g b c, firV (rangeX (ixL log) op.key ⟨#[]⟩).head? = .tuple #[.string g, .int .i64 b, .bool c] := ⟨_, _, _, rfl⟩
  have FX : Hid (∀ W', Below w0.heap.size w0 W' → Calls Tryd.prog 28 #[.pointer (some ⟨x, 0, none⟩), .string op.key] W' fun e w' => e = .returned (.tuple #[.string g, .int .i64 b, .bool c]) ∧ Below w0.heap.size w0 w') := fun W' hb => (ceil_is (hp0.xi.later hb) op.key).mono fun e w' ⟨he, hw⟩ => ⟨by rw [he, ← hV], Below.on hb hw⟩
  have FD : Hid (∀ W', Below w0.heap.size w0 W' → Calls Tryd.prog 29 #[.pointer (some ⟨d, 0, none⟩), .string op.key] W' fun e w' => e = .returned (.tuple #[.string g, .int .i64 b, .bool c]) ∧ Below w0.heap.size w0 w') := fun W' hb => (refceil_is (hp0.ri.later hb) op.key (by omega)).mono fun e w' ⟨he, hw⟩ => ⟨by rw [he, ← hV], Below.on hb hw⟩
  clear hV
  have p3 : (op.k == 3) = false := by rw [hk]; rfl
  have p5 : (op.k == 5) = false := by rw [hk]; rfl
  have p6 : (op.k == 6) = false := by rw [hk]; rfl
  have p7 : (op.k == 7) = true := by rw [hk]; rfl
  have HBW := hid hb0
  clear hp hl hs hop hp0 hb0 hlx hk
  go_enter Tryd.func8, Tryd.ntmps8
  go_wp2_with fail
  rw [← hw0, ← hb0e]
  clear hw0 hb0e
  go_region_held3 (fun w' => w'.cell? ⟨L, o, none⟩ = some (.pointer (some ⟨x, 0, none⟩)) ∧ w'.cell? ⟨b0, 2, none⟩ = some (.string op.key) ∧ Below w0.heap.size w0 w')
    ((refine (fun (hB : Below w0.heap.size w0 _) => ⟨cell_later hB cx, cell_later hB q2, hB⟩) ?_; (repeat (first | exact Below.refl _ _ | assumption | refine Below.drew ?_ | refine Below.al ?_ _ | refine Below.setCell ?_ (by first | exact Nat.le_refl _ | (simp; omega) | (simp; done)) _ | refine Below.on ?_ (by assumption)))))
    (first | (go_at_call 28; refine (FX.out _ ?_).mono ?_; ((repeat (first | exact Below.refl _ _ | assumption | refine Below.drew ?_ | refine Below.al ?_ _ | refine Below.setCell ?_ (by first | exact Nat.le_refl _ | (simp; omega) | (simp; done)) _ | refine Below.on ?_ (by assumption)))); rintro e w1 ⟨rfl, hb1⟩))
  go_wp2_with fail
  go_region_held3 (fun w' => w'.cell? ⟨L, o + 1, none⟩ = some (.pointer (some ⟨d, 0, none⟩)) ∧ w'.cell? ⟨b0, 2, none⟩ = some (.string op.key) ∧ Below w0.heap.size w0 w')
    ((refine (fun (hB : Below w0.heap.size w0 _) => ⟨cell_later hB cd, cell_later hB q2, hB⟩) ?_; (repeat (first | exact Below.refl _ _ | assumption | refine Below.drew ?_ | refine Below.al ?_ _ | refine Below.setCell ?_ (by first | exact Nat.le_refl _ | (simp; omega) | (simp; done)) _ | refine Below.on ?_ (by assumption)))))
    (first | (go_at_call 29; refine (FD.out _ ?_).mono ?_; ((repeat (first | exact Below.refl _ _ | assumption | refine Below.drew ?_ | refine Below.al ?_ _ | refine Below.setCell ?_ (by first | exact Nat.le_refl _ | (simp; omega) | (simp; done)) _ | refine Below.on ?_ (by assumption)))); rintro e w2 ⟨rfl, hb2⟩))
  go_wp2_with fail
  go_ret
  exact ⟨retB' (by simp), Below.on HBW.out hb2⟩

set_option maxRecDepth 100000 in
set_option maxHeartbeats 4000000 in
theorem asked_Keys {w : World} {B L o x d : Nat} {v : Value} {log : List Ch} {op : Ao} (hk : op.k = 8) (hp : PairAt w B L o x d v log) (hl : (log.length + 2) * 64 ≤ 140737488355328) (hs : op.key.size + 1 ≤ 9223372036854775807) :
    Calls Tryd.prog 8 #[.pointer (some ⟨L, o, none⟩), opV op] w fun e w' => e = .returned (.bool true) ∧ Below w.heap.size w w' := by
  obtain ⟨w0, hw0⟩ : ∃ w0, w0 = w.alloc (.cells (opC op) 33) := ⟨_, rfl⟩
  have hb0 : Below w.heap.size w w0 := by rw [hw0]; exact Below.al (Below.refl _ _) _
  have hop : OpAt w0 w.heap.size op := by rw [hw0]; exact op_new w op
  have hp0 := hp.later hb0
  have cx := hp0.cx
  have cd := hp0.cd
  obtain ⟨b0, hb0e⟩ : ∃ b0, b0 = w.heap.size := ⟨_, rfl⟩
  rw [← hb0e] at hop
  have q0 := hop.c0; have q1 := hop.c1; have q2 := hop.c2; have q3 := hop.c3; have q4 := hop.c4; have q5 := hop.c5
  have hlx : (ixL log).length ≤ log.length := ixL_len log
  obtain ⟨E, hE⟩ : ∃ E, rangeX (ixL log) op.key op.hi = E := ⟨_, rfl⟩
  have hEl : E.length ≤ log.length := by rw [← hE]; exact Nat.le_trans (List.length_filter_le _ _) (ixL_len _)
  have SP : Hid (∀ W', Below w0.heap.size w0 W' → Calls Tryd.prog 10 #[opV op] W' fun e w' => e = .returned (.agg #[.string op.key, .string op.hi]) ∧ Below W'.heap.size W' w') := fun W' hb => (span_is W' op).mono fun e w' hh => ⟨hh.1, hh.2⟩
  have FX : Hid (∀ W', Below w0.heap.size w0 W' → Calls Tryd.prog 9 #[.pointer (some ⟨x, 0, none⟩), .agg #[.string op.key, .string op.hi]] W' fun e w' => ∃ ka kc, e = .returned (.slice ka (ks E).length kc) ∧ Hid (RowT w' ka (ks E)) ∧ Below W'.heap.size W' w') := fun W' hb =>
    (keysT_is (hp0.xi.later hb) op.key op.hi (by omega)).mono fun e w' ⟨ka, kc, he, hr, hb'⟩ => by rw [hE] at he hr; exact ⟨ka, kc, he, hr, hb'⟩
  have FD : Hid (∀ W', Below w0.heap.size w0 W' → Calls Tryd.prog 12 #[.pointer (some ⟨d, 0, none⟩), .agg #[.string op.key, .string op.hi]] W' fun e w' => ∃ ka kc, e = .returned (.slice ka (ks E).length kc) ∧ Hid (RowT w' ka (ks E)) ∧ Below W'.heap.size W' w') := fun W' hb =>
    (refkeys_is (hp0.ri.later hb) op.key op.hi hl hE).mono fun e w' ⟨ka, kc, he, hr, hb'⟩ => ⟨ka, kc, he, hr, hb'⟩
  have SM : Hid (∀ W' ka kc kb kd, RowT W' ka (ks E) → RowT W' kb (ks E) → Below w0.heap.size w0 W' → Calls Tryd.prog 11 #[.slice ka (ks E).length kc, .slice kb (ks E).length kd] W' fun e w' => e = .returned (.bool true) ∧ Below w0.heap.size w0 w') := fun W' ka kc kb kd h1 h2 hb =>
    (same_is (decide_eq_true rfl) h1 h2 (by rw [List.length_map]; omega)).mono fun e w' ⟨he, hb'⟩ => ⟨he, Below.on hb hb'⟩
  obtain ⟨T, hT⟩ : ∃ T, ks E = T := ⟨_, rfl⟩
  rw [hT] at FX FD SM
  clear hE hEl hT
  have p3 : (op.k == 3) = false := by rw [hk]; rfl
  have p5 : (op.k == 5) = false := by rw [hk]; rfl
  have p6 : (op.k == 6) = false := by rw [hk]; rfl
  have p7 : (op.k == 7) = false := by rw [hk]; rfl
  have p8 : (op.k == 8) = true := by rw [hk]; rfl
  have HBW := hid hb0
  clear hp hl hs hop hp0 hb0 hlx hk
  go_enter Tryd.func8, Tryd.ntmps8
  go_wp2_with fail
  rw [← hw0, ← hb0e]
  clear hw0 hb0e
  go_region_held3 (fun w' => w'.cell? ⟨L, o, none⟩ = some (.pointer (some ⟨x, 0, none⟩)) ∧ w'.cell? ⟨L, o + 1, none⟩ = some (.pointer (some ⟨d, 0, none⟩)) ∧ w'.cell? ⟨b0, 0, none⟩ = some (.int .i64 op.k) ∧ w'.cell? ⟨b0, 1, none⟩ = some (.int .i64 op.pl) ∧ w'.cell? ⟨b0, 2, none⟩ = some (.string op.key) ∧ w'.cell? ⟨b0, 3, none⟩ = some (.string op.hi) ∧ w'.cell? ⟨b0, 4, none⟩ = some (.int .i64 op.v) ∧ w'.cell? ⟨b0, 5, none⟩ = some (.int .i64 op.st) ∧ Below w0.heap.size w0 w')
    ((refine (fun (hB : Below w0.heap.size w0 _) => ⟨cell_later hB cx, cell_later hB cd, cell_later hB q0, cell_later hB q1, cell_later hB q2, cell_later hB q3, cell_later hB q4, cell_later hB q5, hB⟩) ?_; (repeat (first | exact Below.refl _ _ | assumption | refine Below.drew ?_ | refine Below.al ?_ _ | refine Below.setCell ?_ (by first | exact Nat.le_refl _ | (simp; omega) | (simp; done)) _ | refine Below.on ?_ (by assumption)))))
    (first
      | (go_at_call 10; refine (SP.out _ ?_).mono ?_; ((repeat (first | exact Below.refl _ _ | assumption | refine Below.drew ?_ | refine Below.al ?_ _ | refine Below.setCell ?_ (by first | exact Nat.le_refl _ | (simp; omega) | (simp; done)) _ | refine Below.on ?_ (by assumption)))); rintro e _ ⟨rfl, _⟩)
      | (go_at_call 9; refine (FX.out _ ?_).mono ?_; ((repeat (first | exact Below.refl _ _ | assumption | refine Below.drew ?_ | refine Below.al ?_ _ | refine Below.setCell ?_ (by first | exact Nat.le_refl _ | (simp; omega) | (simp; done)) _ | refine Below.on ?_ (by assumption)))); rintro e w1 ⟨ka, kc, rfl, hr1, _⟩)
      | (go_at_call 12; refine (FD.out _ ?_).mono ?_; ((repeat (first | exact Below.refl _ _ | assumption | refine Below.drew ?_ | refine Below.al ?_ _ | refine Below.setCell ?_ (by first | exact Nat.le_refl _ | (simp; omega) | (simp; done)) _ | refine Below.on ?_ (by assumption)))); rintro e w2 ⟨kb, kd, rfl, hr2, _⟩)
      | (go_at_call 11; refine (SM.out _ _ _ _ _ (RowT.later hr1.out ?_) (RowT.later hr2.out ?_) ?_).mono ?_; ((repeat (first | exact Below.refl _ _ | assumption | refine Below.drew ?_ | refine Below.al ?_ _ | refine Below.setCell ?_ (by first | exact Nat.le_refl _ | (simp; omega) | (simp; done)) _ | refine Below.on ?_ (by assumption)))); ((repeat (first | exact Below.refl _ _ | assumption | refine Below.drew ?_ | refine Below.al ?_ _ | refine Below.setCell ?_ (by first | exact Nat.le_refl _ | (simp; omega) | (simp; done)) _ | refine Below.on ?_ (by assumption)))); ((repeat (first | exact Below.refl _ _ | assumption | refine Below.drew ?_ | refine Below.al ?_ _ | refine Below.setCell ?_ (by first | exact Nat.le_refl _ | (simp; omega) | (simp; done)) _ | refine Below.on ?_ (by assumption)))); rintro e w9 ⟨rfl, hb9⟩))
  all_goals go_wp2_with fail
  all_goals go_ret
  all_goals exact ⟨rfl, Below.on HBW.out hb9⟩

set_option maxHeartbeats 4000000 in
theorem asked_none {w : World} {a : Addr} {op : Ao} (h3 : op.k ≠ 3) (h5 : op.k ≠ 5) (h6 : op.k ≠ 6) (h7 : op.k ≠ 7) (h8 : op.k ≠ 8) :
    Calls Tryd.prog 8 #[.pointer (some a), opV op] w fun e w' => e = .returned (.bool true) ∧ Below w.heap.size w w' := by
  have hb0 : Below w.heap.size w (w.alloc (.cells (opC op) 33)) := Below.al (Below.refl _ _) _
  have p3 : (op.k == 3) = false := by simpa using h3
  have p5 : (op.k == 5) = false := by simpa using h5
  have p6 : (op.k == 6) = false := by simpa using h6
  have p7 : (op.k == 7) = false := by simpa using h7
  have p8 : (op.k == 8) = false := by simpa using h8
  clear h3 h5 h6 h7 h8
  have HB := hid hb0
  clear hb0
  go_enter Tryd.func8, Tryd.ntmps8
  go_wp2_with fail
  go_ret
  exact ⟨rfl, HB.out⟩
theorem asked_is {w : World} {B L o x d : Nat} {v : Value} {log : List Ch} (op : Ao) (hp : PairAt w B L o x d v log) (hl : (log.length + 2) * 64 ≤ 140737488355328) (hs : op.key.size + 1 ≤ 9223372036854775807) :
    Calls Tryd.prog 8 #[.pointer (some ⟨L, o, none⟩), opV op] w fun e w' => e = .returned (.bool true) ∧ Below w.heap.size w w' := by
  by_cases h3 : op.k = 3
  · exact asked_Get h3 hp hl hs
  by_cases h5 : op.k = 5
  · exact asked_Len h5 hp hl hs
  by_cases h6 : op.k = 6
  · exact asked_Floor h6 hp hl hs
  by_cases h7 : op.k = 7
  · exact asked_Ceil h7 hp hl hs
  by_cases h8 : op.k = 8
  · exact asked_Keys h8 hp hl hs
  exact asked_none h3 h5 h6 h7 h8

end Go.Proofs.YtdllhkjdckcgmaaDoor
