import Derived.Test.YtmbmagfdeadibaaDXState
import Derived.Deep.DeepCutAuto
namespace Go.Proofs.Ytmbmagfdeadibaa
open Go.RowKit Go.Sort
set_option linter.unusedVariables false
variable {R : World → (Nat → Prop) → Nat → Dk → Prop}
variable {wb : World} {A : Bool → Nat} {F : Bool → Nat → Nat → Prop} {p : Bool → Nat → Nat} {d : Bool → Nat → Dk}

/-- a step in its box -/
structure BoxX (w : World) (q : Nat) (x : Stp) : Prop where
  c0 : w.cell? ⟨q, 0, none⟩ = some (.int .i64 x.k)
  c1 : w.cell? ⟨q, 1, none⟩ = some (.int .i64 x.o)
  c2 : w.cell? ⟨q, 2, none⟩ = some (.int .i64 x.s)
  c3 : w.cell? ⟨q, 3, none⟩ = some (.int .i64 x.n)
  c4 : w.cell? ⟨q, 4, none⟩ = some (.int .i64 x.m)
  c5 : w.cell? ⟨q, 5, none⟩ = some (.string (ofNats x.t))
theorem boxX (w : World) (x : Stp) (T : TypeId) : BoxX (w.alloc (.cells x.cells T)) w.heap.size x := by
  refine ⟨?_, ?_, ?_, ?_, ?_, ?_⟩ <;> simp [go_sem]
theorem BoxX.later {w w' : World} {q : Nat} {x : Stp} (h : BoxX w q x) (hb : Below w.heap.size w w') : BoxX w' q x :=
  ⟨cell_later hb h.c0, cell_later hb h.c1, cell_later hb h.c2, cell_later hb h.c3, cell_later hb h.c4, cell_later hb h.c5⟩
theorem BoxX.onl {w w' : World} {G : Nat → Prop} {q : Nat} {x : Stp} (h : BoxX w q x) (ho : Onl G w w') (hq : ¬ G q) : BoxX w' q x :=
  ⟨ho.cell hq h.c0, ho.cell hq h.c1, ho.cell hq h.c2, ho.cell hq h.c3, ho.cell hq h.c4, ho.cell hq h.c5⟩

theorem Moved.onl {R : World → (Nat → Prop) → Nat → Dk → Prop} {w w' : World} {F : Nat → Prop} {p : Nat} {d : Dk} (h : Moved R w w' F p d) : Onl F w w' := by
  obtain ⟨_, _, h2, _⟩ := h; exact h2
/-- behind a step at place i: what stands there now -/
def Done (R : World → (Nat → Prop) → Nat → Dk → Prop) (wb : World) (A : Bool → Nat) (F : Bool → Nat → Nat → Prop) (p : Bool → Nat → Nat) (d : Bool → Nat → Dk) (i : Nat) (e : Dk) (w w' : World) : Prop :=
  (∃ F', St R n3 wb w' A F' p (up2 (up2 d true i e) false i e)) ∧ Onl (fun k => F true i k ∨ F false i k) w w'
/-- the program's call, then the document's -/
theorem done_both (I : Face R) {w w1 w2 : World} {i : Nat} {e : Dk} {F1 : Nat → Prop} (h : St R n3 wb w1 A (up2 F true i F1) p (up2 d true i e)) (hi : i < 3) (ho : Onl (fun k => F true i k ∨ F false i k) w w1) (hm : Moved RD w1 w2 ((up2 F true i F1) false i) (p false i) e) : Done R wb A F p d i e w w2 := by
  have h2 := hm.onl
  rw [up2_other F F1 (.inl (by decide))] at h2
  obtain ⟨F', h'⟩ := h.move I (b := false) (i := i) hi hm
  exact ⟨⟨_, h'⟩, ho.trans (h2.mono (fun k => .inr))⟩
/-- behind the program's call the document's disk is as it was, and so is the box -/
theorem St.first (I : Face R) {w w1 : World} {i q : Nat} {e e' : Dk} {x : Stp} (h : St R n3 wb w A F p d) (hi : i < 3) (h2 : d false i = e) (hm : Moved R w w1 (F true i) (p true i) e') (hb : BoxX w q x) (hq : ¬ F true i q) :
    (∃ F1, St R n3 wb w1 A (up2 F true i F1) p (up2 d true i e') ∧ RD w1 ((up2 F true i F1) false i) (p false i) e) ∧ BoxX w1 q x := by
  have ho : Onl (F true i) w w1 := by obtain ⟨_, _, h2, _⟩ := hm; exact h2
  obtain ⟨F1, h1⟩ := h.move I (b := true) (i := i) hi hm
  refine ⟨⟨F1, h1, ?_⟩, hb.onl ho hq⟩
  have := h1.at' false i hi
  rw [up2_other d e' (.inl (by decide)), h2] at this
  exact this
theorem up2_self (d : Bool → Nat → Dk) (b : Bool) (i : Nat) : up2 d b i (d b i) = d := by
  funext b' i'
  rcases either b b' i i' with ⟨rfl, rfl⟩ | he
  · rw [up2_same]
  · rw [up2_other _ _ he]
theorem done_still (I : Face R) {w w' : World} {i : Nat} {e : Dk} (h : St R n3 wb w A F p d) (hi : i < 3) (h1 : d true i = e) (h2 : d false i = e) (hb : Below w.heap.size w w') : Done R wb A F p d i e w w' := by
  have e1 : up2 d true i e = d := by rw [← h1]; exact up2_self d true i
  have e2 : up2 (up2 d true i e) false i e = d := by rw [e1, ← h2]; exact up2_self d false i
  refine ⟨⟨F, ?_⟩, Onl.of_below hb⟩
  rw [e2]
  exact h.later I hb

set_option maxHeartbeats 4000000 in
theorem does_append (I : Face R) {w : World} {i : Nat} {e : Dk} {x : Stp} (h : St R n3 wb w A F p d) (hi : i < 3) (h1 : d true i = e) (h2 : d false i = e) (hx : x.ok) (hk : x.k = 2) :
    Calls Try.prog 23 #[ptr (p true i), ptr (p false i), x.val] w fun e' w' => e' = .returned (.bool true) ∧ Done R wb A F p d i (e.act x) w w' := by
  obtain ⟨wa, hwa⟩ : ∃ wa, wa = w.alloc (.cells x.cells 29) := ⟨_, rfl⟩
  have hba : Below w.heap.size w wa := by rw [hwa]; exact Below.al (Below.refl _ _) _
  have hbx : BoxX wa w.heap.size x := by rw [hwa]; exact boxX w x _
  have HNQ : Hid (∀ b j, j < 3 → ¬ F b j w.heap.size) := fun b j hj hk => by have := (h.at' b j hj).lt I w.heap.size hk; omega
  have HBX := hid hbx
  have HBA := hid hba
  have HSW := hid h
  have HS := hid (h.later I hba)
  have HW := hid hwa
  have HX := hid hx
  have HI := hid I
  have HP : Hid (R wa (F true i) (p true i) e) := by have := HS.out.at' true i hi; rw [h1] at this; exact this
  have HR : Hid (RD wa (F false i) (p false i) e) := by have := HS.out.at' false i hi; rw [h2] at this; exact this
  have HE : Hid (d true i = e ∧ d false i = e) := ⟨h1, h2⟩
  obtain ⟨pp, hpp⟩ : ∃ pp, pp = p true i := ⟨_, rfl⟩
  obtain ⟨qq, hqq⟩ : ∃ qq, qq = p false i := ⟨_, rfl⟩
  rw [← hpp] at HP ⊢
  rw [← hqq] at HR ⊢
  have HPP := hid hpp
  have HQQ := hid hqq
  clear h h1 h2 hx hba hwa hbx I hpp hqq
  have q2 : (x.k == 2) = true := by rw [hk]; rfl
  have HA : Hid (e.act x = e.app x.s x.t) := by show _ = _; unfold Dk.act; rw [if_pos hk]
  clear hk
  rw [HA.out]
  have c2 := HBX.out.c2; have c3 := HBX.out.c3; have c5 := HBX.out.c5
  go_enter Try.func23, Try.ntmps23
  go_wp2_with fail
  rw [← HW.out]
  go_region_held3 (fun w' => w'.cell? ⟨w.heap.size, 2, none⟩ = some (.int .i64 x.s) ∧ w'.cell? ⟨w.heap.size, 3, none⟩ = some (.int .i64 x.n) ∧ w'.cell? ⟨w.heap.size, 5, none⟩ = some (.string (ofNats x.t)))
    (first | exact ⟨c2, c3, c5⟩ | exact ⟨k2, k3, k5⟩ | exact ⟨j2, j3, j5⟩)
    (first | (go_at_call 12; refine (HI.out.append (HI.out.later HP.out (Below.drew (Below.refl _ _))) x.s HX.out.s HX.out.t).mono ?_; rintro e' w1 ⟨rfl, hm⟩; obtain ⟨⟨F1, hS1, hR1⟩, hX1⟩ := St.first HI.out (HS.out.later HI.out (Below.drew (Below.refl _ _))) hi HE.out.2 (by rw [← HPP.out]; exact hm) (HBX.out.later (Below.drew (Below.refl _ _))) (HNQ.out true i hi); have HS1 := hid hS1; have HO1 : Hid (Onl (fun k => F true i k ∨ F false i k) w w1) := ((Onl.of_below (Below.drew HBA.out)).trans ((Moved.onl hm).mono (fun k => .inl))); have HR1 : Hid (RD w1 ((up2 F true i F1) false i) qq e) := (by show RD _ _ qq e; rw [HQQ.out]; exact hR1); have HX1 := hid hX1; have k2 := hX1.c2; have k3 := hX1.c3; have k5 := hX1.c5; clear hm hS1 hR1 hX1) | (go_at_call 32; refine (rd_append HR1.out x.s HX.out.t).mono ?_; rintro e' w2 ⟨rfl, hm⟩; have HD : Hid (Done R wb A F p d i (e.app x.s x.t) w w2) := (done_both HI.out HS1.out hi HO1.out (by rw [← HQQ.out]; exact hm)); have hx2 : BoxX w2 w.heap.size x := (HX1.out.onl (Moved.onl hm) (by rw [up2_other F F1 (.inl (by decide))]; exact HNQ.out false i hi)); have j2 := hx2.c2; have j3 := hx2.c3; have j5 := hx2.c5; clear hm hx2))
  all_goals (try go_wp2_with fail)
  all_goals go_ret
  all_goals exact ⟨by first | rfl | simp, HD.out⟩

set_option maxHeartbeats 4000000 in
theorem does_sync (I : Face R) {w : World} {i : Nat} {e : Dk} {x : Stp} (h : St R n3 wb w A F p d) (hi : i < 3) (h1 : d true i = e) (h2 : d false i = e) (hx : x.ok) (hk : x.k = 3) :
    Calls Try.prog 23 #[ptr (p true i), ptr (p false i), x.val] w fun e' w' => e' = .returned (.bool true) ∧ Done R wb A F p d i (e.act x) w w' := by
  obtain ⟨wa, hwa⟩ : ∃ wa, wa = w.alloc (.cells x.cells 29) := ⟨_, rfl⟩
  have hba : Below w.heap.size w wa := by rw [hwa]; exact Below.al (Below.refl _ _) _
  have hbx : BoxX wa w.heap.size x := by rw [hwa]; exact boxX w x _
  have HNQ : Hid (∀ b j, j < 3 → ¬ F b j w.heap.size) := fun b j hj hk => by have := (h.at' b j hj).lt I w.heap.size hk; omega
  have HBX := hid hbx
  have HBA := hid hba
  have HSW := hid h
  have HS := hid (h.later I hba)
  have HW := hid hwa
  have HX := hid hx
  have HI := hid I
  have HP : Hid (R wa (F true i) (p true i) e) := by have := HS.out.at' true i hi; rw [h1] at this; exact this
  have HR : Hid (RD wa (F false i) (p false i) e) := by have := HS.out.at' false i hi; rw [h2] at this; exact this
  have HE : Hid (d true i = e ∧ d false i = e) := ⟨h1, h2⟩
  obtain ⟨pp, hpp⟩ : ∃ pp, pp = p true i := ⟨_, rfl⟩
  obtain ⟨qq, hqq⟩ : ∃ qq, qq = p false i := ⟨_, rfl⟩
  rw [← hpp] at HP ⊢
  rw [← hqq] at HR ⊢
  have HPP := hid hpp
  have HQQ := hid hqq
  clear h h1 h2 hx hba hwa hbx I hpp hqq
  have q2 : (x.k == 2) = false := by rw [hk]; rfl
  have q3 : (x.k == 3) = true := by rw [hk]; rfl
  have HA : Hid (e.act x = e.sync) := by show _ = _; unfold Dk.act; rw [if_neg (by rw [hk]; decide), if_pos hk]
  clear hk
  rw [HA.out]
  go_enter Try.func23, Try.ntmps23
  go_wp2_with fail
  rw [← HW.out]
  refine (HI.out.sync HP.out).mono ?_
  rintro e' w1 ⟨rfl, hm⟩
  obtain ⟨⟨F1, hS1, hR1⟩, hX1⟩ := St.first HI.out HS.out hi HE.out.2 (by rw [← HPP.out]; exact hm) HBX.out (HNQ.out true i hi)
  have HS1 := hid hS1
  have HO1 : Hid (Onl (fun k => F true i k ∨ F false i k) w w1) := (Onl.of_below HBA.out).trans ((Moved.onl hm).mono (fun k => .inl))
  have HR1 : Hid (RD w1 ((up2 F true i F1) false i) qq e) := by show RD _ _ qq e; rw [HQQ.out]; exact hR1
  have c0 := hX1.c0; have c1 := hX1.c1; have c2 := hX1.c2; have c3 := hX1.c3; have c4 := hX1.c4; have c5 := hX1.c5
  clear hm hS1 hR1 hX1
  go_wp2_with fail
  refine (rd_sync HR1.out).mono ?_
  rintro e' w2 ⟨rfl, hm⟩
  have HD : Hid (Done R wb A F p d i (e.sync) w w2) := done_both HI.out HS1.out hi HO1.out (by rw [← HQQ.out]; exact hm)
  clear hm
  go_wp2_with fail
  go_ret
  exact ⟨by first | rfl | simp, HD.out⟩

set_option maxHeartbeats 4000000 in
theorem does_bytes (I : Face R) {w : World} {i : Nat} {e : Dk} {x : Stp} (h : St R n3 wb w A F p d) (hi : i < 3) (h1 : d true i = e) (h2 : d false i = e) (hx : x.ok) (hk : x.k = 4) :
    Calls Try.prog 23 #[ptr (p true i), ptr (p false i), x.val] w fun e' w' => e' = .returned (.bool true) ∧ Done R wb A F p d i (e.act x) w w' := by
  obtain ⟨wa, hwa⟩ : ∃ wa, wa = w.alloc (.cells x.cells 29) := ⟨_, rfl⟩
  have hba : Below w.heap.size w wa := by rw [hwa]; exact Below.al (Below.refl _ _) _
  have hbx : BoxX wa w.heap.size x := by rw [hwa]; exact boxX w x _
  have HNQ : Hid (∀ b j, j < 3 → ¬ F b j w.heap.size) := fun b j hj hk => by have := (h.at' b j hj).lt I w.heap.size hk; omega
  have HBX := hid hbx
  have HBA := hid hba
  have HSW := hid h
  have HS := hid (h.later I hba)
  have HW := hid hwa
  have HX := hid hx
  have HI := hid I
  have HP : Hid (R wa (F true i) (p true i) e) := by have := HS.out.at' true i hi; rw [h1] at this; exact this
  have HR : Hid (RD wa (F false i) (p false i) e) := by have := HS.out.at' false i hi; rw [h2] at this; exact this
  have HE : Hid (d true i = e ∧ d false i = e) := ⟨h1, h2⟩
  obtain ⟨pp, hpp⟩ : ∃ pp, pp = p true i := ⟨_, rfl⟩
  obtain ⟨qq, hqq⟩ : ∃ qq, qq = p false i := ⟨_, rfl⟩
  rw [← hpp] at HP ⊢
  rw [← hqq] at HR ⊢
  have HPP := hid hpp
  have HQQ := hid hqq
  clear h h1 h2 hx hba hwa hbx I hpp hqq
  have q2 : (x.k == 2) = false := by rw [hk]; rfl
  have q3 : (x.k == 3) = false := by rw [hk]; rfl
  have q4 : (x.k == 4) = true := by rw [hk]; rfl
  have HA : Hid (e.act x = e) := by show _ = _; unfold Dk.act; rw [if_neg (by rw [hk]; decide), if_neg (by rw [hk]; decide), if_neg (by rw [hk]; decide), if_neg (by rw [hk]; decide), if_neg (by rw [hk]; decide)]
  clear hk
  rw [HA.out]
  have c2 := HBX.out.c2
  have k2 := cell_regrown c2
  go_enter Try.func23, Try.ntmps23
  go_wp2_with fail
  rw [← HW.out]
  refine wp_region_quiet_below (by kernel_rfl) (by kernel_rfl) ?_
  repeat (go_big_quiet_step (first | (go_at_call 11; exact Calls.regrown_of (HI.out.bytes (HI.out.later HP.out (below_regrown _ _ _)) x.s HX.out.s)) | (go_at_call 34; exact Calls.regrown_of (rd_bytes (RD.later HR.out (below_regrown _ _ _)) x.s))))
  refine wpQuiet_nil ?_
  intro w1 hw1
  replace hw1 := below_of_regrown hw1
  have HD : Hid (Done R wb A F p d i e w w1) := done_still HI.out HSW.out hi HE.out.1 HE.out.2 (Below.on HBA.out hw1)
  clear hw1 k2 c2
  go_wp2_with fail
  go_ret
  exact ⟨by first | rfl | simp, HD.out⟩

set_option maxHeartbeats 4000000 in
theorem does_synced (I : Face R) {w : World} {i : Nat} {e : Dk} {x : Stp} (h : St R n3 wb w A F p d) (hi : i < 3) (h1 : d true i = e) (h2 : d false i = e) (hx : x.ok) (hk : x.k = 5) :
    Calls Try.prog 23 #[ptr (p true i), ptr (p false i), x.val] w fun e' w' => e' = .returned (.bool true) ∧ Done R wb A F p d i (e.act x) w w' := by
  obtain ⟨wa, hwa⟩ : ∃ wa, wa = w.alloc (.cells x.cells 29) := ⟨_, rfl⟩
  have hba : Below w.heap.size w wa := by rw [hwa]; exact Below.al (Below.refl _ _) _
  have hbx : BoxX wa w.heap.size x := by rw [hwa]; exact boxX w x _
  have HNQ : Hid (∀ b j, j < 3 → ¬ F b j w.heap.size) := fun b j hj hk => by have := (h.at' b j hj).lt I w.heap.size hk; omega
  have HBX := hid hbx
  have HBA := hid hba
  have HSW := hid h
  have HS := hid (h.later I hba)
  have HW := hid hwa
  have HX := hid hx
  have HI := hid I
  have HP : Hid (R wa (F true i) (p true i) e) := by have := HS.out.at' true i hi; rw [h1] at this; exact this
  have HR : Hid (RD wa (F false i) (p false i) e) := by have := HS.out.at' false i hi; rw [h2] at this; exact this
  have HE : Hid (d true i = e ∧ d false i = e) := ⟨h1, h2⟩
  obtain ⟨pp, hpp⟩ : ∃ pp, pp = p true i := ⟨_, rfl⟩
  obtain ⟨qq, hqq⟩ : ∃ qq, qq = p false i := ⟨_, rfl⟩
  rw [← hpp] at HP ⊢
  rw [← hqq] at HR ⊢
  have HPP := hid hpp
  have HQQ := hid hqq
  clear h h1 h2 hx hba hwa hbx I hpp hqq
  have q2 : (x.k == 2) = false := by rw [hk]; rfl
  have q3 : (x.k == 3) = false := by rw [hk]; rfl
  have q4 : (x.k == 4) = false := by rw [hk]; rfl
  have q5 : (x.k == 5) = true := by rw [hk]; rfl
  have HA : Hid (e.act x = e) := by show _ = _; unfold Dk.act; rw [if_neg (by rw [hk]; decide), if_neg (by rw [hk]; decide), if_neg (by rw [hk]; decide), if_neg (by rw [hk]; decide), if_neg (by rw [hk]; decide)]
  clear hk
  rw [HA.out]
  have c2 := HBX.out.c2
  have k2 := cell_regrown c2
  go_enter Try.func23, Try.ntmps23
  go_wp2_with fail
  rw [← HW.out]
  refine wp_region_quiet_below (by kernel_rfl) (by kernel_rfl) ?_
  repeat (go_big_quiet_step (first | (go_at_call 15; exact Calls.regrown_of (HI.out.synced (HI.out.later HP.out (below_regrown _ _ _)) x.s HX.out.s)) | (go_at_call 35; exact Calls.regrown_of (rd_synced (RD.later HR.out (below_regrown _ _ _)) x.s))))
  refine wpQuiet_nil ?_
  intro w1 hw1
  replace hw1 := below_of_regrown hw1
  have HD : Hid (Done R wb A F p d i e w w1) := done_still HI.out HSW.out hi HE.out.1 HE.out.2 (Below.on HBA.out hw1)
  clear hw1 k2 c2
  go_wp2_with fail
  go_ret
  exact ⟨by first | rfl | simp, HD.out⟩

set_option maxHeartbeats 4000000 in
theorem does_cut (I : Face R) {w : World} {i : Nat} {e : Dk} {x : Stp} (h : St R n3 wb w A F p d) (hi : i < 3) (h1 : d true i = e) (h2 : d false i = e) (hx : x.ok) (hk : x.k = 6) :
    Calls Try.prog 23 #[ptr (p true i), ptr (p false i), x.val] w fun e' w' => e' = .returned (.bool true) ∧ Done R wb A F p d i (e.act x) w w' := by
  obtain ⟨wa, hwa⟩ : ∃ wa, wa = w.alloc (.cells x.cells 29) := ⟨_, rfl⟩
  have hba : Below w.heap.size w wa := by rw [hwa]; exact Below.al (Below.refl _ _) _
  have hbx : BoxX wa w.heap.size x := by rw [hwa]; exact boxX w x _
  have HNQ : Hid (∀ b j, j < 3 → ¬ F b j w.heap.size) := fun b j hj hk => by have := (h.at' b j hj).lt I w.heap.size hk; omega
  have HBX := hid hbx
  have HBA := hid hba
  have HSW := hid h
  have HS := hid (h.later I hba)
  have HW := hid hwa
  have HX := hid hx
  have HI := hid I
  have HP : Hid (R wa (F true i) (p true i) e) := by have := HS.out.at' true i hi; rw [h1] at this; exact this
  have HR : Hid (RD wa (F false i) (p false i) e) := by have := HS.out.at' false i hi; rw [h2] at this; exact this
  have HE : Hid (d true i = e ∧ d false i = e) := ⟨h1, h2⟩
  obtain ⟨pp, hpp⟩ : ∃ pp, pp = p true i := ⟨_, rfl⟩
  obtain ⟨qq, hqq⟩ : ∃ qq, qq = p false i := ⟨_, rfl⟩
  rw [← hpp] at HP ⊢
  rw [← hqq] at HR ⊢
  have HPP := hid hpp
  have HQQ := hid hqq
  clear h h1 h2 hx hba hwa hbx I hpp hqq
  have q2 : (x.k == 2) = false := by rw [hk]; rfl
  have q3 : (x.k == 3) = false := by rw [hk]; rfl
  have q4 : (x.k == 4) = false := by rw [hk]; rfl
  have q5 : (x.k == 5) = false := by rw [hk]; rfl
  have q6 : (x.k == 6) = true := by rw [hk]; rfl
  have HA : Hid (e.act x = e.cut x.s x.n) := by show _ = _; unfold Dk.act; rw [if_neg (by rw [hk]; decide), if_neg (by rw [hk]; decide), if_pos hk]
  clear hk
  rw [HA.out]
  have c2 := HBX.out.c2; have c3 := HBX.out.c3; have c5 := HBX.out.c5
  go_enter Try.func23, Try.ntmps23
  go_wp2_with fail
  rw [← HW.out]
  go_region_held3 (fun w' => w'.cell? ⟨w.heap.size, 2, none⟩ = some (.int .i64 x.s) ∧ w'.cell? ⟨w.heap.size, 3, none⟩ = some (.int .i64 x.n) ∧ w'.cell? ⟨w.heap.size, 5, none⟩ = some (.string (ofNats x.t)))
    (first | exact ⟨c2, c3, c5⟩ | exact ⟨k2, k3, k5⟩ | exact ⟨j2, j3, j5⟩)
    (first | (go_at_call 24; refine (HI.out.cut (HI.out.later HP.out (Below.drew (Below.refl _ _))) x.s x.n HX.out.s HX.out.n).mono ?_; rintro e' w1 ⟨rfl, hm⟩; obtain ⟨⟨F1, hS1, hR1⟩, hX1⟩ := St.first HI.out (HS.out.later HI.out (Below.drew (Below.refl _ _))) hi HE.out.2 (by rw [← HPP.out]; exact hm) (HBX.out.later (Below.drew (Below.refl _ _))) (HNQ.out true i hi); have HS1 := hid hS1; have HO1 : Hid (Onl (fun k => F true i k ∨ F false i k) w w1) := ((Onl.of_below (Below.drew HBA.out)).trans ((Moved.onl hm).mono (fun k => .inl))); have HR1 : Hid (RD w1 ((up2 F true i F1) false i) qq e) := (by show RD _ _ qq e; rw [HQQ.out]; exact hR1); have HX1 := hid hX1; have k2 := hX1.c2; have k3 := hX1.c3; have k5 := hX1.c5; clear hm hS1 hR1 hX1) | (go_at_call 36; refine (rd_cut HR1.out x.s x.n).mono ?_; rintro e' w2 ⟨rfl, hm⟩; have HD : Hid (Done R wb A F p d i (e.cut x.s x.n) w w2) := (done_both HI.out HS1.out hi HO1.out (by rw [← HQQ.out]; exact hm)); have hx2 : BoxX w2 w.heap.size x := (HX1.out.onl (Moved.onl hm) (by rw [up2_other F F1 (.inl (by decide))]; exact HNQ.out false i hi)); have j2 := hx2.c2; have j3 := hx2.c3; have j5 := hx2.c5; clear hm hx2))
  all_goals (try go_wp2_with fail)
  all_goals go_ret
  all_goals exact ⟨by first | rfl | simp, HD.out⟩

set_option maxHeartbeats 4000000 in
theorem does_remove (I : Face R) {w : World} {i : Nat} {e : Dk} {x : Stp} (h : St R n3 wb w A F p d) (hi : i < 3) (h1 : d true i = e) (h2 : d false i = e) (hx : x.ok) (hk : x.k = 7) :
    Calls Try.prog 23 #[ptr (p true i), ptr (p false i), x.val] w fun e' w' => e' = .returned (.bool true) ∧ Done R wb A F p d i (e.act x) w w' := by
  obtain ⟨wa, hwa⟩ : ∃ wa, wa = w.alloc (.cells x.cells 29) := ⟨_, rfl⟩
  have hba : Below w.heap.size w wa := by rw [hwa]; exact Below.al (Below.refl _ _) _
  have hbx : BoxX wa w.heap.size x := by rw [hwa]; exact boxX w x _
  have HNQ : Hid (∀ b j, j < 3 → ¬ F b j w.heap.size) := fun b j hj hk => by have := (h.at' b j hj).lt I w.heap.size hk; omega
  have HBX := hid hbx
  have HBA := hid hba
  have HSW := hid h
  have HS := hid (h.later I hba)
  have HW := hid hwa
  have HX := hid hx
  have HI := hid I
  have HP : Hid (R wa (F true i) (p true i) e) := by have := HS.out.at' true i hi; rw [h1] at this; exact this
  have HR : Hid (RD wa (F false i) (p false i) e) := by have := HS.out.at' false i hi; rw [h2] at this; exact this
  have HE : Hid (d true i = e ∧ d false i = e) := ⟨h1, h2⟩
  obtain ⟨pp, hpp⟩ : ∃ pp, pp = p true i := ⟨_, rfl⟩
  obtain ⟨qq, hqq⟩ : ∃ qq, qq = p false i := ⟨_, rfl⟩
  rw [← hpp] at HP ⊢
  rw [← hqq] at HR ⊢
  have HPP := hid hpp
  have HQQ := hid hqq
  clear h h1 h2 hx hba hwa hbx I hpp hqq
  have q2 : (x.k == 2) = false := by rw [hk]; rfl
  have q3 : (x.k == 3) = false := by rw [hk]; rfl
  have q4 : (x.k == 4) = false := by rw [hk]; rfl
  have q5 : (x.k == 5) = false := by rw [hk]; rfl
  have q6 : (x.k == 6) = false := by rw [hk]; rfl
  have q7 : (x.k == 7) = true := by rw [hk]; rfl
  have HA : Hid (e.act x = e.cut x.s 0) := by show _ = _; unfold Dk.act; rw [if_neg (by rw [hk]; decide), if_neg (by rw [hk]; decide), if_neg (by rw [hk]; decide), if_pos hk]
  clear hk
  rw [HA.out]
  have c2 := HBX.out.c2; have c3 := HBX.out.c3; have c5 := HBX.out.c5
  go_enter Try.func23, Try.ntmps23
  go_wp2_with fail
  rw [← HW.out]
  go_region_held3 (fun w' => w'.cell? ⟨w.heap.size, 2, none⟩ = some (.int .i64 x.s) ∧ w'.cell? ⟨w.heap.size, 3, none⟩ = some (.int .i64 x.n) ∧ w'.cell? ⟨w.heap.size, 5, none⟩ = some (.string (ofNats x.t)))
    (first | exact ⟨c2, c3, c5⟩ | exact ⟨k2, k3, k5⟩ | exact ⟨j2, j3, j5⟩)
    (first | (go_at_call 25; refine (HI.out.remove (HI.out.later HP.out (Below.drew (Below.refl _ _))) x.s HX.out.s).mono ?_; rintro e' w1 ⟨rfl, hm⟩; obtain ⟨⟨F1, hS1, hR1⟩, hX1⟩ := St.first HI.out (HS.out.later HI.out (Below.drew (Below.refl _ _))) hi HE.out.2 (by rw [← HPP.out]; exact hm) (HBX.out.later (Below.drew (Below.refl _ _))) (HNQ.out true i hi); have HS1 := hid hS1; have HO1 : Hid (Onl (fun k => F true i k ∨ F false i k) w w1) := ((Onl.of_below (Below.drew HBA.out)).trans ((Moved.onl hm).mono (fun k => .inl))); have HR1 : Hid (RD w1 ((up2 F true i F1) false i) qq e) := (by show RD _ _ qq e; rw [HQQ.out]; exact hR1); have HX1 := hid hX1; have k2 := hX1.c2; have k3 := hX1.c3; have k5 := hX1.c5; clear hm hS1 hR1 hX1) | (go_at_call 37; refine (rd_remove HR1.out x.s).mono ?_; rintro e' w2 ⟨rfl, hm⟩; have HD : Hid (Done R wb A F p d i (e.cut x.s 0) w w2) := (done_both HI.out HS1.out hi HO1.out (by rw [← HQQ.out]; exact hm)); have hx2 : BoxX w2 w.heap.size x := (HX1.out.onl (Moved.onl hm) (by rw [up2_other F F1 (.inl (by decide))]; exact HNQ.out false i hi)); have j2 := hx2.c2; have j3 := hx2.c3; have j5 := hx2.c5; clear hm hx2))
  all_goals (try go_wp2_with fail)
  all_goals go_ret
  all_goals exact ⟨by first | rfl | simp, HD.out⟩

set_option maxHeartbeats 4000000 in
theorem does_used (I : Face R) {w : World} {i : Nat} {e : Dk} {x : Stp} (h : St R n3 wb w A F p d) (hi : i < 3) (h1 : d true i = e) (h2 : d false i = e) (hx : x.ok) (hk : x.k = 8) :
    Calls Try.prog 23 #[ptr (p true i), ptr (p false i), x.val] w fun e' w' => e' = .returned (.bool true) ∧ Done R wb A F p d i (e.act x) w w' := by
  obtain ⟨wa, hwa⟩ : ∃ wa, wa = w.alloc (.cells x.cells 29) := ⟨_, rfl⟩
  have hba : Below w.heap.size w wa := by rw [hwa]; exact Below.al (Below.refl _ _) _
  have hbx : BoxX wa w.heap.size x := by rw [hwa]; exact boxX w x _
  have HNQ : Hid (∀ b j, j < 3 → ¬ F b j w.heap.size) := fun b j hj hk => by have := (h.at' b j hj).lt I w.heap.size hk; omega
  have HBX := hid hbx
  have HBA := hid hba
  have HSW := hid h
  have HS := hid (h.later I hba)
  have HW := hid hwa
  have HX := hid hx
  have HI := hid I
  have HP : Hid (R wa (F true i) (p true i) e) := by have := HS.out.at' true i hi; rw [h1] at this; exact this
  have HR : Hid (RD wa (F false i) (p false i) e) := by have := HS.out.at' false i hi; rw [h2] at this; exact this
  have HE : Hid (d true i = e ∧ d false i = e) := ⟨h1, h2⟩
  obtain ⟨pp, hpp⟩ : ∃ pp, pp = p true i := ⟨_, rfl⟩
  obtain ⟨qq, hqq⟩ : ∃ qq, qq = p false i := ⟨_, rfl⟩
  rw [← hpp] at HP ⊢
  rw [← hqq] at HR ⊢
  have HPP := hid hpp
  have HQQ := hid hqq
  clear h h1 h2 hx hba hwa hbx I hpp hqq
  have q2 : (x.k == 2) = false := by rw [hk]; rfl
  have q3 : (x.k == 3) = false := by rw [hk]; rfl
  have q4 : (x.k == 4) = false := by rw [hk]; rfl
  have q5 : (x.k == 5) = false := by rw [hk]; rfl
  have q6 : (x.k == 6) = false := by rw [hk]; rfl
  have q7 : (x.k == 7) = false := by rw [hk]; rfl
  have q8 : (x.k == 8) = true := by rw [hk]; rfl
  have HA : Hid (e.act x = e) := by show _ = _; unfold Dk.act; rw [if_neg (by rw [hk]; decide), if_neg (by rw [hk]; decide), if_neg (by rw [hk]; decide), if_neg (by rw [hk]; decide), if_neg (by rw [hk]; decide)]
  clear hk
  rw [HA.out]
  go_enter Try.func23, Try.ntmps23
  go_wp2_with fail
  rw [← HW.out]
  refine (HI.out.used HP.out).mono ?_
  rintro e' w1 ⟨rfl, hb1⟩
  have HB1 := hid hb1
  clear hb1
  go_wp2_with fail
  refine (rd_used (RD.later HR.out HB1.out)).mono ?_
  rintro e' w2 ⟨rfl, hb2⟩
  have HD : Hid (Done R wb A F p d i e w w2) := done_still HI.out HSW.out hi HE.out.1 HE.out.2 (Below.on HBA.out (Below.on HB1.out hb2))
  clear hb2
  go_wp2_with fail
  go_ret
  exact ⟨by first | rfl | simp, HD.out⟩

set_option maxHeartbeats 4000000 in
theorem does_free (I : Face R) {w : World} {i : Nat} {e : Dk} {x : Stp} (h : St R n3 wb w A F p d) (hi : i < 3) (h1 : d true i = e) (h2 : d false i = e) (hx : x.ok) (hk : x.k = 9) :
    Calls Try.prog 23 #[ptr (p true i), ptr (p false i), x.val] w fun e' w' => e' = .returned (.bool true) ∧ Done R wb A F p d i (e.act x) w w' := by
  obtain ⟨wa, hwa⟩ : ∃ wa, wa = w.alloc (.cells x.cells 29) := ⟨_, rfl⟩
  have hba : Below w.heap.size w wa := by rw [hwa]; exact Below.al (Below.refl _ _) _
  have hbx : BoxX wa w.heap.size x := by rw [hwa]; exact boxX w x _
  have HNQ : Hid (∀ b j, j < 3 → ¬ F b j w.heap.size) := fun b j hj hk => by have := (h.at' b j hj).lt I w.heap.size hk; omega
  have HBX := hid hbx
  have HBA := hid hba
  have HSW := hid h
  have HS := hid (h.later I hba)
  have HW := hid hwa
  have HX := hid hx
  have HI := hid I
  have HP : Hid (R wa (F true i) (p true i) e) := by have := HS.out.at' true i hi; rw [h1] at this; exact this
  have HR : Hid (RD wa (F false i) (p false i) e) := by have := HS.out.at' false i hi; rw [h2] at this; exact this
  have HE : Hid (d true i = e ∧ d false i = e) := ⟨h1, h2⟩
  obtain ⟨pp, hpp⟩ : ∃ pp, pp = p true i := ⟨_, rfl⟩
  obtain ⟨qq, hqq⟩ : ∃ qq, qq = p false i := ⟨_, rfl⟩
  rw [← hpp] at HP ⊢
  rw [← hqq] at HR ⊢
  have HPP := hid hpp
  have HQQ := hid hqq
  clear h h1 h2 hx hba hwa hbx I hpp hqq
  have q2 : (x.k == 2) = false := by rw [hk]; rfl
  have q3 : (x.k == 3) = false := by rw [hk]; rfl
  have q4 : (x.k == 4) = false := by rw [hk]; rfl
  have q5 : (x.k == 5) = false := by rw [hk]; rfl
  have q6 : (x.k == 6) = false := by rw [hk]; rfl
  have q7 : (x.k == 7) = false := by rw [hk]; rfl
  have q8 : (x.k == 8) = false := by rw [hk]; rfl
  have q9 : (x.k == 9) = true := by rw [hk]; rfl
  have HA : Hid (e.act x = e) := by show _ = _; unfold Dk.act; rw [if_neg (by rw [hk]; decide), if_neg (by rw [hk]; decide), if_neg (by rw [hk]; decide), if_neg (by rw [hk]; decide), if_neg (by rw [hk]; decide)]
  clear hk
  rw [HA.out]
  go_enter Try.func23, Try.ntmps23
  go_wp2_with fail
  rw [← HW.out]
  refine (HI.out.free HP.out).mono ?_
  rintro e' w1 ⟨rfl, hb1⟩
  have HB1 := hid hb1
  clear hb1
  go_wp2_with fail
  refine (rd_free (RD.later HR.out HB1.out)).mono ?_
  rintro e' w2 ⟨rfl, hb2⟩
  have HD : Hid (Done R wb A F p d i e w w2) := done_still HI.out HSW.out hi HE.out.1 HE.out.2 (Below.on HBA.out (Below.on HB1.out hb2))
  clear hb2
  go_wp2_with fail
  go_ret
  exact ⟨by first | rfl | simp, HD.out⟩

set_option maxHeartbeats 4000000 in
theorem does_crash (I : Face R) {w : World} {i : Nat} {e : Dk} {x : Stp} (h : St R n3 wb w A F p d) (hi : i < 3) (h1 : d true i = e) (h2 : d false i = e) (hx : x.ok) (hk : x.k = 10) :
    Calls Try.prog 23 #[ptr (p true i), ptr (p false i), x.val] w fun e' w' => e' = .returned (.bool true) ∧ Done R wb A F p d i (e.act x) w w' := by
  obtain ⟨wa, hwa⟩ : ∃ wa, wa = w.alloc (.cells x.cells 29) := ⟨_, rfl⟩
  have hba : Below w.heap.size w wa := by rw [hwa]; exact Below.al (Below.refl _ _) _
  have hbx : BoxX wa w.heap.size x := by rw [hwa]; exact boxX w x _
  have HNQ : Hid (∀ b j, j < 3 → ¬ F b j w.heap.size) := fun b j hj hk => by have := (h.at' b j hj).lt I w.heap.size hk; omega
  have HBX := hid hbx
  have HBA := hid hba
  have HSW := hid h
  have HS := hid (h.later I hba)
  have HW := hid hwa
  have HX := hid hx
  have HI := hid I
  have HP : Hid (R wa (F true i) (p true i) e) := by have := HS.out.at' true i hi; rw [h1] at this; exact this
  have HR : Hid (RD wa (F false i) (p false i) e) := by have := HS.out.at' false i hi; rw [h2] at this; exact this
  have HE : Hid (d true i = e ∧ d false i = e) := ⟨h1, h2⟩
  obtain ⟨pp, hpp⟩ : ∃ pp, pp = p true i := ⟨_, rfl⟩
  obtain ⟨qq, hqq⟩ : ∃ qq, qq = p false i := ⟨_, rfl⟩
  rw [← hpp] at HP ⊢
  rw [← hqq] at HR ⊢
  have HPP := hid hpp
  have HQQ := hid hqq
  clear h h1 h2 hx hba hwa hbx I hpp hqq
  have q2 : (x.k == 2) = false := by rw [hk]; rfl
  have q3 : (x.k == 3) = false := by rw [hk]; rfl
  have q4 : (x.k == 4) = false := by rw [hk]; rfl
  have q5 : (x.k == 5) = false := by rw [hk]; rfl
  have q6 : (x.k == 6) = false := by rw [hk]; rfl
  have q7 : (x.k == 7) = false := by rw [hk]; rfl
  have q8 : (x.k == 8) = false := by rw [hk]; rfl
  have q9 : (x.k == 9) = false := by rw [hk]; rfl
  have q10 : (x.k == 10) = true := by rw [hk]; rfl
  have HA : Hid (e.act x = e.crash x.n x.m) := by show _ = _; unfold Dk.act; rw [if_neg (by rw [hk]; decide), if_neg (by rw [hk]; decide), if_neg (by rw [hk]; decide), if_neg (by rw [hk]; decide), if_pos hk]
  clear hk
  rw [HA.out]
  go_enter Try.func23, Try.ntmps23
  go_wp2_with fail
  rw [← HW.out]
  refine (HI.out.crash HP.out HX.out.n HX.out.m).mono ?_
  rintro e' w1 ⟨rfl, hm⟩
  obtain ⟨⟨F1, hS1, hR1⟩, hX1⟩ := St.first HI.out HS.out hi HE.out.2 (by rw [← HPP.out]; exact hm) HBX.out (HNQ.out true i hi)
  have HS1 := hid hS1
  have HO1 : Hid (Onl (fun k => F true i k ∨ F false i k) w w1) := (Onl.of_below HBA.out).trans ((Moved.onl hm).mono (fun k => .inl))
  have HR1 : Hid (RD w1 ((up2 F true i F1) false i) qq e) := by show RD _ _ qq e; rw [HQQ.out]; exact hR1
  have c0 := hX1.c0; have c1 := hX1.c1; have c2 := hX1.c2; have c3 := hX1.c3; have c4 := hX1.c4; have c5 := hX1.c5
  clear hm hS1 hR1 hX1
  go_wp2_with fail
  refine (rd_crash HR1.out HX.out.n HX.out.m).mono ?_
  rintro e' w2 ⟨rfl, hm⟩
  have HD : Hid (Done R wb A F p d i (e.crash x.n x.m) w w2) := done_both HI.out HS1.out hi HO1.out (by rw [← HQQ.out]; exact hm)
  clear hm
  go_wp2_with fail
  go_ret
  exact ⟨by first | rfl | simp, HD.out⟩

set_option maxHeartbeats 4000000 in
theorem does_else (I : Face R) {w : World} {i : Nat} {e : Dk} {x : Stp} (h : St R n3 wb w A F p d) (hi : i < 3) (h1 : d true i = e) (h2 : d false i = e) (hx : x.ok) (g2 : x.k ≠ 2) (g3 : x.k ≠ 3) (g4 : x.k ≠ 4) (g5 : x.k ≠ 5) (g6 : x.k ≠ 6) (g7 : x.k ≠ 7) (g8 : x.k ≠ 8) (g9 : x.k ≠ 9) (g10 : x.k ≠ 10) :
    Calls Try.prog 23 #[ptr (p true i), ptr (p false i), x.val] w fun e' w' => e' = .returned (.bool true) ∧ Done R wb A F p d i (e.act x) w w' := by
  obtain ⟨wa, hwa⟩ : ∃ wa, wa = w.alloc (.cells x.cells 29) := ⟨_, rfl⟩
  have hba : Below w.heap.size w wa := by rw [hwa]; exact Below.al (Below.refl _ _) _
  have hbx : BoxX wa w.heap.size x := by rw [hwa]; exact boxX w x _
  have HNQ : Hid (∀ b j, j < 3 → ¬ F b j w.heap.size) := fun b j hj hk => by have := (h.at' b j hj).lt I w.heap.size hk; omega
  have HBX := hid hbx
  have HBA := hid hba
  have HSW := hid h
  have HS := hid (h.later I hba)
  have HW := hid hwa
  have HX := hid hx
  have HI := hid I
  have HP : Hid (R wa (F true i) (p true i) e) := by have := HS.out.at' true i hi; rw [h1] at this; exact this
  have HR : Hid (RD wa (F false i) (p false i) e) := by have := HS.out.at' false i hi; rw [h2] at this; exact this
  have HE : Hid (d true i = e ∧ d false i = e) := ⟨h1, h2⟩
  obtain ⟨pp, hpp⟩ : ∃ pp, pp = p true i := ⟨_, rfl⟩
  obtain ⟨qq, hqq⟩ : ∃ qq, qq = p false i := ⟨_, rfl⟩
  rw [← hpp] at HP ⊢
  rw [← hqq] at HR ⊢
  have HPP := hid hpp
  have HQQ := hid hqq
  clear h h1 h2 hx hba hwa hbx I hpp hqq
  have q2 : (x.k == 2) = false := beq_eq_false_iff_ne.2 g2
  have q3 : (x.k == 3) = false := beq_eq_false_iff_ne.2 g3
  have q4 : (x.k == 4) = false := beq_eq_false_iff_ne.2 g4
  have q5 : (x.k == 5) = false := beq_eq_false_iff_ne.2 g5
  have q6 : (x.k == 6) = false := beq_eq_false_iff_ne.2 g6
  have q7 : (x.k == 7) = false := beq_eq_false_iff_ne.2 g7
  have q8 : (x.k == 8) = false := beq_eq_false_iff_ne.2 g8
  have q9 : (x.k == 9) = false := beq_eq_false_iff_ne.2 g9
  have q10 : (x.k == 10) = false := beq_eq_false_iff_ne.2 g10
  have HA : Hid (e.act x = e) := by show _ = _; unfold Dk.act; rw [if_neg g2, if_neg g3, if_neg g6, if_neg g7, if_neg g10]
  rw [HA.out]
  clear g2 g3 g4 g5 g6 g7 g8 g9 g10
  go_enter Try.func23, Try.ntmps23
  go_wp2_with fail
  rw [← HW.out]
  go_ret
  exact ⟨rfl, done_still HI.out HSW.out hi HE.out.1 HE.out.2 HBA.out⟩

theorem does_any (I : Face R) {w : World} {i : Nat} {e : Dk} {x : Stp} (h : St R n3 wb w A F p d) (hi : i < 3) (h1 : d true i = e) (h2 : d false i = e) (hx : x.ok) :
    Calls Try.prog 23 #[ptr (p true i), ptr (p false i), x.val] w fun e' w' => e' = .returned (.bool true) ∧ Done R wb A F p d i (e.act x) w w' := by
  by_cases g2 : x.k = 2
  · exact does_append I h hi h1 h2 hx g2
  by_cases g3 : x.k = 3
  · exact does_sync I h hi h1 h2 hx g3
  by_cases g4 : x.k = 4
  · exact does_bytes I h hi h1 h2 hx g4
  by_cases g5 : x.k = 5
  · exact does_synced I h hi h1 h2 hx g5
  by_cases g6 : x.k = 6
  · exact does_cut I h hi h1 h2 hx g6
  by_cases g7 : x.k = 7
  · exact does_remove I h hi h1 h2 hx g7
  by_cases g8 : x.k = 8
  · exact does_used I h hi h1 h2 hx g8
  by_cases g9 : x.k = 9
  · exact does_free I h hi h1 h2 hx g9
  by_cases g10 : x.k = 10
  · exact does_crash I h hi h1 h2 hx g10
  exact does_else I h hi h1 h2 hx g2 g3 g4 g5 g6 g7 g8 g9 g10

end Go.Proofs.Ytmbmagfdeadibaa
