import Derived.Test.YtmhpakbkmddfeaaJKeys
import Derived.Test.YtmhpakbkmddfeaaIAsk
import Derived.Test.YtmhpakbkmddfeaaITwo
namespace Go.Proofs.Ytmhpakbkmddfeaa.St
open Go.RowKit Go.Sort
set_option linter.unusedVariables false

theorem stamped_tt (v : Int) (w : World) : Calls Try.prog 46 #[.int .i64 v, .bool true] w fun e w' => e = .returned (sg v) ∧ Below w.heap.size w w' := by
  go_enter Try.func46, Try.ntmps46
  go_wp2_with fail
  refine bodyPost_ret (v := sg v) (by simp [results, Try.results46, go_sem, sv]) rfl ⟨rfl, by (repeat (first | exact Below.refl _ _ | assumption | refine Below.drew ?_ | refine Below.al ?_ _ | refine Below.setCell ?_ (by first | exact Nat.le_refl _ | (simp; omega) | (simp; done)) _ | refine Below.on ?_ (by assumption)))⟩
theorem stamped_ff (v : Int) (w : World) : Calls Try.prog 46 #[.int .i64 v, .bool false] w fun e w' => e = .returned s0 ∧ Below w.heap.size w w' := by
  go_enter Try.func46, Try.ntmps46
  go_wp2_with fail
  refine bodyPost_ret (v := s0) (by simp [results, Try.results46, go_sem]) rfl ⟨rfl, by (repeat (first | exact Below.refl _ _ | assumption | refine Below.drew ?_ | refine Below.al ?_ _ | refine Below.setCell ?_ (by first | exact Nat.le_refl _ | (simp; omega) | (simp; done)) _ | refine Below.on ?_ (by assumption)))⟩

theorem ri_kp {w w' : World} {d : Nat} {v : Value} {log : List Ch} (h : Ri w d v log) (ho : Onl (Ri.has d v) w w') : Kp w w' :=
  Kp.of_onl ho fun b cs t z hf hb ht => by
    rcases hf with rfl | hf
    · rw [show w.heap[b]? = _ from h.box] at hb
      cases hb
      exact not_ixt (by rfl) ht
    · exact row_not h.own (not_ixt (by rfl)) ht hb hf.symm
theorem xi_ne_ri {w : World} {x d : Nat} {l : List En} {v : Value} {log : List Ch} (h : Xi w x l) (k : Ri w d v log) : ¬ Ri.has d v x := by
  obtain ⟨u, hb⟩ := h.box
  rintro (e | e)
  · subst e
    have h1 := hb.symm.trans k.box
    simp at h1
  · have := hb.not_row (by decide) k.own
    exact this e.symm
/-- both indexes hold what the log says; nothing older was changed -/
structure Qs (W w : World) (x d : Nat) (v : Value) (log : List Ch) : Prop where
  xi : Xi w x (ixL log)
  ri : Ri w d v log
  bx : ∀ k, Foot x d v k → W.heap.size ≤ k
  bel : Below W.heap.size W w
theorem Qs.later {W w w' : World} {x d : Nat} {v : Value} {log : List Ch} (h : Qs W w x d v log) (hb : Below w.heap.size w w') : Qs W w' x d v log := ⟨h.xi.later hb, h.ri.later hb, h.bx, Below.on h.bel hb⟩
theorem Qs.foot_lt {W w : World} {x d : Nat} {v : Value} {log : List Ch} (h : Qs W w x d v log) {k : Nat} (hk : Foot x d v k) : k < w.heap.size := by
  rcases hk with rfl | rfl | hk
  · exact h.xi.lt
  · exact h.ri.lt
  · exact (h.ri.own.lt k hk).2
theorem Qs.both {W w0 w1 w2 : World} {x d : Nat} {v v' : Value} {log log' : List Ch} (hq : Qs W w0 x d v log) (hx1 : Xi w1 x (ixL log')) (ho1 : Onl (fun b => b = x) w0 w1) (hr2 : Ri w2 d v' log') (ho2 : Onl (Ri.has d v) w1 w2) (hv : ∀ g, v'.ownBlock = some g → v.ownBlock = some g ∨ w1.heap.size ≤ g) : Qs W w2 x d v' log' := by
  have hxd : ¬ Ri.has d v x := xi_ne_ri hq.xi hq.ri
  have hri1 : Ri w1 d v log := hq.ri.keep ho1 (fun k hk e => hxd (e ▸ hk))
  have oF : Onl (Foot x d v) w0 w2 := (ho1.mono (fun k e => .inl e)).trans (ho2.mono (fun k e => .inr e))
  have hs := Nat.le_trans hq.bel.size ho1.size
  refine ⟨hx1.keep (ri_kp hri1 ho2) (ho2.block x hx1.lt hxd), hr2, fun k hk => ?_, hq.bel.trans (oF.below hq.bx hq.bel.size)⟩
  rcases hk with rfl | rfl | hk
  · exact hq.bx _ (.inl rfl)
  · exact hq.bx _ (.inr (.inl rfl))
  · rcases hv k hk with e | e
    · exact hq.bx _ (.inr (.inr e))
    · omega

abbrev stA (x d : Nat) (op : Ao) : Array Value := #[.pointer (some ⟨x, 0, none⟩), .pointer (some ⟨d, 0, none⟩), opV op]

set_option maxRecDepth 100000 in
set_option maxHeartbeats 1000000 in
theorem asked_set {W w : World} {x d : Nat} {v : Value} {log : List Ch} {op : Ao} (hk : op.k = 2) (hq : Qs W w x d v log) (hl : (log.length + 2) * 64 ≤ 140737488355328) :
    Calls Try.prog 30 (stA x d op) w fun e w' => e = .returned (.bool true) ∧ ∃ v' log', log'.length ≤ log.length + 1 ∧ Qs W w' x d v' log' := by
  obtain ⟨w0, hw0⟩ : ∃ w0, w0 = w.alloc (.cells (opC op) 26) := ⟨_, rfl⟩
  have hb0 : Below w.heap.size w w0 := by rw [hw0]; exact Below.al (Below.refl _ _) _
  have hop : OpAt w0 w.heap.size op := by rw [hw0]; exact op_new w op
  have hq0 := hq.later hb0
  obtain ⟨b0, hb0e⟩ : ∃ b0, b0 = w.heap.size := ⟨_, rfl⟩
  rw [← hb0e] at hop
  have q0 := hop.c0; have q2 := hop.c2; have q4 := hop.c4
  have HNB : Hid (¬ Foot x d v b0) := by show ¬ _; rw [hb0e]; exact fun e => by have := hq.foot_lt e; omega
  obtain ⟨u, hu⟩ : ∃ u, (getL log op.key).isNone = u := ⟨_, rfl⟩
  have hlx : (ixL log).length + 1 ≤ 1152921504606846976 := by have := ixL_len log; omega
  have ST : Hid (∀ W', Calls Try.prog 46 #[.int .i64 op.v, .bool true] W' fun e w' => e = .returned (sg op.v) ∧ Below W'.heap.size W' w') := fun W' => stamped_tt op.v W'
  have SE : Hid (∀ W', Below w0.heap.size w0 W' → Calls Try.prog 45 #[.pointer (some ⟨x, 0, none⟩), .string op.key, sg op.v] W' fun e w' => e = .returned (.bool u) ∧ Hid (Xi w' x (ixL (log ++ [⟨op.key, op.v, false⟩]))) ∧ Hid (Onl (fun b => b = x) w0 w') ∧ Onl (Foot x d v) w0 w') := fun W' hb =>
    (set_is (hq0.xi.later hb) op.key op.v hlx).mono fun e w' ⟨he, hx, ho⟩ => ⟨by rw [he, ixL_get, hu], by show Xi _ _ _; rw [ixL_one]; exact hx, (Onl.of_below hb).trans ho, (Onl.of_below hb).trans (ho.mono fun k e => .inl e)⟩
  have RE : Hid (∀ w1, Onl (fun b => b = x) w0 w1 → Calls Try.prog 41 #[.pointer (some ⟨d, 0, none⟩), .string op.key, .int .i64 op.v] w1 fun e w' => ∃ v', e = .returned (.bool u) ∧ Hid (Ri w' d v' (log ++ [⟨op.key, op.v, false⟩])) ∧ Hid (Onl (Ri.has d v) w1 w') ∧ Hid (∀ g, v'.ownBlock = some g → v.ownBlock = some g ∨ w1.heap.size ≤ g)) := fun w1 ho1 =>
    (refset_is (hq0.ri.keep ho1 (fun k hk e => xi_ne_ri hq0.xi hq0.ri (e ▸ hk))) op.key op.v hl).mono fun e w' ⟨v', he, hr, ho, hv⟩ => ⟨v', by rw [he, hu], hr, ho, hv⟩
  have HQ := hid hq0
  have p2 : (op.k == 2) = true := by rw [hk]; rfl
  clear hq hl hop hb0 hlx hu hk hq0
  go_enter Try.func30, Try.ntmps30
  go_wp2_with fail
  rw [← hw0, ← hb0e]
  clear hw0 hb0e
  go_region_held3 (fun w' => w'.cell? ⟨b0, 2, none⟩ = some (.string op.key) ∧ w'.cell? ⟨b0, 4, none⟩ = some (.int .i64 op.v) ∧ Onl (Foot x d v) w0 w')
    ((refine (fun (hO : Onl (Foot x d v) w0 _) => ⟨hO.cell HNB.out q2, hO.cell HNB.out q4, hO⟩) ?_; (repeat (first | assumption | exact Onl.refl _ _ | refine Onl.drew ?_ | refine Onl.on ?_ (by assumption)))))
    (first
      | (go_at_call 46; refine (ST.out _).mono ?_; rintro e w1 ⟨rfl, hb1⟩)
      | (go_at_call 45; refine (SE.out _ ?_).mono ?_; ((repeat (first | exact Below.refl _ _ | assumption | refine Below.drew ?_ | refine Below.al ?_ _ | refine Below.setCell ?_ (by first | exact Nat.le_refl _ | (simp; omega) | (simp; done)) _ | refine Below.on ?_ (by assumption)))); rintro e w2 ⟨rfl, hx2, ho2, hf2⟩))
  have r2 := hf2.cell HNB.out q2
  have r4 := hf2.cell HNB.out q4
  go_wp2_with (go_at_call 41; refine (RE.out _ ho2.out).mono ?_; rintro e w3 ⟨v', rfl, hr3, ho3, hv3⟩)
  go_ret
  exact ⟨retB' (by simp), v', _, by simp, HQ.out.both hx2.out ho2.out hr3.out ho3.out hv3.out⟩

set_option maxRecDepth 100000 in
set_option maxHeartbeats 1000000 in
theorem asked_del {W w : World} {x d : Nat} {v : Value} {log : List Ch} {op : Ao} (hk : op.k = 4) (hq : Qs W w x d v log) (hl : (log.length + 2) * 64 ≤ 140737488355328) :
    Calls Try.prog 30 (stA x d op) w fun e w' => e = .returned (.bool true) ∧ ∃ v' log', log'.length ≤ log.length + 1 ∧ Qs W w' x d v' log' := by
  obtain ⟨w0, hw0⟩ : ∃ w0, w0 = w.alloc (.cells (opC op) 26) := ⟨_, rfl⟩
  have hb0 : Below w.heap.size w w0 := by rw [hw0]; exact Below.al (Below.refl _ _) _
  have hop : OpAt w0 w.heap.size op := by rw [hw0]; exact op_new w op
  have hq0 := hq.later hb0
  have q0 := hop.c0; have q2 := hop.c2
  have HNB : Hid (¬ Foot x d v w.heap.size) := fun e => by have := hq.foot_lt e; omega
  obtain ⟨u, hu⟩ : ∃ u, (getL log op.key).isSome = u := ⟨_, rfl⟩
  have hlx : (ixL log).length + 1 ≤ 1152921504606846976 := by have := ixL_len log; omega
  have SE : Hid (Calls Try.prog 47 #[.pointer (some ⟨x, 0, none⟩), .string op.key] w0 fun e w' => e = .returned (.bool u) ∧ Hid (Xi w' x (ixL (log ++ [⟨op.key, 0, true⟩]))) ∧ Hid (Onl (fun b => b = x) w0 w') ∧ w'.cell? ⟨w.heap.size, 2, none⟩ = some (.string op.key)) :=
    (del_is hq0.xi op.key hlx).mono fun e w' ⟨he, hx, ho⟩ => ⟨by rw [he, ixL_get, hu], by show Xi _ _ _; rw [ixL_gone]; exact hx, ho, ho.cell (fun e => HNB.out (.inl e)) q2⟩
  have RE : Hid (∀ w1, Onl (fun b => b = x) w0 w1 → Calls Try.prog 42 #[.pointer (some ⟨d, 0, none⟩), .string op.key] w1 fun e w' => ∃ v', e = .returned (.bool u) ∧ Hid (Ri w' d v' (log ++ [⟨op.key, 0, true⟩])) ∧ Hid (Onl (Ri.has d v) w1 w') ∧ Hid (∀ g, v'.ownBlock = some g → v.ownBlock = some g ∨ w1.heap.size ≤ g)) := fun w1 ho1 =>
    (refdel_is (hq0.ri.keep ho1 (fun k hk e => xi_ne_ri hq0.xi hq0.ri (e ▸ hk))) op.key hl).mono fun e w' ⟨v', he, hr, ho, hv⟩ => ⟨v', by rw [he, hu], hr, ho, hv⟩
  have HQ := hid hq0
  have p2 : (op.k == 2) = false := by rw [hk]; rfl
  have p4 : (op.k == 4) = true := by rw [hk]; rfl
  clear hq hl hop hb0 hlx hu hk hq0
  subst hw0
  go_enter Try.func30, Try.ntmps30
  go_wp2_with (first
    | (go_at_call 47; refine SE.out.mono ?_; rintro e w2 ⟨rfl, hx2, ho2, r2⟩)
    | (go_at_call 42; refine (RE.out _ ho2.out).mono ?_; rintro e w3 ⟨v', rfl, hr3, ho3, hv3⟩))
  go_ret
  exact ⟨retB' (by simp), v', _, by simp, HQ.out.both hx2.out ho2.out hr3.out ho3.out hv3.out⟩

end Go.Proofs.Ytmhpakbkmddfeaa.St
