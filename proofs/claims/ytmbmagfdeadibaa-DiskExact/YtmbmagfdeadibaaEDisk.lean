import Derived.Test.YtmbmagfdeadibaaESlot
/- The program's disk: what it holds; its calls that read. -/
namespace Go.Proofs.Ytmbmagfdeadibaa
open Go.RowKit Go.Sort Go.Lib
set_option linter.unusedVariables false

structure PD (w : World) (p : Nat) (v0 v1 : Value) (d : Dk) : Prop where
  c0 : w.cell? ⟨p, 0, none⟩ = some (.int .i64 (d.cap : Int))
  s0 : SlAt w p 1 v0 d.x
  s1 : SlAt w p 3 v1 d.y
  n2 : ∀ g, v0.ownBlock = some g → v1.ownBlock ≠ some g
  ok : d.ok
def hasP (p : Nat) (v0 v1 : Value) (k : Nat) : Prop := k = p ∨ v0.ownBlock = some k ∨ v1.ownBlock = some k
/-- the program's disk d at p, of the blocks F -/
def RP (w : World) (F : Nat → Prop) (p : Nat) (d : Dk) : Prop := ∃ v0 v1, F = hasP p v0 v1 ∧ PD w p v0 v1 d
theorem SlAt.keep {w w' : World} {F : Nat → Prop} {p o : Nat} {v : Value} {s : Sl} (h : SlAt w p o v s) (ho : Onl F w w') (hp : ¬ F p) (hv : ∀ g, v.ownBlock = some g → ¬ F g) : SlAt w' p o v s :=
  ⟨ho.cell hp h.c0, ho.cell hp h.c1, h.row.onl ho hv, ho.loose hp h.lt h.loose, h.np, h.len⟩
theorem PD.lt {w : World} {p : Nat} {v0 v1 : Value} {d : Dk} (h : PD w p v0 v1 d) : p < w.heap.size := h.s0.lt
theorem PD.has_lt {w : World} {p : Nat} {v0 v1 : Value} {d : Dk} (h : PD w p v0 v1 d) : ∀ k, hasP p v0 v1 k → k < w.heap.size := by
  rintro k (rfl | hk | hk)
  · exact h.lt
  · exact h.s0.row.lt k hk
  · exact h.s1.row.lt k hk
theorem PD.keep {w w' : World} {p : Nat} {v0 v1 : Value} {d : Dk} {G : Nat → Prop} (h : PD w p v0 v1 d) (ho : Onl G w w') (hF : ∀ k, hasP p v0 v1 k → ¬ G k) : PD w' p v0 v1 d := by
  have fp := hF p (.inl rfl)
  exact ⟨ho.cell fp h.c0, h.s0.keep ho fp (fun g hg => hF g (.inr (.inl hg))), h.s1.keep ho fp (fun g hg => hF g (.inr (.inr hg))), h.n2, h.ok⟩
theorem PD.later {w w' : World} {p : Nat} {v0 v1 : Value} {d : Dk} (h : PD w p v0 v1 d) (hb : Below w.heap.size w w') : PD w' p v0 v1 d := h.keep (G := fun _ => False) (Onl.of_below hb) (fun _ _ => id)
/-- slot 0 was changed -/
theorem PD.put0 {w w' : World} {p : Nat} {v0 v1 v' : Value} {d : Dk} {s' : Sl} (h : PD w p v0 v1 d) (t : SlTo w w' p 1 v0 v' s') (hok : ({ d with x := s' } : Dk).ok) :
    PD w' p v' v1 { d with x := s' } ∧ Onl (hasP p v0 v1) w w' ∧ ∀ k, hasP p v' v1 k → hasP p v0 v1 k ∨ w.heap.size ≤ k := by
  have lp := h.lt
  have hv : ∀ g, v1.ownBlock = some g → ¬ (g = p ∨ v0.ownBlock = some g) := by
    rintro g hg (e | e)
    · exact h.s1.np (e ▸ hg)
    · exact h.n2 g e hg
  refine ⟨⟨?_, t.at', ⟨?_, ?_, h.s1.row.onl t.onl hv, t.at'.loose, h.s1.np, h.s1.len⟩, ?_, hok⟩, t.onl.mono (fun k e => e.imp id .inl), ?_⟩
  · rw [t.rest 0 (by omega) (by omega)]; exact h.c0
  · rw [t.rest 3 (by omega) (by omega)]; exact h.s1.c0
  · rw [t.rest 4 (by omega) (by omega)]; exact h.s1.c1
  · intro g hg e
    rcases t.new g hg with h1 | h1
    · exact h.n2 g h1 e
    · have := h.s1.row.lt g e; omega
  · rintro k (e | e | e)
    · exact .inl (.inl e)
    · exact (t.new k e).imp (fun h => .inr (.inl h)) id
    · exact .inl (.inr (.inr e))
theorem PD.put1 {w w' : World} {p : Nat} {v0 v1 v' : Value} {d : Dk} {s' : Sl} (h : PD w p v0 v1 d) (t : SlTo w w' p 3 v1 v' s') (hok : ({ d with y := s' } : Dk).ok) :
    PD w' p v0 v' { d with y := s' } ∧ Onl (hasP p v0 v1) w w' ∧ ∀ k, hasP p v0 v' k → hasP p v0 v1 k ∨ w.heap.size ≤ k := by
  have lp := h.lt
  have hv : ∀ g, v0.ownBlock = some g → ¬ (g = p ∨ v1.ownBlock = some g) := by
    rintro g hg (e | e)
    · exact h.s0.np (e ▸ hg)
    · exact h.n2 g hg e
  refine ⟨⟨?_, ⟨?_, ?_, h.s0.row.onl t.onl hv, t.at'.loose, h.s0.np, h.s0.len⟩, t.at', ?_, hok⟩, t.onl.mono (fun k e => e.imp id .inr), ?_⟩
  · rw [t.rest 0 (by omega) (by omega)]; exact h.c0
  · rw [t.rest 1 (by omega) (by omega)]; exact h.s0.c0
  · rw [t.rest 2 (by omega) (by omega)]; exact h.s0.c1
  · intro g hg e
    rcases t.new g e with h1 | h1
    · exact h.n2 g hg h1
    · have := h.s0.row.lt g hg; omega
  · rintro k (e | e | e)
    · exact .inl (.inl e)
    · exact .inl (.inr (.inl e))
    · exact (t.new k e).imp (fun h => .inr (.inr h)) id
theorem RP.lt {w : World} {F : Nat → Prop} {p : Nat} {d : Dk} (h : RP w F p d) : ∀ k, F k → k < w.heap.size := by
  obtain ⟨v0, v1, rfl, h⟩ := h; exact h.has_lt
theorem RP.keep {w w' : World} {F G : Nat → Prop} {p : Nat} {d : Dk} (h : RP w F p d) (ho : Onl G w w') (hF : ∀ k, F k → ¬ G k) : RP w' F p d := by
  obtain ⟨v0, v1, rfl, h⟩ := h; exact ⟨v0, v1, rfl, h.keep ho hF⟩
theorem RP.ok {w : World} {F : Nat → Prop} {p : Nat} {d : Dk} (h : RP w F p d) : d.ok := by
  obtain ⟨v0, v1, rfl, h⟩ := h; exact h.ok
theorem RP.later {w w' : World} {F : Nat → Prop} {p : Nat} {d : Dk} (h : RP w F p d) (hb : Below w.heap.size w w') : RP w' F p d := h.keep (G := fun _ => False) (Onl.of_below hb) (fun _ _ => id)
theorem RP.still {w w' : World} {F : Nat → Prop} {p : Nat} {d : Dk} (h : RP w F p d) (hb : Below w.heap.size w w') : Moved RP w w' F p d := ⟨F, h.later hb, Onl.of_below hb, fun k hk => .inl hk⟩
theorem PD.moved0 {w w' : World} {p : Nat} {v0 v1 v' : Value} {d : Dk} {s' : Sl} (h : PD w p v0 v1 d) (t : SlTo w w' p 1 v0 v' s') (hok : ({ d with x := s' } : Dk).ok) : Moved RP w w' (hasP p v0 v1) p { d with x := s' } := by
  obtain ⟨h1, h2, h3⟩ := h.put0 t hok; exact ⟨_, ⟨_, _, rfl, h1⟩, h2, h3⟩
theorem PD.moved1 {w w' : World} {p : Nat} {v0 v1 v' : Value} {d : Dk} {s' : Sl} (h : PD w p v0 v1 d) (t : SlTo w w' p 3 v1 v' s') (hok : ({ d with y := s' } : Dk).ok) : Moved RP w w' (hasP p v0 v1) p { d with y := s' } := by
  obtain ⟨h1, h2, h3⟩ := h.put1 t hok; exact ⟨_, ⟨_, _, rfl, h1⟩, h2, h3⟩

set_option maxHeartbeats 1000000 in
theorem pright_is {s : Int} {u : Bool} (hu : decide (s = 0 ∨ s = 1) = u) (w : World) :
    Calls Try.prog 26 #[.int .i64 s] w fun e w' => e = .returned (.bool u) ∧ w' = w := by
  subst hu
  by_cases h0 : 0 ≤ s
  · by_cases h1 : s < 2
    · have e : decide (s = 0 ∨ s = 1) = true := decide_eq_true (by omega)
      rw [e]
      have d0 : decide (0 ≤ s) = true := decide_eq_true h0
      have d1 : decide (s < 2) = true := decide_eq_true h1
      clear e h0 h1
      go_enter Try.func26, Try.ntmps26
      go_wp2_with fail
      go_ret
      exact ⟨rfl, rfl⟩
    · have e : decide (s = 0 ∨ s = 1) = false := decide_eq_false (by omega)
      rw [e]
      have d0 : decide (0 ≤ s) = true := decide_eq_true h0
      have d1 : decide (s < 2) = false := decide_eq_false h1
      clear e h0 h1
      go_enter Try.func26, Try.ntmps26
      go_wp2_with fail
      go_ret
      exact ⟨rfl, rfl⟩
  · have e : decide (s = 0 ∨ s = 1) = false := decide_eq_false (by omega)
    rw [e]
    have d0 : decide (0 ≤ s) = false := decide_eq_false h0
    clear e h0
    go_enter Try.func26, Try.ntmps26
    go_wp2_with fail
    go_ret
    exact ⟨rfl, rfl⟩

theorem pd_new (w : World) (c m : Int) (hm : m = (fit c : Int)) (T : TypeId) :
    RP (w.alloc (.cells #[.int .i64 m, .slice none 0 0, .int .i64 0, .slice none 0 0, .int .i64 0] T)) (hasP w.heap.size (.slice none 0 0) (.slice none 0 0)) w.heap.size (Dk.new c) ∧ (∀ k, hasP w.heap.size (.slice none 0 0) (.slice none 0 0) k → w.heap.size ≤ k) ∧
      Below w.heap.size w (w.alloc (.cells #[.int .i64 m, .slice none 0 0, .int .i64 0, .slice none 0 0, .int .i64 0] T)) := by
  subst hm
  refine ⟨⟨_, _, rfl, ⟨by simp [go_sem]; rfl, ⟨by simp [go_sem], by simp [go_sem]; rfl, BRow.nil _, fun o => by simp [go_sem], by simp [Value.ownBlock], Nat.zero_le _⟩, ⟨by simp [go_sem], by simp [go_sem]; rfl, BRow.nil _, fun o => by simp [go_sem], by simp [Value.ownBlock], Nat.zero_le _⟩, fun g hg => by simp [Value.ownBlock] at hg, Dk.new_ok c⟩⟩, ?_, Below.al (Below.refl _ _) _⟩
  rintro k (e | e | e)
  · omega
  · simp [Value.ownBlock] at e
  · simp [Value.ownBlock] at e
set_option maxHeartbeats 1000000 in
theorem p_new (c : Int) (w : World) (hc : I64 c) :
    Calls Try.prog 8 #[.int .i64 c] w fun e w' => ∃ p F, e = .returned (ptr p) ∧ RP w' F p (Dk.new c) ∧ (∀ k, F k → w.heap.size ≤ k) ∧ Below w.heap.size w w' := by
  have h0 := hc.1
  have h1 := hc.2
  go_enter Try.func8, Try.ntmps8
  go_wp2_with fail
  all_goals
    go_ret
    exact ⟨_, rfl, _, pd_new w c _ (by unfold fit; omega) _⟩

set_option maxHeartbeats 2000000 in
theorem p_used {w : World} {F : Nat → Prop} {p : Nat} {d : Dk} (h : RP w F p d) : Calls Try.prog 13 #[ptr p] w fun e w' => e = .returned (.int .i64 (d.used : Int)) ∧ Below w.heap.size w w' := by
  obtain ⟨v0, v1, rfl, h⟩ := h
  obtain ⟨a0, k0, rfl, g0⟩ := h.s0.row.slice
  obtain ⟨a1, k1, rfl, g1⟩ := h.s1.row.slice
  have c1 := h.s0.c0
  have c3 := h.s1.c0
  have l0 := h.s0.len
  have l1 := h.s1.len
  have hu : (d.used : Int) = (d.x.b.length : Int) + (d.y.b.length : Int) := by unfold Dk.used; omega
  rw [hu]
  obtain ⟨m0, hm0⟩ : ∃ m0, m0 = d.x.b.length := ⟨_, rfl⟩
  obtain ⟨m1, hm1⟩ : ∃ m1, m1 = d.y.b.length := ⟨_, rfl⟩
  rw [← hm0] at c1 g0 l0 ⊢
  rw [← hm1] at c3 g1 l1 ⊢
  clear h hu hm0 hm1
  go_enter Try.func13, Try.ntmps13
  go_wp2_with fail
  go_loopg [3, 5] 2 (fun g s3 s5 wr => ∃ k : Nat, k ≤ 2 ∧ g = 2 - k ∧ s5 = .int .i64 k ∧ s3 = .int .i64 (if k = 0 then 0 else if k = 1 then (m0 : Int) else m0 + m1) ∧ wr = w)
  case atStart => exact ⟨0, by omega, rfl, rfl, rfl, rfl⟩
  case round =>
    obtain ⟨k, hk, rfl, rfl, rfl, rfl⟩ := hrel
    obtain rfl | rfl | rfl : k = 0 ∨ k = 1 ∨ k = 2 := by omega
    · go_wp2_with fail
      go_roundg 1
      case measure => omega
      case rel => exact ⟨1, by omega, rfl, rfl, by simp, rfl⟩
    · go_wp2_with fail
      go_roundg 0
      case measure => omega
      case rel => exact ⟨2, by omega, rfl, rfl, by simp <;> go_num, rfl⟩
    · go_wp2_with fail
      go_ret
      exact ⟨by simp, Below.refl _ _⟩

set_option maxHeartbeats 2000000 in
theorem p_free {w : World} {F : Nat → Prop} {p : Nat} {d : Dk} (h : RP w F p d) : Calls Try.prog 9 #[ptr p] w fun e w' => e = .returned (.int .i64 (d.free : Int)) ∧ Below w.heap.size w w' := by
  have H := hid h
  obtain ⟨v0, v1, rfl, h⟩ := h
  have c0 := h.c0
  have k0 := cell_regrown c0
  have h1 := h.ok.used
  have h2 := h.ok.cap
  have hf : (d.free : Int) = (d.cap : Int) - (d.used : Int) := by unfold Dk.free Dk.used; omega
  have hu : d.used ≤ d.cap := h1
  rw [hf]
  clear h hf h1
  go_enter Try.func9, Try.ntmps9
  go_wp2_with fail
  refine wp_region_quiet_below (by kernel_rfl) (by kernel_rfl) ?_
  repeat (go_big_quiet_step ((go_at_call 13; exact Calls.regrown_of (p_used (H.out.later (below_regrown _ _ _))))))
  refine wpQuiet_nil ?_
  intro w1 hw1
  replace hw1 := below_of_regrown hw1
  go_wp2_with fail
  go_ret
  exact ⟨rfl, hw1⟩

set_option maxHeartbeats 2000000 in
theorem p_bytes {w : World} {F : Nat → Prop} {p : Nat} {d : Dk} (h : RP w F p d) (s : Int) : Calls Try.prog 11 #[ptr p, .int .i64 s] w fun e w' => e = .returned (.string (ofNats (d.bytes s))) ∧ Below w.heap.size w w' := by
  obtain ⟨v0, v1, rfl, h⟩ := h
  unfold Dk.bytes
  by_cases h0 : s = 0
  · subst h0
    have c1 := h.s0.c0
    have hcv := h.s0.row.convert
    obtain ⟨a0, k0, rfl, g0⟩ := h.s0.row.slice
    clear h
    go_enter Try.func11, Try.ntmps11
    go_wp2_with fail
    refine (pright_is (u := true) rfl _).mono ?_
    rintro e w1 ⟨rfl, rfl⟩
    go_wp2_with fail
    go_ret
    exact ⟨rfl, Below.refl _ _⟩
  · by_cases h1 : s = 1
    · subst h1
      have c1 := h.s1.c0
      have hcv := h.s1.row.convert
      obtain ⟨a0, k0, rfl, g0⟩ := h.s1.row.slice
      clear h
      go_enter Try.func11, Try.ntmps11
      go_wp2_with fail
      refine (pright_is (u := true) rfl _).mono ?_
      rintro e w1 ⟨rfl, rfl⟩
      go_wp2_with fail
      go_ret
      exact ⟨rfl, Below.refl _ _⟩
    · rw [if_neg h0, if_neg h1]
      have hr : decide (s = 0 ∨ s = 1) = false := decide_eq_false (by omega)
      go_enter Try.func11, Try.ntmps11
      go_wp2_with fail
      refine (pright_is (u := false) hr _).mono ?_
      rintro e w1 ⟨rfl, rfl⟩
      go_wp2_with fail
      go_ret
      exact ⟨rfl, Below.refl _ _⟩

set_option maxHeartbeats 2000000 in
theorem p_synced {w : World} {F : Nat → Prop} {p : Nat} {d : Dk} (h : RP w F p d) (s : Int) : Calls Try.prog 15 #[ptr p, .int .i64 s] w fun e w' => e = .returned (.int .i64 (d.synced s : Int)) ∧ Below w.heap.size w w' := by
  obtain ⟨v0, v1, rfl, h⟩ := h
  unfold Dk.synced
  by_cases h0 : s = 0
  · subst h0
    have c1 := h.s0.c1
    clear h
    go_enter Try.func15, Try.ntmps15
    go_wp2_with fail
    refine (pright_is (u := true) rfl _).mono ?_
    rintro e w1 ⟨rfl, rfl⟩
    go_wp2_with fail
    go_ret
    exact ⟨rfl, Below.refl _ _⟩
  · by_cases h1 : s = 1
    · subst h1
      have c1 := h.s1.c1
      clear h
      go_enter Try.func15, Try.ntmps15
      go_wp2_with fail
      refine (pright_is (u := true) rfl _).mono ?_
      rintro e w1 ⟨rfl, rfl⟩
      go_wp2_with fail
      go_ret
      exact ⟨rfl, Below.refl _ _⟩
    · rw [if_neg h0, if_neg h1]
      have hr : decide (s = 0 ∨ s = 1) = false := decide_eq_false (by omega)
      go_enter Try.func15, Try.ntmps15
      go_wp2_with fail
      refine (pright_is (u := false) hr _).mono ?_
      rintro e w1 ⟨rfl, rfl⟩
      go_wp2_with fail
      go_ret
      exact ⟨rfl, Below.refl _ _⟩

end Go.Proofs.Ytmbmagfdeadibaa
