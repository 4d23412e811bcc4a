import Derived.Test.YtmbmagfdeadibaaDApp
namespace Go.Proofs.Ytmbmagfdeadibaa
open Go.RowKit Go.Sort
set_option linter.unusedVariables false

/-- a disk that is being cloned -/
structure Cl (w wr : World) (x y : Rf) (q : Nat) (r0 r1 : List Cc) : Prop where
  at' : RefD wr y
  p : y.p = q
  cap : y.cap = x.cap
  r0 : y.r 0 = r0
  r1 : y.r 1 = r1
  bl : Below w.heap.size w wr
  new : ∀ k, y.has k → w.heap.size ≤ k

set_option maxHeartbeats 8000000 in
theorem rclone_is {w : World} {x : Rf} (h : RefD w x) :
    Calls Try.prog 22 #[.pointer (some ⟨x.p, 0, none⟩)] w fun e w' => ∃ q y, e = .returned (.pointer (some ⟨q, 0, none⟩)) ∧ Cl w w' x y q (x.r 0) (x.r 1) := by
  have c0 := h.c0
  have H := hid h
  have H0 : Hid (Cl w (w.alloc (.cells #[.int .i64 (x.cap : Int), .slice none 0 0, .slice none 0 0] 68)) x ⟨w.heap.size, x.cap, fun _ => .slice none 0 0, fun _ => []⟩ w.heap.size [] []) :=
    ⟨⟨by simp [go_sem], by simp [go_sem], by simp [go_sem], fun o => by simp [go_sem], World.ownsRow_nil _ _ _ _, World.ownsRow_nil _ _ _ _, by simp [Value.ownBlock], by simp [Value.ownBlock], fun g hg => by simp [Value.ownBlock] at hg, h.cl, by simp⟩, rfl, rfl, rfl, rfl, Below.al (Below.refl _ _) _, fun k hk => by
      rcases hk with e | e | e
      · exact Nat.le_of_eq e.symm
      · simp [Value.ownBlock] at e
      · simp [Value.ownBlock] at e⟩
  clear h
  obtain ⟨q, hq⟩ : ∃ q, q = w.heap.size := ⟨_, rfl⟩
  go_enter Try.func22, Try.ntmps22
  go_wp2_with fail
  rw [← hq] at H0 ⊢
  clear hq
  go_loopg [4] 2 (fun g s4 wr => ∃ s : Nat, s ≤ 2 ∧ g = 2 - s ∧ s4 = .int .i64 s ∧ ∃ y, Hid (Cl w wr x y q (if s = 0 then [] else x.r 0) (if s ≤ 1 then [] else x.r 1)))
  case atStart => exact ⟨0, by omega, by omega, rfl, _, H0⟩
  case round =>
    obtain ⟨s, hs, rfl, rfl, y, HY⟩ := hrel
    have hc : s = 0 ∨ s = 1 ∨ s = 2 := by omega
    rcases hc with rfl | rfl | rfl
    · simp only [if_pos, Nat.zero_le] at HY
      have hX := H.out.later HY.out.bl
      have HX := hid hX
      obtain ⟨a, c, e, hr⟩ := hX.row0
      have cc := hX.c1
      rw [e] at cc
      have ct := HY.out.at'.c1
      have hf : ∀ o, wr.frozen? ⟨y.p, o, none⟩ = false := HY.out.at'.loose
      have hlt := HY.out.at'.lt
      obtain ⟨a3, c3, e3, -⟩ := HY.out.at'.row0
      rw [e3] at ct
      rw [HY.out.p] at ct hf hlt
      have HR := hid hr
      clear hX e hr e3
      go_wp2_with fail
      go_region_with (first | (go_at_call 31; refine (first_any (HR.out.later (Below.drew (Below.refl _ _))) (Nat.le_refl _) HX.out.l0).mono ?_; rintro e w2 ⟨v, rfl, hown, hb⟩; obtain ⟨a2, c2, rfl⟩ := owns_slice hown; have HB : Hid (Below wr.heap.size wr w2) := (by refine Below.on ?_ hb; (repeat (first | exact Below.refl _ _ | assumption | refine Below.drew ?_ | refine Below.al ?_ _ | refine Below.setCell ?_ (by first | exact Nat.le_refl _ | (simp; omega) | (simp; done)) _ | refine Below.on ?_ (by assumption)))); have HO := hid hown; have kc := cell_later HB.out ct; have kf : ∀ o, w2.frozen? ⟨q, o, none⟩ = false := (fun o => (HB.out.frozen (p := ⟨q, o, none⟩) hlt).trans (hf o)); clear hb hown))
      all_goals (try go_wp2_with fail)
      all_goals
        obtain ⟨k1, k2, k3⟩ := HY.out.at'.lay0 HB.out HO.out (Nat.le_refl _) (by rw [List.length_take]; omega) (by have := HX.out.used; rw [List.length_take, HY.out.r1, HY.out.cap]; simp; omega)
        rw [HY.out.p] at k1 k2
        have HZ : Hid (Cl w _ x _ q (x.r 0) []) := ⟨k1, HY.out.p, HY.out.cap, by show List.take _ _ = _; exact List.take_of_length_le (Nat.le_refl _), HY.out.r1, HY.out.bl.trans (k2.below HY.out.new HY.out.bl.size), fun k hk => by
          rcases k3 k hk with h1 | h1
          · exact HY.out.new k h1
          · exact Nat.le_trans HY.out.bl.size h1⟩
        clear k1 k2 k3
        go_roundg (2 - (0 + 1))
        case measure => omega
        case rel => exact ⟨0 + 1, by omega, rfl, by go_num, _, HZ⟩
    · simp only [Nat.one_ne_zero, if_false, Nat.le_refl, if_true] at HY
      have hX := H.out.later HY.out.bl
      have HX := hid hX
      obtain ⟨a, c, e, hr⟩ := hX.row1
      have cc := hX.c2
      rw [e] at cc
      have ct := HY.out.at'.c2
      have hf : ∀ o, wr.frozen? ⟨y.p, o, none⟩ = false := HY.out.at'.loose
      have hlt := HY.out.at'.lt
      obtain ⟨a3, c3, e3, -⟩ := HY.out.at'.row1
      rw [e3] at ct
      rw [HY.out.p] at ct hf hlt
      have HR := hid hr
      clear hX e hr e3
      go_wp2_with fail
      go_region_with (first | (go_at_call 31; refine (first_any (HR.out.later (Below.drew (Below.refl _ _))) (Nat.le_refl _) HX.out.l1).mono ?_; rintro e w2 ⟨v, rfl, hown, hb⟩; obtain ⟨a2, c2, rfl⟩ := owns_slice hown; have HB : Hid (Below wr.heap.size wr w2) := (by refine Below.on ?_ hb; (repeat (first | exact Below.refl _ _ | assumption | refine Below.drew ?_ | refine Below.al ?_ _ | refine Below.setCell ?_ (by first | exact Nat.le_refl _ | (simp; omega) | (simp; done)) _ | refine Below.on ?_ (by assumption)))); have HO := hid hown; have kc := cell_later HB.out ct; have kf : ∀ o, w2.frozen? ⟨q, o, none⟩ = false := (fun o => (HB.out.frozen (p := ⟨q, o, none⟩) hlt).trans (hf o)); clear hb hown))
      all_goals (try go_wp2_with fail)
      all_goals
        obtain ⟨k1, k2, k3⟩ := HY.out.at'.lay1 HB.out HO.out (Nat.le_refl _) (by rw [List.length_take]; omega) (by have := HX.out.used; rw [List.length_take, HY.out.r0, HY.out.cap]; omega)
        rw [HY.out.p] at k1 k2
        have HZ : Hid (Cl w _ x _ q (x.r 0) (x.r 1)) := ⟨k1, HY.out.p, HY.out.cap, HY.out.r0, by show List.take _ _ = _; exact List.take_of_length_le (Nat.le_refl _), HY.out.bl.trans (k2.below HY.out.new HY.out.bl.size), fun k hk => by
          rcases k3 k hk with h1 | h1
          · exact HY.out.new k h1
          · exact Nat.le_trans HY.out.bl.size h1⟩
        clear k1 k2 k3
        go_roundg (2 - (1 + 1))
        case measure => omega
        case rel => exact ⟨1 + 1, by omega, rfl, by go_num, _, HZ⟩
    · simp only [show ¬ (2 : Nat) = 0 by decide, if_false, show ¬ (2 : Nat) ≤ 1 by decide] at HY
      go_wp2_with fail
      go_ret
      exact ⟨q, y, rfl, HY.out⟩

end Go.Proofs.Ytmbmagfdeadibaa
