import Derived.Test.YtngnifemghahkaaGLists
namespace Go.Proofs.Ytngnifemghahkaa
open Go.RowKit Go.Sort
set_option linter.unusedVariables false

/-- the two records in their boxes -/
structure SG (w wr : World) (m n : Rg) : Prop where
  a : BoxG wr w.heap.size m
  b : BoxG wr (w.heap.size + 1) n
  bl : Below w.heap.size w wr
theorem SG.later {w wr w' : World} {m n : Rg} (h : SG w wr m n) (hb : Below wr.heap.size wr w') : SG w w' m n := ⟨h.a.later hb, h.b.later hb, Below.on h.bl hb⟩
theorem sg_start (w : World) (m n : Rg) (T : TypeId) : SG w ((w.alloc (.cells m.cells T)).alloc (.cells n.cells T)) m n :=
  ⟨(boxG w m T).later (Below.al (Below.refl _ _) _), by have := boxG (w.alloc (.cells m.cells T)) n T; rwa [World.size_alloc] at this, Below.al (Below.al (Below.refl _ _) _) _⟩

set_option maxHeartbeats 8000000 in
set_option maxRecDepth 8000 in
theorem rsame_yes {m n : Rg} {w : World} (h1 : (m.k != n.k) = false) (h2 : (m.x != n.x) = false) (e3 : ∀ w, (binOp .neq 26 (txv m.c m.s) (txv n.c n.s)).run Try.prog w = .ok (.bool false) w) (h4 : (m.h != n.h) = false) (h5 : (m.oc != n.oc) = false) (e6 : ∀ w, (binOp .neq 29 (stv m.w m.l m.n) (stv n.w n.l n.n)).run Try.prog w = .ok (.bool false) w) (h7 : (m.im.toList == n.im.toList) = true) (h8 : ((m.rs.length : Int) != (n.rs.length : Int)) = false) (h9 : ((m.ws.length : Int) != (n.ws.length : Int)) = false) (h : Hid (m.ok w)) (hn : Hid (n.ok w)) (hp : Hid (m.rs = n.rs ∧ m.ws = n.ws)) :
    Calls Try.prog 15 #[m.val, n.val] w fun e w' => e = .returned (.bool true) ∧ Below w.heap.size w w' := by
  have HR := hid h.out.rl; have HWL := hid h.out.wl
  go_enter Try.func15, Try.ntmps15
  go_wp2_with fail
  clear h1 h2 e3 h4 h5 e6 h7 h8 h9
  have h0 := hid (sg_start w m n 33)
  go_loopg [5] m.rs.length (fun g s5 wr => ∃ k : Nat, k ≤ m.rs.length ∧ g = m.rs.length - k ∧ s5 = .int .i64 k ∧ Hid (SG w wr m n))
  case atStart => exact ⟨0, by omega, by omega, rfl, h0⟩
  case round =>
    obtain ⟨k, hk, rfl, rfl, HS⟩ := hrel
    obtain ⟨W1, hW1⟩ : ∃ W, W = wr := ⟨_, rfl⟩
    rw [← hW1] at HS ⊢
    clear hW1 wr
    have hlm := HR.out
    by_cases hlt : k < m.rs.length
    · have d := HS.out.b.c9
      have c := HS.out.a.c9
      obtain ⟨b, off, ha, x0, x1⟩ := (h.out.later HS.out.bl).r k hlt
      obtain ⟨b', off', ha', y0, y1⟩ := (hn.out.later HS.out.bl).r k (by rw [← hp.out.1]; exact hlt)
      rw [← hp.out.1] at y0 y1 d
      rw [ha] at c
      rw [ha'] at d
      obtain ⟨x, hx⟩ : ∃ x, x = nth2 m.rs k := ⟨_, rfl⟩
      rw [← hx] at x0 x1 y0 y1
      have kc := cell_regrown c; have kd := cell_regrown d
      have kx0 := cell_regrown x0; have kx1 := cell_regrown x1
      have ky0 := cell_regrown y0; have ky1 := cell_regrown y1
      have hne : ∀ w, (binOp .neq 43 (.agg #[.string x.1, .string x.2]) (.agg #[.string x.1, .string x.2])).run Try.prog w = .ok (.bool false) w := fun w => run_neSpan x w
      clear hx ha ha'
      go_wp2_with fail
      refine wp_region_quiet_below (by kernel_rfl) (by kernel_rfl) ?_
      repeat (go_big_quiet_step (fail))
      refine wpQuiet_nil ?_
      intro w1 hw
      replace hw := below_of_regrown hw
      have HS1 := hid (HS.out.later hw)
      clear hw kc kd kx0 ky0 kx1 ky1 x0 x1 y0 y1 c d
      go_wp2_with fail
      go_roundg (m.rs.length - (k + 1))
      case measure => omega
      case rel => exact ⟨k + 1, by omega, rfl, by go_num, HS1⟩
    · obtain rfl : k = m.rs.length := by omega
      have c := HS.out.a.c9
      have h0 := HS
      go_wp2_with fail
      clear c
      go_loopg [6] m.ws.length (fun g s6 wr => ∃ k : Nat, k ≤ m.ws.length ∧ g = m.ws.length - k ∧ s6 = .int .i64 k ∧ Hid (SG w wr m n))
      case atStart => exact ⟨0, by omega, by omega, rfl, h0⟩
      case round =>
        obtain ⟨k, hk, rfl, rfl, HS⟩ := hrel
        obtain ⟨W2, hW2⟩ : ∃ W, W = wr := ⟨_, rfl⟩
        rw [← hW2] at HS ⊢
        clear hW2 wr
        have hlm := HWL.out
        by_cases hlt : k < m.ws.length
        · have d := HS.out.b.c10
          have c := HS.out.a.c10
          obtain ⟨b, off, ha, x0, x1, x2⟩ := (h.out.later HS.out.bl).w k hlt
          obtain ⟨b', off', ha', y0, y1, y2⟩ := (hn.out.later HS.out.bl).w k (by rw [← hp.out.2]; exact hlt)
          rw [← hp.out.2] at y0 y1 y2 d
          rw [ha] at c
          rw [ha'] at d
          obtain ⟨x, hx⟩ : ∃ x, x = nthW m.ws k := ⟨_, rfl⟩
          rw [← hx] at x0 x1 x2 y0 y1 y2
          have kc := cell_regrown c; have kd := cell_regrown d
          have kx0 := cell_regrown x0; have kx1 := cell_regrown x1; have kx2 := cell_regrown x2
          have ky0 := cell_regrown y0; have ky1 := cell_regrown y1; have ky2 := cell_regrown y2
          have hne : ∀ w, (binOp .neq 45 (.agg #[.string x.key, .bool x.del, .string x.val]) (.agg #[.string x.key, .bool x.del, .string x.val])).run Try.prog w = .ok (.bool false) w := fun w => run_neWrite x w
          clear hx ha ha'
          go_wp2_with fail
          refine wp_region_quiet_below (by kernel_rfl) (by kernel_rfl) ?_
          repeat (go_big_quiet_step (fail))
          refine wpQuiet_nil ?_
          intro w1 hw
          replace hw := below_of_regrown hw
          have HS1 := hid (HS.out.later hw)
          clear hw kc kd kx0 ky0 kx1 ky1 kx2 ky2 x0 x1 x2 y0 y1 y2 c d
          go_wp2_with fail
          go_roundg (m.ws.length - (k + 1))
          case measure => omega
          case rel => exact ⟨k + 1, by omega, rfl, by go_num, HS1⟩
        · obtain rfl : k = m.ws.length := by omega
          have c := HS.out.a.c10
          have h0 := HS
          go_wp2_with fail
          clear c
          go_ret
          exact ⟨rfl, h0.out.bl⟩

end Go.Proofs.Ytngnifemghahkaa
