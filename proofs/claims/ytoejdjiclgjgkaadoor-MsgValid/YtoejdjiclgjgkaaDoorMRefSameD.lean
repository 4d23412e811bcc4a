import Derived.Test.YtoejdjiclgjgkaaDoorMSame0
namespace Go.Proofs.YtoejdjiclgjgkaaDoor
open Go.RowKit Go.Sort
set_option linter.unusedVariables false

/-- the two messages in their boxes -/
structure SB (w wr : World) (m n : Mg) : Prop where
  a : BoxM wr w.heap.size m
  b : BoxM wr (w.heap.size + 1) n
  bl : Below w.heap.size w wr
theorem SB.later {w wr w' : World} {m n : Mg} (h : SB w wr m n) (hb : Below wr.heap.size wr w') : SB w w' m n := ⟨h.a.later hb, h.b.later hb, Below.on h.bl hb⟩
theorem sb_start (w : World) (m n : Mg) (T : TypeId) : SB w ((w.alloc (.cells m.cells T)).alloc (.cells n.cells T)) m n :=
  ⟨(boxM w m T).later (Below.al (Below.refl _ _) _), by have := boxM (w.alloc (.cells m.cells T)) n T; rwa [World.size_alloc] at this, Below.al (Below.al (Below.refl _ _) _) _⟩

set_option maxHeartbeats 8000000 in
set_option maxRecDepth 8000 in
theorem rsame_yes {m n : Mg} {w : World} (h1 : (m.k != n.k) = false) (h2 : (m.f != n.f) = false) (h3 : (m.t != n.t) = false) (e4 : ∀ w, (binOp .neq 25 (txv m.c m.s) (txv n.c n.s)).run Tryd.prog w = .ok (.bool false) w) (h5 : (m.h != n.h) = false) (h6 : (m.o != n.o) = false) (e7 : ∀ w, (binOp .neq 28 (stv m.w m.l m.n) (stv n.w n.l n.n)).run Tryd.prog w = .ok (.bool false) w) (h8 : (m.st != n.st) = false) (h9 : (m.oc != n.oc) = false) (h10 : ((m.rs.length : Int) != (n.rs.length : Int)) = false) (h11 : ((m.ws.length : Int) != (n.ws.length : Int)) = false) (h12 : ((m.ps.length : Int) != (n.ps.length : Int)) = false) (h : Hid (m.ok w)) (hp : Hid (Part m n)) :
    Calls Tryd.prog 7 #[m.val, n.val] w fun e w' => e = .returned (.bool true) ∧ Below w.heap.size w w' := by
  have HE : Hid (m.rs.length = n.rs.length ∧ m.ws.length = n.ws.length ∧ m.ps.length = n.ps.length) := by
    have e10 : (m.rs.length : Int) = n.rs.length := by simpa using h10
    have e11 : (m.ws.length : Int) = n.ws.length := by simpa using h11
    have e12 : (m.ps.length : Int) = n.ps.length := by simpa using h12
    exact ⟨by omega, by omega, by omega⟩
  have HR := hid h.out.rl; have HWL := hid h.out.wl; have HPL := hid h.out.pl
  go_enter Tryd.func7, Tryd.ntmps7
  go_wp2_with fail
  clear h1 h2 h3 e4 h5 h6 e7 h8 h9 h10 h11 h12
  have h0 := hid (sb_start w m n 35)
  go_loopg [5] m.rs.length (fun g s5 wr => ∃ k : Nat, k ≤ m.rs.length ∧ g = m.rs.length - k ∧ s5 = .int .i64 k ∧ Hid (SB w wr m n))
  case atStart => exact ⟨0, by omega, by omega, rfl, h0⟩
  case round =>
    obtain ⟨k, hk, rfl, rfl, HS⟩ := hrel
    obtain ⟨W1, hW1⟩ : ∃ W, W = wr := ⟨_, rfl⟩
    rw [← hW1] at HS ⊢
    clear hW1 wr
    have hlm := HR.out
    by_cases hlt : k < m.rs.length
    · have hnn : n.ra = m.ra ∧ n.rs = m.rs := by
        rcases hp.out.r with hx | ⟨-, hx, -⟩
        · exact hx
        · have := HE.out
          rw [hx] at this
          simp only [List.length_nil] at this
          omega
      have d := HS.out.b.c12
      rw [hnn.1, hnn.2] at d
      have c := HS.out.a.c12
      obtain ⟨b, off, ha, x0, x1⟩ := (h.out.later HS.out.bl).r k hlt
      rw [ha] at c d
      obtain ⟨x, hx⟩ : ∃ x, x = nth2 m.rs k := ⟨_, rfl⟩
      rw [← hx] at x0 x1
      have kc := cell_regrown c; have kd := cell_regrown d
      have kx0 := cell_regrown x0; have kx1 := cell_regrown x1
      have hne : ∀ w, (binOp .neq 51 (.agg #[.string x.1, .string x.2]) (.agg #[.string x.1, .string x.2])).run Tryd.prog w = .ok (.bool false) w := fun w => run_neSpan x w
      clear hx hnn ha
      go_wp2_with fail
      refine wp_region_quiet_below (by kernel_rfl) (by kernel_rfl) ?_
      repeat (go_big_quiet_step (fail))
      refine wpQuiet_nil ?_
      intro w1 hw
      replace hw := below_of_regrown hw
      have HS1 := hid (HS.out.later hw)
      clear hw kc kd kx0 kx1 x0 x1 c d
      go_wp2_with fail
      go_roundg (m.rs.length - (k + 1))
      case measure => omega
      case rel => exact ⟨k + 1, by omega, rfl, by go_num, HS1⟩
    · obtain rfl : k = m.rs.length := by omega
      have c := HS.out.a.c12
      have h0 := HS
      go_wp2_with fail
      clear c
      go_loopg [6] m.ws.length (fun g s6 wr => ∃ k : Nat, k ≤ m.ws.length ∧ g = m.ws.length - k ∧ s6 = .int .i64 k ∧ Hid (SB w wr m n))
      case atStart => exact ⟨0, by omega, by omega, rfl, h0⟩
      case round =>
        obtain ⟨k, hk, rfl, rfl, HS⟩ := hrel
        obtain ⟨W2, hW2⟩ : ∃ W, W = wr := ⟨_, rfl⟩
        rw [← hW2] at HS ⊢
        clear hW2 wr
        have hlm := HWL.out
        by_cases hlt : k < m.ws.length
        · have hnn : n.wa = m.wa ∧ n.ws = m.ws := by
            rcases hp.out.w with hx | ⟨-, hx, -⟩
            · exact hx
            · have := HE.out
              rw [hx] at this
              simp only [List.length_nil] at this
              omega
          have d := HS.out.b.c13
          rw [hnn.1, hnn.2] at d
          have c := HS.out.a.c13
          obtain ⟨b, off, ha, x0, x1, x2⟩ := (h.out.later HS.out.bl).w k hlt
          rw [ha] at c d
          obtain ⟨x, hx⟩ : ∃ x, x = nthW m.ws k := ⟨_, rfl⟩
          rw [← hx] at x0 x1 x2
          have kc := cell_regrown c; have kd := cell_regrown d
          have kx0 := cell_regrown x0; have kx1 := cell_regrown x1; have kx2 := cell_regrown x2
          have hne : ∀ w, (binOp .neq 53 (.agg #[.string x.key, .bool x.del, .string x.val]) (.agg #[.string x.key, .bool x.del, .string x.val])).run Tryd.prog w = .ok (.bool false) w := fun w => run_neWrite x w
          clear hx hnn ha
          go_wp2_with fail
          refine wp_region_quiet_below (by kernel_rfl) (by kernel_rfl) ?_
          repeat (go_big_quiet_step (fail))
          refine wpQuiet_nil ?_
          intro w1 hw
          replace hw := below_of_regrown hw
          have HS1 := hid (HS.out.later hw)
          clear hw kc kd kx0 kx1 kx2 x0 x1 x2 c d
          go_wp2_with fail
          go_roundg (m.ws.length - (k + 1))
          case measure => omega
          case rel => exact ⟨k + 1, by omega, rfl, by go_num, HS1⟩
        · obtain rfl : k = m.ws.length := by omega
          have c := HS.out.a.c13
          have h0 := HS
          go_wp2_with fail
          clear c
          go_loopg [7] m.ps.length (fun g s7 wr => ∃ k : Nat, k ≤ m.ps.length ∧ g = m.ps.length - k ∧ s7 = .int .i64 k ∧ Hid (SB w wr m n))
          case atStart => exact ⟨0, by omega, by omega, rfl, h0⟩
          case round =>
            obtain ⟨k, hk, rfl, rfl, HS⟩ := hrel
            obtain ⟨W3, hW3⟩ : ∃ W, W = wr := ⟨_, rfl⟩
            rw [← hW3] at HS ⊢
            clear hW3 wr
            have hlm := HPL.out
            by_cases hlt : k < m.ps.length
            · have hnn : n.pa = m.pa ∧ n.ps = m.ps := by
                rcases hp.out.p with hx | ⟨-, hx, -⟩
                · exact hx
                · have := HE.out
                  rw [hx] at this
                  simp only [List.length_nil] at this
                  omega
              have d := HS.out.b.c14
              rw [hnn.1, hnn.2] at d
              have c := HS.out.a.c14
              obtain ⟨b, off, ha, x0, x1⟩ := (h.out.later HS.out.bl).p k hlt
              rw [ha] at c d
              obtain ⟨x, hx⟩ : ∃ x, x = nth2 m.ps k := ⟨_, rfl⟩
              rw [← hx] at x0 x1
              have kc := cell_regrown c; have kd := cell_regrown d
              have kx0 := cell_regrown x0; have kx1 := cell_regrown x1
              have hne : ∀ w, (binOp .neq 55 (.agg #[.string x.1, .string x.2]) (.agg #[.string x.1, .string x.2])).run Tryd.prog w = .ok (.bool false) w := fun w => run_nePair x w
              clear hx hnn ha
              go_wp2_with fail
              refine wp_region_quiet_below (by kernel_rfl) (by kernel_rfl) ?_
              repeat (go_big_quiet_step (fail))
              refine wpQuiet_nil ?_
              intro w1 hw
              replace hw := below_of_regrown hw
              have HS1 := hid (HS.out.later hw)
              clear hw kc kd kx0 kx1 x0 x1 c d
              go_wp2_with fail
              go_roundg (m.ps.length - (k + 1))
              case measure => omega
              case rel => exact ⟨k + 1, by omega, rfl, by go_num, HS1⟩
            · obtain rfl : k = m.ps.length := by omega
              have c := HS.out.a.c14
              have h0 := HS
              go_wp2_with fail
              clear c
              go_ret
              exact ⟨rfl, h0.out.bl⟩

end Go.Proofs.YtoejdjiclgjgkaaDoor
