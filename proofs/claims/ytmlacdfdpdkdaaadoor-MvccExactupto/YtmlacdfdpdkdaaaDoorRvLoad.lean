import Derived.Test.YtmlacdfdpdkdaaaDoorVAt
import Derived.Test.YtmlacdfdpdkdaaaDoorVInstall
import Derived.Test.YtmlacdfdpdkdaaaDoorVPruneP
import Derived.Test.YtmlacdfdpdkdaaaDoorRvInst
import Derived.Deep.AppendLies
import Derived.Deep.RegionLaw
/- Load, Watermark. -/
namespace Go.Proofs.YtmlacdfdpdkdaaaDoor.Vs
open Go.RowKit Go.Sort
set_option linter.unusedVariables false

theorem stand_is {e : Kv} {u : Bool} (hu : okV e = u) (w : World) :
    Calls Tryd.prog 64 #[vv e.1 e.2] w fun x w' => x = .returned (.bool u) ∧ Below w.heap.size w w' := by
  obtain ⟨k, t, d, v⟩ := e
  have hb0 : Below w.heap.size w (w.alloc (.cells (vcs k ⟨t, d, v⟩) 76)) := Below.al (Below.refl _ _) _
  have hv0 := ver_cells w k ⟨t, d, v⟩
  obtain ⟨w0, hw0⟩ : ∃ w0, w0 = w.alloc (.cells (vcs k ⟨t, d, v⟩) 76) := ⟨_, rfl⟩
  rw [← hw0] at hb0 hv0
  obtain ⟨d0, d1, d2, d3, d4, d5⟩ := hv0
  simp only [Nat.zero_add] at d0 d1 d2 d3 d4 d5
  obtain ⟨u1, h1⟩ : ∃ u1, decide (t.a < 18446744073709551615) = u1 := ⟨_, rfl⟩
  obtain ⟨u2, h2⟩ : ∃ u2, wOk ⟨k, d, v⟩ = u2 := ⟨_, rfl⟩
  have HQ : Hid (u = (u1 && u2)) := by show _ = _; rw [← hu, ← h1, ← h2]; rfl
  have U := hid (fun W => usable_at (t := t) h1 W)
  have V := hid (fun W => vwrite_is h2 W)
  have HB := hid hb0
  have HD : Hid (w0.cell? ⟨w.heap.size, 0, none⟩ = some (.string k) ∧ w0.cell? ⟨w.heap.size, 4, none⟩ = some (.bool d) ∧ w0.cell? ⟨w.heap.size, 5, none⟩ = some (.string v)) := ⟨d0, d4, d5⟩
  clear hu h1 h2 hb0 d0 d4 d5
  simp only at V
  go_enter Tryd.func64, Tryd.ntmps64
  go_wp2_with fail
  rw [← hw0]
  clear hw0
  cases u1 with
  | false =>
    go_wp2_with (go_at_call 12; refine (U.out _).mono ?_; rintro e w1 ⟨rfl, hb1⟩)
    go_ret
    exact ⟨ret_bool (by rw [HQ.out]; rfl), Below.on HB.out hb1⟩
  | true =>
    go_wp2_with (first
      | (go_at_call 12; refine (U.out _).mono ?_; rintro e w1 ⟨rfl, hb1⟩; have d0 := cell_later hb1 HD.out.1; have d4 := cell_later hb1 HD.out.2.1; have d5 := cell_later hb1 HD.out.2.2)
      | (go_at_call 47; refine (V.out _).mono ?_; rintro e w2 ⟨rfl, hb2⟩))
    go_ret
    exact ⟨ret_bool (by rw [HQ.out]; rfl), Below.on (Below.on HB.out hb1) hb2⟩
set_option maxHeartbeats 400000 in
theorem follows_is {d e : Kv} {u : Bool} (hu : folB d e = u) (w : World) :
    Calls Tryd.prog 65 #[vv d.1 d.2, vv e.1 e.2] w fun x w' => x = .returned (.bool u) ∧ Below w.heap.size w w' := by
  obtain ⟨k, t, dl, v⟩ := d
  obtain ⟨k', t', dl', v'⟩ := e
  by_cases hk : k = k'
  · subst hk
    have hl : t.lt t' = u := by unfold folB at hu; rw [if_pos rfl] at hu; exact hu
    have L := hid (fun W => less_is (show lessB t.a t.b t.c t'.a t'.b t'.c = u from hl) W)
    clear hu hl
    go_enter Tryd.func65, Tryd.ntmps65
    go_wp2_with (go_at_call 15; refine (L.out _).mono ?_; rintro e w1 ⟨rfl, hb1⟩)
    go_ret
    exact ⟨rfl, Below.on (by (repeat (first | exact Below.refl _ _ | assumption | refine Below.drew ?_ | refine Below.al ?_ _ | refine Below.setCell ?_ (by first | exact Nat.le_refl _ | (simp; omega) | (simp; done)) _ | refine Below.on ?_ (by assumption)))) hb1⟩
  · have q1 := toList_beq' (decide_eq_false hk)
    have hl : Op.bytesLess k.toList k'.toList = u := by unfold folB at hu; rw [if_neg hk] at hu; exact hu
    clear hu hk
    go_enter Tryd.func65, Tryd.ntmps65
    go_wp2_with fail
    go_ret
    exact ⟨rfl, by (repeat (first | exact Below.refl _ _ | assumption | refine Below.drew ?_ | refine Below.al ?_ _ | refine Below.setCell ?_ (by first | exact Nat.le_refl _ | (simp; omega) | (simp; done)) _ | refine Below.on ?_ (by assumption)))⟩
/-- what stands while Load goes on -/
structure LdI (w wr : World) (F : Nat → Prop) (p : Nat) (l : List Kv) (t : Sp) (i : Nat) : Prop where
  sto : Sto F wr p (loadM (l.take i)) t
  low : ∀ b, F b → w.heap.size ≤ b
  ok : ldF l i = 0
  bl : Below w.heap.size w wr
theorem StoG.marked0 {F : Nat → Prop} {w : World} {p : Nat} {M : Mst} {mk : Sp} (h : Sto F w p M mk) (t : Sp) : Sto F (((w.setCell ⟨p, 1, none⟩ (.int .u64 t.a)).setCell ⟨p, 2, none⟩ (.int .u32 t.b)).setCell ⟨p, 3, none⟩ (.int .u32 t.c)) p M t ∧
    Onl F w (((w.setCell ⟨p, 1, none⟩ (.int .u64 t.a)).setCell ⟨p, 2, none⟩ (.int .u32 t.b)).setCell ⟨p, 3, none⟩ (.int .u32 t.c)) := by
  obtain ⟨m, h, rfl⟩ := h
  obtain ⟨h1, h2, _⟩ := h.marked t
  simp only [Nat.zero_add] at h1 h2
  exact ⟨⟨m, h1, rfl⟩, h2.mono fun b e => by rw [e]; exact h.fp⟩
theorem StoG.loose {F : Nat → Prop} {w : World} {p o : Nat} {ty : TypeId} {M : Mst} {mk : Sp} (h : StoG F w p o ty M mk) : ∀ j, w.frozen? ⟨p, j, none⟩ = false := by
  obtain ⟨m, h, rfl⟩ := h
  exact fun j => Sto.loose h j
theorem StoG.cells0 {F : Nat → Prop} {w : World} {p : Nat} {M : Mst} {mk : Sp} (h : Sto F w p M mk) : (∃ v, w.cell? ⟨p, 1, none⟩ = some v) ∧ (∃ v, w.cell? ⟨p, 2, none⟩ = some v) ∧ (∃ v, w.cell? ⟨p, 3, none⟩ = some v) := by
  obtain ⟨m, h, rfl⟩ := h
  have c1 := Sto.c1 h
  have c2 := Sto.c2 h
  have c3 := Sto.c3 h
  simp only [Nat.zero_add] at c1 c2 c3
  exact ⟨⟨_, c1⟩, ⟨_, c2⟩, ⟨_, c3⟩⟩
/-- what Load answers -/
def LdPost (l : List Kv) (t : Sp) (w : World) (e : Ending) (w' : World) : Prop :=
  (ldE l = 0 ∧ ∃ p F, e = .returned (.tuple #[pt p, .int .i64 0]) ∧ Sto F w' p (loadM l) t ∧ ∀ b, F b → w.heap.size ≤ b) ∨ (ldE l ≠ 0 ∧ e = .returned (.tuple #[.pointer none, .int .i64 (ldE l)]))

set_option maxHeartbeats 2000000 in
set_option maxRecDepth 16000 in
theorem stoload_is {w : World} {a : Option Addr} {c : Nat} {l : List Kv} (t : Sp) (h : RowV w a l) (hl : (l.length + 1) * 64 ≤ 140737488355328) :
    Calls Tryd.prog 39 #[.slice a l.length c, sv t] w fun e w' => LdPost l t w e w' ∧ Below w.heap.size w w' := by
  obtain ⟨n, hn⟩ : ∃ n, n = l.length := ⟨_, rfl⟩
  obtain ⟨wx, hwx⟩ : ∃ wx, wx = w.alloc (.cells #[.int .u64 t.a, .int .u32 t.b, .int .u32 t.c] 33) := ⟨_, rfl⟩
  have hbx : Below w.heap.size w wx := by rw [hwx]; exact Below.al (Below.refl _ _) _
  have kx : wx.heap[w.heap.size]? = some (.cells #[.int .u64 t.a, .int .u32 t.b, .int .u32 t.c] 33 (0, 0)) := by rw [hwx]; exact World.alloc_heap_new _ _
  have HX : Hid (wx.cell? ⟨w.heap.size, 0, none⟩ = some (.int .u64 t.a) ∧ wx.cell? ⟨w.heap.size, 1, none⟩ = some (.int .u32 t.b) ∧ wx.cell? ⟨w.heap.size, 2, none⟩ = some (.int .u32 t.c)) := ⟨cell_of_obj kx rfl, cell_of_obj kx rfl, cell_of_obj kx rfl⟩
  have HA := hid (show RowV w a l ∧ Below w.heap.size w wx ∧ n = l.length from ⟨h, hbx, hn⟩)
  have NW := hid (stonew_is wx)
  rw [← hn] at hl ⊢
  have HL := hid hl
  clear h hbx kx hn
  go_enter Tryd.func39, Tryd.ntmps39
  go_wp2_with fail
  rw [← hwx]
  clear hwx
  go_wp2_with (go_at_call 4; refine NW.out.mono ?_; rintro e w1 ⟨p, F0, rfl, s1, f1, hb1⟩; have HS1 := hid s1; have HF1 := hid f1; have HB1 := hid hb1; have x0 := cell_later hb1 HX.out.1; have x1 := cell_later hb1 HX.out.2.1; have x2 := cell_later hb1 HX.out.2.2; have cf := StoG.loose s1; obtain ⟨⟨v1, y1⟩, ⟨v2, y2⟩, ⟨v3, y3⟩⟩ := s1.cells0; clear s1 f1 hb1)
  obtain ⟨w2, hw2⟩ : ∃ w2, w2 = ((w1.setCell ⟨p, 1, none⟩ (.int .u64 t.a)).setCell ⟨p, 2, none⟩ (.int .u32 t.b)).setCell ⟨p, 3, none⟩ (.int .u32 t.c) := ⟨_, rfl⟩
  have HI2 : Hid (LdI w w2 F0 p l t 0) := by
    obtain ⟨m1, m2⟩ := HS1.out.marked0 t
    rw [← hw2] at m1 m2
    have f0 : ∀ b, F0 b → w.heap.size ≤ b := fun b hb => Nat.le_trans HA.out.2.1.size (HF1.out b hb)
    have b1 : Below w.heap.size w w1 := Below.on HA.out.2.1 HB1.out
    exact ⟨m1, f0, rfl, b1.trans (m2.below f0 b1.size)⟩
  rw [← hw2]
  clear hw2 x0 x1 x2 cf y1 y2 y3 HS1 HF1 HB1 NW HX
  go_loopg [16] n (fun g s16 wr => ∃ i : Nat, i ≤ n ∧ g = n - i ∧ s16 = .int .i64 i ∧ ∃ F : Nat → Prop, Hid (LdI w wr F p l t i))
  case atStart => exact ⟨0, by omega, by omega, rfl, F0, HI2⟩
  case round =>
    obtain ⟨i, hin, rfl, rfl, F, HI⟩ := hrel
    clear HI2
    by_cases hlt : i < n
    · obtain ⟨b, off, hab, cv⟩ := HA.out.1.later HI.out.bl i (by rw [← HA.out.2.2]; exact hlt)
      obtain ⟨e, he⟩ : ∃ e, e = nthK l i := ⟨_, rfl⟩
      have hsn : l.take (i + 1) = l.take i ++ [e] := by rw [he]; exact nthK_take (by rw [← HA.out.2.2]; exact hlt)
      rw [← he] at cv
      obtain ⟨u, hu⟩ : ∃ u, okV e = u := ⟨_, rfl⟩
      have HSd : Hid (ldS l i = if u then (if i = 0 ∨ folB (nthK l (i - 1)) e = true then 0 else 91) else 1) := by show _ = _; unfold ldS; rw [← he, hu]
      have ST := hid (fun W => stand_is hu W)
      have HSN := hid hsn
      have HLT : Hid (i < l.length) := by show _ < _; rw [← HA.out.2.2]; exact hlt
      clear hu he hsn
      obtain ⟨k, s, d, v⟩ := e
      obtain ⟨wp, hwp⟩ : ∃ wp, wp = wr.alloc (.cells (vcs k ⟨s, d, v⟩) 76) := ⟨_, rfl⟩
      have hbp : Below wr.heap.size wr wp := by rw [hwp]; exact Below.al (Below.refl _ _) _
      have kp : VerAt wp wr.heap.size 0 k ⟨s, d, v⟩ := by rw [hwp]; exact ver_cells _ _ _
      obtain ⟨c0, c1, c2, c3, c4, c5⟩ := cv
      simp only at c0 c1 c2 c3 c4 c5
      subst hab
      have HBP := hid hbp
      have HKP := hid kp
      obtain ⟨p0, p1, p2, p3, p4, p5⟩ := kp
      simp only [Nat.zero_add] at p0 p1 p2 p3 p4 p5
      simp only at ST
      clear hbp
      cases u with
      | false =>
        have HE : Hid (ldE l = 1) := by
          have : ldS l i = 1 := HSd.out
          show _ = _
          rw [ld_last HI.out.ok (by rw [this]; decide) HLT.out, this]
        subst hwp
        go_wp2_with (go_at_call 64; refine (ST.out _).mono ?_; rintro e w3 ⟨rfl, hb3⟩)
        refine bodyPost_ret (v := .tuple #[.pointer none, .int .i64 1]) (by simp [results, Tryd.results39, go_sem]) rfl ⟨.inr ⟨by rw [HE.out]; decide, by rw [HE.out]⟩, Below.on HI.out.bl (Below.on HBP.out hb3)⟩
      | true =>
        have hS : ldS l i = if i = 0 ∨ folB (nthK l (i - 1)) (k, ⟨s, d, v⟩) = true then 0 else 91 := HSd.out
        have HS := hid hS
        clear hS HSd
        subst hwp
        go_wp2_with (go_at_call 64; refine (ST.out _).mono ?_; rintro e w3 ⟨rfl, hb3⟩; have HB3 := hid (Below.on HBP.out hb3); have HK3 := hid (HKP.out.later hb3); clear hb3)
        clear c0 c1 c2 c3 c4 c5 p0 p1 p2 p3 p4 p5
        by_cases hi0 : i = 0
        · have g0 : decide (0 < (i : Int)) = false := decide_eq_false (by omega)
          have g0' : decide (0 < i) = false := decide_eq_false (by omega)
          have HS0 : Hid (ldS l i = 0) := by show _ = _; rw [HS.out, if_pos (.inl hi0)]
          have HOK : Hid (ldF l (i + 1) = 0) := by show _ = _; rw [ldF, if_pos HI.out.ok, HS0.out]
          have hsr := ld_sorted (i + 1) (by have := HLT.out; omega) HOK.out
          rw [HSN.out] at hsr
          have HOV : Hid (Over (loadM (l.take i)) k s) := load_over (e := (k, ⟨s, d, v⟩)) hsr
          have HCN : Hid ((countM (loadM (l.take i)) + 1) * 64 ≤ 140737488355328) := by
            show _ ≤ _
            rw [load_count (List.pairwise_append.1 hsr).1, List.length_take]
            have h1 := HL.out
            have h2 := HA.out.2.2
            omega
          clear hsr
          clear hi0 HS
          go_wp2_with fail
          refine wp_region_quiet_below (by kernel_rfl) (by kernel_rfl) ?_
          repeat (go_big_quiet_step (fail))
          refine wpQuiet_nil ?_
          intro w4 hb4
          replace hb4 := below_of_regrown hb4
          have q0 : w4.cell? ⟨wr.heap.size, 0, none⟩ = some (.string k) := (HK3.out.later hb4).c0
          have q1 : w4.cell? ⟨wr.heap.size, 1, none⟩ = some (.int .u64 s.a) := (HK3.out.later hb4).c1
          have q2 : w4.cell? ⟨wr.heap.size, 2, none⟩ = some (.int .u32 s.b) := (HK3.out.later hb4).c2
          have q3 : w4.cell? ⟨wr.heap.size, 3, none⟩ = some (.int .u32 s.c) := (HK3.out.later hb4).c3
          have q4 : w4.cell? ⟨wr.heap.size, 4, none⟩ = some (.bool d) := (HK3.out.later hb4).c4
          have q5 : w4.cell? ⟨wr.heap.size, 5, none⟩ = some (.string v) := (HK3.out.later hb4).c5
          have AD := hid (add_is (k := k) (v := ⟨s, d, v⟩) (HI.out.sto.later (Below.on HB3.out hb4)) HOV.out HCN.out)
          have HB4 := hid (Below.on HB3.out hb4)
          clear hb4 HK3
          go_wp2_with (go_at_call 17; refine AD.out.mono ?_; rintro e w5 ⟨⟨v0, rfl⟩, hF5⟩)
          go_roundg (n - (i + 1))
          case measure => omega
          case rel =>
            obtain ⟨F', hs5, hf5, ho5⟩ := hF5
            have hb5 : Below w.heap.size w w4 := Below.on HI.out.bl HB4.out
            exact ⟨i + 1, by omega, rfl, by go_num, F', ⟨by rw [HSN.out, loadM_snoc]; exact hs5, fun b hb => (hf5 b hb).elim (HI.out.low b) (fun h' => Nat.le_trans hb5.size h'), HOK.out, hb5.trans (ho5.below HI.out.low hb5.size)⟩⟩
        · obtain ⟨j, rfl⟩ : ∃ j, i = j + 1 := ⟨i - 1, by omega⟩
          obtain ⟨b', off', hab', dv⟩ := HA.out.1.later HI.out.bl j (by have := HLT.out; omega)
          injection hab' with hab'; injection hab' with e1' e2'
          subst e1' e2'
          obtain ⟨e0, he0⟩ : ∃ e0, e0 = nthK l j := ⟨_, rfl⟩
          rw [← he0] at dv
          have hS2 : ldS l (j + 1) = if j + 1 = 0 ∨ folB e0 (k, ⟨s, d, v⟩) = true then 0 else 91 := by rw [he0]; exact HS.out
          obtain ⟨u, hu⟩ : ∃ u, folB e0 (k, ⟨s, d, v⟩) = u := ⟨_, rfl⟩
          rw [hu] at hS2
          have HS2 := hid hS2
          have FO := hid (fun W => follows_is hu W)
          clear he0 hu hS2 HS hi0
          obtain ⟨k', s', d', v'⟩ := e0
          simp only at FO dv
          have dv3 := dv.later HB3.out
          have r0 := cell_regrown dv3.c0; have r1 := cell_regrown dv3.c1; have r2 := cell_regrown dv3.c2; have r3 := cell_regrown dv3.c3; have r4 := cell_regrown dv3.c4; have r5 := cell_regrown dv3.c5
          have z0 : w3.cell? ⟨wr.heap.size, 0, none⟩ = some (.string k) := HK3.out.c0
          have z1 : w3.cell? ⟨wr.heap.size, 1, none⟩ = some (.int .u64 s.a) := HK3.out.c1
          have z2 : w3.cell? ⟨wr.heap.size, 2, none⟩ = some (.int .u32 s.b) := HK3.out.c2
          have z3 : w3.cell? ⟨wr.heap.size, 3, none⟩ = some (.int .u32 s.c) := HK3.out.c3
          have z4 : w3.cell? ⟨wr.heap.size, 4, none⟩ = some (.bool d) := HK3.out.c4
          have z5 : w3.cell? ⟨wr.heap.size, 5, none⟩ = some (.string v) := HK3.out.c5
          have y0 := cell_regrown z0; have y1 := cell_regrown z1; have y2 := cell_regrown z2; have y3 := cell_regrown z3; have y4 := cell_regrown z4; have y5 := cell_regrown z5
          have q1 : IntKind.i64.wrap (j : Int) = (j : Int) := by rw [IntKind.wrap_i64]; omega
          have g0 : decide (0 < ((j + 1 : Nat) : Int)) = true := decide_eq_true (by omega)
          have g0' : decide (0 < j + 1) = true := decide_eq_true (by omega)
          clear dv dv3
          cases u with
          | true =>
            have HS0 : Hid (ldS l (j + 1) = 0) := by show _ = _; rw [HS2.out, if_pos (.inr rfl)]
            have HOK : Hid (ldF l ((j + 1) + 1) = 0) := by show _ = _; rw [ldF, if_pos HI.out.ok, HS0.out]
            have hsr := ld_sorted ((j + 1) + 1) (by have := HLT.out; omega) HOK.out
            rw [HSN.out] at hsr
            have HOV : Hid (Over (loadM (l.take (j + 1))) k s) := load_over (e := (k, ⟨s, d, v⟩)) hsr
            have HCN : Hid ((countM (loadM (l.take (j + 1))) + 1) * 64 ≤ 140737488355328) := by
              show _ ≤ _
              rw [load_count (List.pairwise_append.1 hsr).1, List.length_take]
              have h1 := HL.out
              have h2 := HA.out.2.2
              omega
            clear hsr
            clear HS2
            go_wp2_with fail
            refine wp_region_quiet_below (by kernel_rfl) (by kernel_rfl) ?_
            repeat (go_big_quiet_step ((go_at_call 65; exact Calls.regrown_of (FO.out _))))
            refine wpQuiet_nil ?_
            intro w4 hb4
            replace hb4 := below_of_regrown hb4
            clear r0 r1 r2 r3 r4 r5 y0 y1 y2 y3 y4 y5 z0 z1 z2 z3 z4 z5 q1
            have q0 : w4.cell? ⟨wr.heap.size, 0, none⟩ = some (.string k) := (HK3.out.later hb4).c0
            have q1 : w4.cell? ⟨wr.heap.size, 1, none⟩ = some (.int .u64 s.a) := (HK3.out.later hb4).c1
            have q2 : w4.cell? ⟨wr.heap.size, 2, none⟩ = some (.int .u32 s.b) := (HK3.out.later hb4).c2
            have q3 : w4.cell? ⟨wr.heap.size, 3, none⟩ = some (.int .u32 s.c) := (HK3.out.later hb4).c3
            have q4 : w4.cell? ⟨wr.heap.size, 4, none⟩ = some (.bool d) := (HK3.out.later hb4).c4
            have q5 : w4.cell? ⟨wr.heap.size, 5, none⟩ = some (.string v) := (HK3.out.later hb4).c5
            have AD := hid (add_is (k := k) (v := ⟨s, d, v⟩) (HI.out.sto.later (Below.on HB3.out hb4)) HOV.out HCN.out)
            have HB4 := hid (Below.on HB3.out hb4)
            clear hb4 HK3
            go_wp2_with (go_at_call 17; refine AD.out.mono ?_; rintro e w5 ⟨⟨v0, rfl⟩, hF5⟩)
            go_roundg (n - ((j + 1) + 1))
            case measure => omega
            case rel =>
              obtain ⟨F', hs5, hf5, ho5⟩ := hF5
              have hb5 : Below w.heap.size w w4 := Below.on HI.out.bl HB4.out
              exact ⟨(j + 1) + 1, by omega, rfl, by go_num, F', ⟨by rw [HSN.out, loadM_snoc]; exact hs5, fun b hb => (hf5 b hb).elim (HI.out.low b) (fun h' => Nat.le_trans hb5.size h'), HOK.out, hb5.trans (ho5.below HI.out.low hb5.size)⟩⟩
          | false =>
            have HE : Hid (ldE l = 91) := by
              have h91 : ldS l (j + 1) = 91 := by rw [HS2.out, if_neg (by simp)]
              show _ = _
              rw [ld_last HI.out.ok (by rw [h91]; decide) HLT.out, h91]
            go_wp2_with fail
            refine wp_region_quiet_below (by kernel_rfl) (by kernel_rfl) ?_
            repeat (go_big_quiet_step ((go_at_call 65; exact Calls.regrown_of (FO.out _))))
            refine wpQuiet_nil ?_
            intro w4 hb4
            replace hb4 := below_of_regrown hb4
            go_wp2_with fail
            refine bodyPost_ret (v := .tuple #[.pointer none, .int .i64 91]) (by simp [results, Tryd.results39, go_sem]) rfl ⟨.inr ⟨by rw [HE.out]; decide, by rw [HE.out]⟩, Below.on HI.out.bl (Below.on HB3.out hb4)⟩
    · obtain rfl : i = n := by omega
      have HE : Hid (ldE l = 0 ∧ l.take i = l) := ⟨by have := HI.out.ok; rw [HA.out.2.2] at this; exact this, by rw [HA.out.2.2, List.take_of_length_le (Nat.le_refl _)]⟩
      go_wp2_with fail
      have HS := HI.out.sto
      rw [HE.out.2] at HS
      refine bodyPost_ret (v := .tuple #[pt p, .int .i64 0]) (by simp [results, Tryd.results39, go_sem]) rfl ⟨.inl ⟨HE.out.1, p, F, rfl, HS, HI.out.low⟩, HI.out.bl⟩
end Go.Proofs.YtmlacdfdpdkdaaaDoor.Vs
/- The document's Load. -/
namespace Go.Proofs.YtmlacdfdpdkdaaaDoor.Vs
open Go.RowKit Go.Sort
set_option linter.unusedVariables false

/-- what Load answers -/
def RlP (w : World) (l : List Kv) (t : Sp) (e : Ending) (w' : World) : Prop := Below w.heap.size w w' ∧ ((ldE l = 0 ∧ ∃ r v, e = .returned (.tuple #[pt r, .int .i64 0]) ∧ w.heap.size ≤ r ∧ Rs w' w.heap.size r v l t) ∨ (ldE l ≠ 0 ∧ e = .returned (.tuple #[.pointer none, .int .i64 (ldE l)])))
/-- while it goes on -/
structure Lv (w1 wr : World) (r : Nat) (v : Value) (l : List Kv) (t : Sp) (i : Nat) : Prop where
  rs : Rs wr r r v (l.take i) t
  ok : ldF l i = 0
  bel : Below r w1 wr
theorem Lv.on {w1 w5 w' : World} {r : Nat} {v : Value} {l : List Kv} {t : Sp} {i : Nat} (h : Lv w1 w5 r v l t i) (hr : r < w1.heap.size) (hb : Below w5.heap.size w5 w') : Lv w1 w' r v l t i :=
  ⟨h.rs.later hb, h.ok, h.bel.trans (hb.mono (by have := h.bel.size; omega))⟩
theorem Lv.push {w1 wa w3 : World} {r g cap : Nat} {v : Value} {l : List Kv} {t : Sp} {i : Nat} (h : Lv w1 wa r v l t i) (hr : r < w1.heap.size) (hi : i < l.length) (hs : ldS l i = 0) (hown : w3.ownsRow r 76 6 (.slice (some ⟨g, 0, none⟩) (i + 1) cap) (i + 1) (flatK (l.take i) ++ flatK [nthK l i])) (hg : wa.grownBy w3 v.ownBlock) (hat : v.ownBlock = some g ∨ g = wa.heap.size) :
    Lv w1 (w3.setCell ⟨r, 0, none⟩ (.slice (some ⟨g, 0, none⟩) (i + 1) cap)) r (.slice (some ⟨g, 0, none⟩) (i + 1) cap) l t (i + 1) := by
  have hgr : g ≠ r := by
    rcases hat with h1 | h1
    · exact fun e => h.rs.ne (by rw [h1, e])
    · have := h.rs.lt; omega
  have hb3 : w3.heap[r]? = some (.cells #[v, .int .u64 t.a, .int .u32 t.b, .int .u32 t.c] 83 (0, 0)) := (hg.block r h.rs.lt (fun e => h.rs.ne e.symm)).trans h.rs.blk
  have hown' : OwnV w3 r (.slice (some ⟨g, 0, none⟩) (i + 1) cap) (l.take (i + 1)) := by
    have hlen : (l.take (i + 1)).length = i + 1 := by rw [List.length_take]; omega
    unfold OwnV
    rw [hlen, nthK_take hi, flatK_append]
    exact hown
  refine ⟨⟨?_, hown'.onl (F := fun k => k = r) (Onl.set (F := fun k => k = r) (Onl.refl _ _) rfl _ _) fun k hk e => ?_, fun e => ?_⟩, by rw [ldF, if_pos h.ok]; exact hs, ?_⟩
  · rw [setCell_eq]; simp [mapBlock, Array.getElem?_modify, hb3, onCells]
  · have : g = k := by simpa [Value.ownBlock] using hk
    exact hgr (this.trans e)
  · have : g = r := by simpa [Value.ownBlock] using e
    exact hgr this
  · refine Below.setCell (h.bel.trans ((grown_onl hg).below (fun k e => (World.ownsRow.lt h.rs.row k e).1) (by have := h.bel.size; omega))) (p := ⟨r, 0, none⟩) (Nat.le_refl _) _
set_option maxRecDepth 16000 in
set_option maxHeartbeats 4000000 in
theorem rload_is {w : World} {a : Option Addr} {c : Nat} {l : List Kv} (h : RowV w a l) (hl : l.length ≤ 1099511627776) (t : Sp) (hst : ∀ e ∈ l, e.2.s.a ≤ 18446744073709551615) :
    Calls Tryd.prog 40 #[.slice a l.length c, sv t] w (RlP w l t) := by
  obtain ⟨r, hr⟩ : ∃ r, r = w.heap.size + 1 := ⟨_, rfl⟩
  obtain ⟨w1, hw1⟩ : ∃ w1, w1 = (w.alloc (.cells #[.int .u64 t.a, .int .u32 t.b, .int .u32 t.c] 33)).alloc (.cells #[.slice none 0 0, .int .u64 t.a, .int .u32 t.b, .int .u32 t.c] 83) := ⟨_, rfl⟩
  have hb1 : Below w.heap.size w w1 := by rw [hw1]; (repeat (first | with_reducible exact Below.refl _ _ | with_reducible assumption | with_reducible refine Below.drew ?_ | with_reducible refine Below.al ?_ _ | with_reducible refine Below.setCell ?_ (by first | exact Nat.le_refl _ | (simp; omega) | (simp; done)) _ | with_reducible refine Below.on ?_ (by assumption)))
  have HR0 : Hid (Lv w1 w1 r (.slice none 0 0) l t 0) := hid ⟨⟨by
      have := World.alloc_heap_new (w.alloc (.cells #[.int .u64 t.a, .int .u32 t.b, .int .u32 t.c] 33)) (.cells #[.slice none 0 0, .int .u64 t.a, .int .u32 t.b, .int .u32 t.c] 83)
      rw [World.size_alloc] at this
      rw [hw1, hr]; exact this, by rw [List.take_zero]; exact OwnV.nil _ _, by simp [Value.ownBlock]⟩, rfl, Below.refl _ _⟩
  have HROW := hid (h.later hb1)
  have HB1 := hid hb1
  have HRR := hid hr
  have HRS : Hid (w.heap.size < r ∧ r < w1.heap.size) := hid (by rw [hw1, hr]; simp)
  have HRW : Hid (∀ b off, a = some ⟨b, off, none⟩ → 0 < l.length → b < r) := hid (fun b off e h0 => by
    obtain ⟨b', off', e', hv⟩ := h 0 h0
    rw [e] at e'
    injection e' with e'; injection e' with e1 _
    have := World.block_lt_of_cell? _ _ hv.c0
    simp only at this
    omega)
  have HST := hid hst
  obtain ⟨n, hn⟩ : ∃ n, n = l.length := ⟨_, rfl⟩
  have HN := hid hn
  have hn2 : n ≤ 1099511627776 := by omega
  obtain ⟨i0, hi0, hz0, hz1, hz2⟩ := info_ofV infoVr
  rw [← hn]
  clear h hb1 hn hl hst
  go_enter Tryd.func40, Tryd.ntmps40
  go_wp2_with fail
  rw [← hw1, ← hr]
  clear hw1 hr
  go_loopg [7] n (fun g s7 wr => ∃ i : Nat, ∃ v, i ≤ n ∧ g = n - i ∧ s7 = .int .i64 i ∧ Hid (Lv w1 wr r v l t i))
  case atStart => exact ⟨0, .slice none 0 0, by omega, by omega, rfl, HR0⟩
  case round =>
    obtain ⟨i, v, hi, rfl, rfl, HL⟩ := hrel
    by_cases hlt : i < n
    · have hil : i < l.length := by rw [← HN.out]; exact hlt
      obtain ⟨b, off, rfl, hv0⟩ := HROW.out i hil
      have hbr := HRW.out b off rfl (by omega)
      have hrow := fun (wz : World) (hb : Below r w1 wz) (j : Nat) (hj : j < l.length) => (show VerAt wz b (off + j * 6) (nthK l j).1 (nthK l j).2 from by
        obtain ⟨b', off', e', hv⟩ := HROW.out j hj
        injection e' with e'; injection e' with e1 e2
        subst e1 e2
        have ho : Onl (fun k => ¬ k < r) w1 wz := ⟨hb.os, hb.tape, hb.output, hb.size, fun k hk hn => hb.block k (by omega)⟩
        exact hv.onl ho (by omega))
      have hv := hrow wr HL.out.bel i hil
      have HTS := hid (HST.out _ (nthK_mem hil))
      have HLD : Hid (ldS l i = if okV (nthK l i) then (if i = 0 ∨ folB (nthK l (i - 1)) (nthK l i) = true then 0 else 91) else 1) := hid rfl
      have HLF : Hid (ldF l (i + 1) = ldS l i) := hid (by rw [ldF, if_pos HL.out.ok])
      have HLL : Hid (ldS l i ≠ 0 → ldE l = ldS l i) := hid fun h => ld_last HL.out.ok h hil
      have HPV : Hid (0 < i → VerAt wr b (off + (i - 1) * 6) (nthK l (i - 1)).1 (nthK l (i - 1)).2) := hid fun h0 => hrow wr HL.out.bel (i - 1) (by omega)
      have HTK := hid (nthK_take hil)
      obtain ⟨⟨pk, ps, pd, pv⟩, hp⟩ : ∃ p, p = nthK l (i - 1) := ⟨_, rfl⟩
      obtain ⟨⟨xk, xs, xd, xv⟩, hx⟩ : ∃ x, x = nthK l i := ⟨_, rfl⟩
      have HXE := hid hx
      rw [← hx] at hv HTS HLD HTK
      rw [← hp] at HLD HPV
      simp only at HTS HPV
      clear hp hx hv0 hrow hil
      obtain ⟨c0, c1, c2, c3, c4, c5⟩ := hv
      simp only at c0 c1 c2 c3 c4 c5
      obtain ⟨u1, h1⟩ : ∃ u, (!emS xk && decide (xk.size ≤ 32)) = u := ⟨_, rfl⟩
      have K1 := hid fun wz => rkey_is h1 wz
      obtain ⟨u3, h3⟩ : ∃ u, emS xv = u := ⟨_, rfl⟩
      have hv3 : xv.toList.isEmpty = u3 := h3
      have hv3' : (xv.toList = []) = (u3 = true) := by rw [← h3]; simp [emS]
      have HW : Hid (okV (xk, ⟨xs, xd, xv⟩) = (decide (xs.a < 18446744073709551615) && (u1 && decide (xv.size ≤ 64) && (!xd || u3)))) := hid (by unfold okV wOk; simp only; rw [h1, h3])
      clear h1 h3
      by_cases htop : xs.a = 18446744073709551615
      · have hq : (xs.a == 18446744073709551615) = true := by simp [htop]
        have HS1 : Hid (ldS l i = 1) := hid (by rw [HLD.out, HW.out, decide_eq_false (by omega)]; rfl)
        clear htop
        cases u1 <;> cases xd <;> cases u3
        all_goals
          by_cases h64 : xv.size ≤ 64
          · have h64' : ¬ (64 : Int) < (xv.size : Int) := by omega
            go_wp2_with (go_at_call 66; refine (K1.out _).mono ?_; rintro e w1' ⟨rfl, rfl⟩)
            go_ret2
            have e : ldE l = 1 := by rw [HLL.out (by rw [HS1.out]; decide), HS1.out]
            exact ⟨Below.al (HB1.out.trans (HL.out.bel.mono (by have := HRS.out.1; omega))) _, .inr ⟨by rw [e]; decide, by rw [e]; rfl⟩⟩
          · have h64' : (64 : Int) < (xv.size : Int) := by omega
            go_wp2_with (go_at_call 66; refine (K1.out _).mono ?_; rintro e w1' ⟨rfl, rfl⟩)
            go_ret2
            have e : ldE l = 1 := by rw [HLL.out (by rw [HS1.out]; decide), HS1.out]
            exact ⟨Below.al (HB1.out.trans (HL.out.bel.mono (by have := HRS.out.1; omega))) _, .inr ⟨by rw [e]; decide, by rw [e]; rfl⟩⟩
      · have hq : (xs.a == 18446744073709551615) = false := by simp [htop]
        have htop' : xs.a < 18446744073709551615 := by have := HTS.out; omega
        clear htop
        cases u1
        · have HS1 : Hid (ldS l i = 1) := hid (by rw [HLD.out, HW.out]; simp)
          go_wp2_with (go_at_call 66; refine (K1.out _).mono ?_; rintro e w1' ⟨rfl, rfl⟩)
          go_ret2
          have e : ldE l = 1 := by rw [HLL.out (by rw [HS1.out]; decide), HS1.out]
          exact ⟨Below.al (HB1.out.trans (HL.out.bel.mono (by have := HRS.out.1; omega))) _, .inr ⟨by rw [e]; decide, by rw [e]; rfl⟩⟩
        · by_cases h64 : xv.size ≤ 64
          · have h64' : ¬ (64 : Int) < (xv.size : Int) := by omega
            cases xd
            · have HOKV : Hid (okV (xk, ⟨xs, _, xv⟩) = true) := hid (by rw [HW.out]; simp [h64, htop'])
              by_cases hk0 : i = 0
              · subst hk0
                simp only [Nat.zero_mul, Nat.add_zero] at c0 c1 c2 c3 c4 c5
                have HS0 : Hid (ldS l 0 = 0) := hid (by rw [HLD.out, HOKV.out]; simp)
                clear HPV
                go_wp2_with (go_at_call 66; refine (K1.out _).mono ?_; rintro e w1' ⟨rfl, rfl⟩)
                refine wp_region_quiet_below (by kernel_rfl) (by kernel_rfl) ?_
                repeat (go_big_quiet_step (fail))
                refine wpQuiet_nil ?_
                intro w5 hw5
                replace hw5 := below_of_regrown hw5
                have HLW := hid (HL.out.on HRS.out.2 (Below.on (Below.al (Below.refl _ _) _) hw5 : Below wr.heap.size wr w5))
                obtain ⟨va, vc, hva⟩ := HLW.out.rs.row.slice
                have hlen : (l.take 0).length = 0 := by rw [List.length_take, ← HN.out]; omega
                rw [hlen] at hva
                subst hva
                have z0 := HLW.out.rs.c0
                have zf := HLW.out.rs.loose
                obtain ⟨q0, q1, q2, q3, q4, q5⟩ := (ver_cells wr xk ⟨xs, false, xv⟩).later hw5
                simp only [Nat.zero_add] at q0 q1 q2 q3 q4 q5
                have z1 : (w5.alloc (.cells #[.string xk, .int .u64 xs.a, .int .u32 xs.b, .int .u32 xs.c, .bool false, .string xv] 76)).cell? ⟨r, 0, none⟩ = some (.slice va 0 vc) := cell_later (Below.al (Below.refl _ _) _) z0
                obtain ⟨wa, hwa⟩ : ∃ wa, wa = (w5.alloc (.cells #[.string xk, .int .u64 xs.a, .int .u32 xs.b, .int .u32 xs.c, .bool false, .string xv] 76)).drew := ⟨_, rfl⟩
                have hba : Below w5.heap.size w5 wa := by rw [hwa]; (repeat (first | with_reducible exact Below.refl _ _ | with_reducible assumption | with_reducible refine Below.drew ?_ | with_reducible refine Below.al ?_ _ | with_reducible refine Below.setCell ?_ (by first | exact Nat.le_refl _ | (simp; omega) | (simp; done)) _ | with_reducible refine Below.on ?_ (by assumption)))
                have HLA := hid (HLW.out.on HRS.out.2 hba)
                have HWA := hid hwa
                have HOW : Hid (wa.ownsRow r 76 6 (.slice va 0 vc) 0 (flatK (l.take 0))) := hid (by have := HLA.out.rs.row; unfold OwnV at this; rw [hlen] at this; exact this)
                have n1 : Hid (∀ j u, (flatK [(xk, (⟨xs, false, xv⟩ : Ver))])[j]? = some u → wa.cell? ((⟨w5.heap.size, 0, none⟩ : Addr).add j) = some u) := hid (fun j u hj => by
                  rw [Addr.add_lit, Nat.zero_add, hwa]
                  show (w5.alloc _).cell? _ = _
                  rw [World.cell?_alloc_new]
                  simpa [flatK] using hj)
                have n2 : Hid (∀ u ∈ flatK [(xk, (⟨xs, false, xv⟩ : Ver))], u.oneCell' = true) := hid (flatK_one _)
                have n3 : Hid (0 + 1 ≤ maxLen) := by show _ ≤ _; unfold maxLen; omega
                have n4 : Hid ((0 + 1) * 56 ≤ 140737488355328) := by show _ ≤ _; omega
                have n5 : Hid (r ≤ wa.heap.size) := hid (Nat.le_of_lt (HLA.out.rs.lt))
                have ZC := hid HLA.out.rs.c0
                have ZF := hid HLA.out.rs.loose
                have ZN := hid HLA.out.rs.ne
                have ZL := hid HLA.out.rs.lt
                clear hw5 hwa hba hlen
                go_wp2_with fail
                go_region_law ((rw [← HWA.out]; refine step_append_lies _ (by rfl) _ _ 56 (by rfl) r 76 i0 (vv ⟨#[]⟩ ⟨⟨0, 0, 0⟩, false, ⟨#[]⟩⟩) 6 56 Tryd.underlying56 hi0 hz0 hz1 hz2 rfl (by decide) (.slice va 0 vc) 0 (flatK (l.take 0)) (by simp [Act.eval]) HOW.out ⟨w5.heap.size, 0, none⟩ 1 1 (flatK [(xk, (⟨xs, false, xv⟩ : Ver))]) (by simp [Act.eval]) rfl n1.out n2.out (by decide) n3.out n4.out n5.out wa.heap.size rfl ?_; intro g cap w3 hown hgrow hat hlt3; have o1 := grown_onl hgrow; have k3 := o1.cell (fun e => ZN.out e) ZC.out; have kf : ∀ o, w3.frozen? ⟨r, o, none⟩ = false := (o1.loose (fun e => ZN.out e) ZL.out ZF.out); have HG := hid hgrow; have HOWN := hid hown; have HAT := hid hat; clear hown hgrow hat o1))
                all_goals (try go_wp2_with fail)
                all_goals (go_roundg (n - (0 + 1)); (case measure => omega); (case rel => exact ⟨0 + 1, _, by omega, rfl, by go_num, hid (HLA.out.push HRS.out.2 (by rw [← HN.out]; omega) HS0.out (by rw [← HXE.out]; exact HOWN.out) HG.out HAT.out)⟩))
              · have hi0' : 0 < i := by omega
                obtain ⟨uf, huf⟩ : ∃ uf, folB (pk, ⟨ps, pd, pv⟩) (xk, ⟨xs, false, xv⟩) = uf := ⟨_, rfl⟩
                have AF := hid fun wz => rafter_is (d := (pk, ⟨ps, pd, pv⟩)) (e := (xk, ⟨xs, false, xv⟩)) huf wz
                have HSS : Hid (ldS l i = if uf = true then 0 else 91) := hid (by rw [HLD.out, HOKV.out, huf]; simp [hk0])
                have hkI : (0 : Int) < (i : Int) := by omega
                have hkd : decide ((0 : Int) < (i : Int)) = true := decide_eq_true hkI
                have hkd2 : decide (0 < i) = true := decide_eq_true hi0'
                have hpv := HPV.out hi0'
                obtain ⟨j, hj⟩ : ∃ j, i - 1 = j := ⟨_, rfl⟩
                have hkj : (i : Int) - 1 = (j : Int) := by omega
                have hjn : j < n := by omega
                rw [hj] at hpv
                have HBA : Hid (Below wr.heap.size wr (wr.alloc (.cells #[.string xk, .int .u64 xs.a, .int .u32 xs.b, .int .u32 xs.c, .bool false, .string xv] 76))) := hid (Below.al (Below.refl _ _) _)
                have hpa := hpv.later HBA.out
                have m0 := cell_regrown hpa.c0
                have m1 := cell_regrown hpa.c1
                have m2 := cell_regrown hpa.c2
                have m3 := cell_regrown hpa.c3
                have m4 := cell_regrown hpa.c4
                have m5 := cell_regrown hpa.c5
                have hxa := ver_cells wr xk ⟨xs, false, xv⟩
                have y0 := cell_regrown hxa.c0
                have y1 := cell_regrown hxa.c1
                have y2 := cell_regrown hxa.c2
                have y3 := cell_regrown hxa.c3
                have y4 := cell_regrown hxa.c4
                have y5 := cell_regrown hxa.c5
                simp only [Nat.zero_add] at m0 m1 m2 m3 m4 m5 y0 y1 y2 y3 y4 y5
                clear hj hk0 huf hpv hpa hxa
                cases uf with
                | false =>
                  go_wp2_with (go_at_call 66; refine (K1.out _).mono ?_; rintro e w1' ⟨rfl, rfl⟩)
                  refine wp_region_quiet_below (by kernel_rfl) (by kernel_rfl) ?_
                  repeat (go_big_quiet_step ((go_at_call 67; exact Calls.regrown_of (AF.out _))))
                  refine wpQuiet_nil ?_
                  intro w5 hw5
                  replace hw5 := below_of_regrown hw5
                  clear m0 m1 m2 m3 m4 m5 y0 y1 y2 y3 y4 y5
                  go_wp2_with fail
                  go_ret2
                  have e1 : ldS l i = 91 := by rw [HSS.out]; rfl
                  have e : ldE l = 91 := by rw [HLL.out (by rw [e1]; decide), e1]
                  exact ⟨Below.on (Below.al (HB1.out.trans (HL.out.bel.mono (by have := HRS.out.1; omega))) _) hw5, .inr ⟨by rw [e]; decide, by rw [e]; rfl⟩⟩
                | true =>
                  have HS0 : Hid (ldS l i = 0) := hid (by rw [HSS.out]; rfl)
                  go_wp2_with (go_at_call 66; refine (K1.out _).mono ?_; rintro e w1' ⟨rfl, rfl⟩)
                  refine wp_region_quiet_below (by kernel_rfl) (by kernel_rfl) ?_
                  repeat (go_big_quiet_step ((go_at_call 67; exact Calls.regrown_of (AF.out _))))
                  refine wpQuiet_nil ?_
                  intro w5 hw5
                  replace hw5 := below_of_regrown hw5
                  clear m0 m1 m2 m3 m4 m5 y0 y1 y2 y3 y4 y5
                  have HLW := hid (HL.out.on HRS.out.2 (Below.on (Below.al (Below.refl _ _) _) hw5 : Below wr.heap.size wr w5))
                  obtain ⟨va, vc, hva⟩ := HLW.out.rs.row.slice
                  have hlen : (l.take i).length = i := by rw [List.length_take, ← HN.out]; omega
                  rw [hlen] at hva
                  subst hva
                  have z0 := HLW.out.rs.c0
                  have zf := HLW.out.rs.loose
                  obtain ⟨q0, q1, q2, q3, q4, q5⟩ := (ver_cells wr xk ⟨xs, false, xv⟩).later hw5
                  simp only [Nat.zero_add] at q0 q1 q2 q3 q4 q5
                  have z1 : (w5.alloc (.cells #[.string xk, .int .u64 xs.a, .int .u32 xs.b, .int .u32 xs.c, .bool false, .string xv] 76)).cell? ⟨r, 0, none⟩ = some (.slice va i vc) := cell_later (Below.al (Below.refl _ _) _) z0
                  obtain ⟨wa, hwa⟩ : ∃ wa, wa = (w5.alloc (.cells #[.string xk, .int .u64 xs.a, .int .u32 xs.b, .int .u32 xs.c, .bool false, .string xv] 76)).drew := ⟨_, rfl⟩
                  have hba : Below w5.heap.size w5 wa := by rw [hwa]; (repeat (first | with_reducible exact Below.refl _ _ | with_reducible assumption | with_reducible refine Below.drew ?_ | with_reducible refine Below.al ?_ _ | with_reducible refine Below.setCell ?_ (by first | exact Nat.le_refl _ | (simp; omega) | (simp; done)) _ | with_reducible refine Below.on ?_ (by assumption)))
                  have HLA := hid (HLW.out.on HRS.out.2 hba)
                  have HWA := hid hwa
                  have HOW : Hid (wa.ownsRow r 76 6 (.slice va i vc) i (flatK (l.take i))) := hid (by have := HLA.out.rs.row; unfold OwnV at this; rw [hlen] at this; exact this)
                  have n1 : Hid (∀ j u, (flatK [(xk, (⟨xs, false, xv⟩ : Ver))])[j]? = some u → wa.cell? ((⟨w5.heap.size, 0, none⟩ : Addr).add j) = some u) := hid (fun j u hj => by
                    rw [Addr.add_lit, Nat.zero_add, hwa]
                    show (w5.alloc _).cell? _ = _
                    rw [World.cell?_alloc_new]
                    simpa [flatK] using hj)
                  have n2 : Hid (∀ u ∈ flatK [(xk, (⟨xs, false, xv⟩ : Ver))], u.oneCell' = true) := hid (flatK_one _)
                  have n3 : Hid (i + 1 ≤ maxLen) := by show _ ≤ _; unfold maxLen; omega
                  have n4 : Hid ((i + 1) * 56 ≤ 140737488355328) := by show _ ≤ _; omega
                  have n5 : Hid (r ≤ wa.heap.size) := hid (Nat.le_of_lt (HLA.out.rs.lt))
                  have ZC := hid HLA.out.rs.c0
                  have ZF := hid HLA.out.rs.loose
                  have ZN := hid HLA.out.rs.ne
                  have ZL := hid HLA.out.rs.lt
                  clear hw5 hwa hba hlen
                  go_wp2_with fail
                  go_region_law ((rw [← HWA.out]; refine step_append_lies _ (by rfl) _ _ 56 (by rfl) r 76 i0 (vv ⟨#[]⟩ ⟨⟨0, 0, 0⟩, false, ⟨#[]⟩⟩) 6 56 Tryd.underlying56 hi0 hz0 hz1 hz2 rfl (by decide) (.slice va i vc) i (flatK (l.take i)) (by simp [Act.eval]) HOW.out ⟨w5.heap.size, 0, none⟩ 1 1 (flatK [(xk, (⟨xs, false, xv⟩ : Ver))]) (by simp [Act.eval]) rfl n1.out n2.out (by decide) n3.out n4.out n5.out wa.heap.size rfl ?_; intro g cap w3 hown hgrow hat hlt3; have o1 := grown_onl hgrow; have k3 := o1.cell (fun e => ZN.out e) ZC.out; have kf : ∀ o, w3.frozen? ⟨r, o, none⟩ = false := (o1.loose (fun e => ZN.out e) ZL.out ZF.out); have HG := hid hgrow; have HOWN := hid hown; have HAT := hid hat; clear hown hgrow hat o1))
                  all_goals (try go_wp2_with fail)
                  all_goals (go_roundg (n - (i + 1)); (case measure => omega); (case rel => exact ⟨i + 1, _, by omega, rfl, by go_num, hid (HLA.out.push HRS.out.2 (by rw [← HN.out]; omega) HS0.out (by rw [← HXE.out]; exact HOWN.out) HG.out HAT.out)⟩))
            · cases u3
              · have HS1 : Hid (ldS l i = 1) := hid (by rw [HLD.out, HW.out]; simp)
                go_wp2_with (go_at_call 66; refine (K1.out _).mono ?_; rintro e w1' ⟨rfl, rfl⟩)
                go_ret2
                have e : ldE l = 1 := by rw [HLL.out (by rw [HS1.out]; decide), HS1.out]
                exact ⟨Below.al (HB1.out.trans (HL.out.bel.mono (by have := HRS.out.1; omega))) _, .inr ⟨by rw [e]; decide, by rw [e]; rfl⟩⟩
              · have HOKV : Hid (okV (xk, ⟨xs, _, xv⟩) = true) := hid (by rw [HW.out]; simp [h64, htop'])
                by_cases hk0 : i = 0
                · subst hk0
                  simp only [Nat.zero_mul, Nat.add_zero] at c0 c1 c2 c3 c4 c5
                  have HS0 : Hid (ldS l 0 = 0) := hid (by rw [HLD.out, HOKV.out]; simp)
                  clear HPV
                  go_wp2_with (go_at_call 66; refine (K1.out _).mono ?_; rintro e w1' ⟨rfl, rfl⟩)
                  refine wp_region_quiet_below (by kernel_rfl) (by kernel_rfl) ?_
                  repeat (go_big_quiet_step (fail))
                  refine wpQuiet_nil ?_
                  intro w5 hw5
                  replace hw5 := below_of_regrown hw5
                  have HLW := hid (HL.out.on HRS.out.2 (Below.on (Below.al (Below.refl _ _) _) hw5 : Below wr.heap.size wr w5))
                  obtain ⟨va, vc, hva⟩ := HLW.out.rs.row.slice
                  have hlen : (l.take 0).length = 0 := by rw [List.length_take, ← HN.out]; omega
                  rw [hlen] at hva
                  subst hva
                  have z0 := HLW.out.rs.c0
                  have zf := HLW.out.rs.loose
                  obtain ⟨q0, q1, q2, q3, q4, q5⟩ := (ver_cells wr xk ⟨xs, true, xv⟩).later hw5
                  simp only [Nat.zero_add] at q0 q1 q2 q3 q4 q5
                  have z1 : (w5.alloc (.cells #[.string xk, .int .u64 xs.a, .int .u32 xs.b, .int .u32 xs.c, .bool true, .string xv] 76)).cell? ⟨r, 0, none⟩ = some (.slice va 0 vc) := cell_later (Below.al (Below.refl _ _) _) z0
                  obtain ⟨wa, hwa⟩ : ∃ wa, wa = (w5.alloc (.cells #[.string xk, .int .u64 xs.a, .int .u32 xs.b, .int .u32 xs.c, .bool true, .string xv] 76)).drew := ⟨_, rfl⟩
                  have hba : Below w5.heap.size w5 wa := by rw [hwa]; (repeat (first | with_reducible exact Below.refl _ _ | with_reducible assumption | with_reducible refine Below.drew ?_ | with_reducible refine Below.al ?_ _ | with_reducible refine Below.setCell ?_ (by first | exact Nat.le_refl _ | (simp; omega) | (simp; done)) _ | with_reducible refine Below.on ?_ (by assumption)))
                  have HLA := hid (HLW.out.on HRS.out.2 hba)
                  have HWA := hid hwa
                  have HOW : Hid (wa.ownsRow r 76 6 (.slice va 0 vc) 0 (flatK (l.take 0))) := hid (by have := HLA.out.rs.row; unfold OwnV at this; rw [hlen] at this; exact this)
                  have n1 : Hid (∀ j u, (flatK [(xk, (⟨xs, true, xv⟩ : Ver))])[j]? = some u → wa.cell? ((⟨w5.heap.size, 0, none⟩ : Addr).add j) = some u) := hid (fun j u hj => by
                    rw [Addr.add_lit, Nat.zero_add, hwa]
                    show (w5.alloc _).cell? _ = _
                    rw [World.cell?_alloc_new]
                    simpa [flatK] using hj)
                  have n2 : Hid (∀ u ∈ flatK [(xk, (⟨xs, true, xv⟩ : Ver))], u.oneCell' = true) := hid (flatK_one _)
                  have n3 : Hid (0 + 1 ≤ maxLen) := by show _ ≤ _; unfold maxLen; omega
                  have n4 : Hid ((0 + 1) * 56 ≤ 140737488355328) := by show _ ≤ _; omega
                  have n5 : Hid (r ≤ wa.heap.size) := hid (Nat.le_of_lt (HLA.out.rs.lt))
                  have ZC := hid HLA.out.rs.c0
                  have ZF := hid HLA.out.rs.loose
                  have ZN := hid HLA.out.rs.ne
                  have ZL := hid HLA.out.rs.lt
                  clear hw5 hwa hba hlen
                  go_wp2_with fail
                  go_region_law ((rw [← HWA.out]; refine step_append_lies _ (by rfl) _ _ 56 (by rfl) r 76 i0 (vv ⟨#[]⟩ ⟨⟨0, 0, 0⟩, false, ⟨#[]⟩⟩) 6 56 Tryd.underlying56 hi0 hz0 hz1 hz2 rfl (by decide) (.slice va 0 vc) 0 (flatK (l.take 0)) (by simp [Act.eval]) HOW.out ⟨w5.heap.size, 0, none⟩ 1 1 (flatK [(xk, (⟨xs, true, xv⟩ : Ver))]) (by simp [Act.eval]) rfl n1.out n2.out (by decide) n3.out n4.out n5.out wa.heap.size rfl ?_; intro g cap w3 hown hgrow hat hlt3; have o1 := grown_onl hgrow; have k3 := o1.cell (fun e => ZN.out e) ZC.out; have kf : ∀ o, w3.frozen? ⟨r, o, none⟩ = false := (o1.loose (fun e => ZN.out e) ZL.out ZF.out); have HG := hid hgrow; have HOWN := hid hown; have HAT := hid hat; clear hown hgrow hat o1))
                  all_goals (try go_wp2_with fail)
                  all_goals (go_roundg (n - (0 + 1)); (case measure => omega); (case rel => exact ⟨0 + 1, _, by omega, rfl, by go_num, hid (HLA.out.push HRS.out.2 (by rw [← HN.out]; omega) HS0.out (by rw [← HXE.out]; exact HOWN.out) HG.out HAT.out)⟩))
                · have hi0' : 0 < i := by omega
                  obtain ⟨uf, huf⟩ : ∃ uf, folB (pk, ⟨ps, pd, pv⟩) (xk, ⟨xs, true, xv⟩) = uf := ⟨_, rfl⟩
                  have AF := hid fun wz => rafter_is (d := (pk, ⟨ps, pd, pv⟩)) (e := (xk, ⟨xs, true, xv⟩)) huf wz
                  have HSS : Hid (ldS l i = if uf = true then 0 else 91) := hid (by rw [HLD.out, HOKV.out, huf]; simp [hk0])
                  have hkI : (0 : Int) < (i : Int) := by omega
                  have hkd : decide ((0 : Int) < (i : Int)) = true := decide_eq_true hkI
                  have hkd2 : decide (0 < i) = true := decide_eq_true hi0'
                  have hpv := HPV.out hi0'
                  obtain ⟨j, hj⟩ : ∃ j, i - 1 = j := ⟨_, rfl⟩
                  have hkj : (i : Int) - 1 = (j : Int) := by omega
                  have hjn : j < n := by omega
                  rw [hj] at hpv
                  have HBA : Hid (Below wr.heap.size wr (wr.alloc (.cells #[.string xk, .int .u64 xs.a, .int .u32 xs.b, .int .u32 xs.c, .bool true, .string xv] 76))) := hid (Below.al (Below.refl _ _) _)
                  have hpa := hpv.later HBA.out
                  have m0 := cell_regrown hpa.c0
                  have m1 := cell_regrown hpa.c1
                  have m2 := cell_regrown hpa.c2
                  have m3 := cell_regrown hpa.c3
                  have m4 := cell_regrown hpa.c4
                  have m5 := cell_regrown hpa.c5
                  have hxa := ver_cells wr xk ⟨xs, true, xv⟩
                  have y0 := cell_regrown hxa.c0
                  have y1 := cell_regrown hxa.c1
                  have y2 := cell_regrown hxa.c2
                  have y3 := cell_regrown hxa.c3
                  have y4 := cell_regrown hxa.c4
                  have y5 := cell_regrown hxa.c5
                  simp only [Nat.zero_add] at m0 m1 m2 m3 m4 m5 y0 y1 y2 y3 y4 y5
                  clear hj hk0 huf hpv hpa hxa
                  cases uf with
                  | false =>
                    go_wp2_with (go_at_call 66; refine (K1.out _).mono ?_; rintro e w1' ⟨rfl, rfl⟩)
                    refine wp_region_quiet_below (by kernel_rfl) (by kernel_rfl) ?_
                    repeat (go_big_quiet_step ((go_at_call 67; exact Calls.regrown_of (AF.out _))))
                    refine wpQuiet_nil ?_
                    intro w5 hw5
                    replace hw5 := below_of_regrown hw5
                    clear m0 m1 m2 m3 m4 m5 y0 y1 y2 y3 y4 y5
                    go_wp2_with fail
                    go_ret2
                    have e1 : ldS l i = 91 := by rw [HSS.out]; rfl
                    have e : ldE l = 91 := by rw [HLL.out (by rw [e1]; decide), e1]
                    exact ⟨Below.on (Below.al (HB1.out.trans (HL.out.bel.mono (by have := HRS.out.1; omega))) _) hw5, .inr ⟨by rw [e]; decide, by rw [e]; rfl⟩⟩
                  | true =>
                    have HS0 : Hid (ldS l i = 0) := hid (by rw [HSS.out]; rfl)
                    go_wp2_with (go_at_call 66; refine (K1.out _).mono ?_; rintro e w1' ⟨rfl, rfl⟩)
                    refine wp_region_quiet_below (by kernel_rfl) (by kernel_rfl) ?_
                    repeat (go_big_quiet_step ((go_at_call 67; exact Calls.regrown_of (AF.out _))))
                    refine wpQuiet_nil ?_
                    intro w5 hw5
                    replace hw5 := below_of_regrown hw5
                    clear m0 m1 m2 m3 m4 m5 y0 y1 y2 y3 y4 y5
                    have HLW := hid (HL.out.on HRS.out.2 (Below.on (Below.al (Below.refl _ _) _) hw5 : Below wr.heap.size wr w5))
                    obtain ⟨va, vc, hva⟩ := HLW.out.rs.row.slice
                    have hlen : (l.take i).length = i := by rw [List.length_take, ← HN.out]; omega
                    rw [hlen] at hva
                    subst hva
                    have z0 := HLW.out.rs.c0
                    have zf := HLW.out.rs.loose
                    obtain ⟨q0, q1, q2, q3, q4, q5⟩ := (ver_cells wr xk ⟨xs, true, xv⟩).later hw5
                    simp only [Nat.zero_add] at q0 q1 q2 q3 q4 q5
                    have z1 : (w5.alloc (.cells #[.string xk, .int .u64 xs.a, .int .u32 xs.b, .int .u32 xs.c, .bool true, .string xv] 76)).cell? ⟨r, 0, none⟩ = some (.slice va i vc) := cell_later (Below.al (Below.refl _ _) _) z0
                    obtain ⟨wa, hwa⟩ : ∃ wa, wa = (w5.alloc (.cells #[.string xk, .int .u64 xs.a, .int .u32 xs.b, .int .u32 xs.c, .bool true, .string xv] 76)).drew := ⟨_, rfl⟩
                    have hba : Below w5.heap.size w5 wa := by rw [hwa]; (repeat (first | with_reducible exact Below.refl _ _ | with_reducible assumption | with_reducible refine Below.drew ?_ | with_reducible refine Below.al ?_ _ | with_reducible refine Below.setCell ?_ (by first | exact Nat.le_refl _ | (simp; omega) | (simp; done)) _ | with_reducible refine Below.on ?_ (by assumption)))
                    have HLA := hid (HLW.out.on HRS.out.2 hba)
                    have HWA := hid hwa
                    have HOW : Hid (wa.ownsRow r 76 6 (.slice va i vc) i (flatK (l.take i))) := hid (by have := HLA.out.rs.row; unfold OwnV at this; rw [hlen] at this; exact this)
                    have n1 : Hid (∀ j u, (flatK [(xk, (⟨xs, true, xv⟩ : Ver))])[j]? = some u → wa.cell? ((⟨w5.heap.size, 0, none⟩ : Addr).add j) = some u) := hid (fun j u hj => by
                      rw [Addr.add_lit, Nat.zero_add, hwa]
                      show (w5.alloc _).cell? _ = _
                      rw [World.cell?_alloc_new]
                      simpa [flatK] using hj)
                    have n2 : Hid (∀ u ∈ flatK [(xk, (⟨xs, true, xv⟩ : Ver))], u.oneCell' = true) := hid (flatK_one _)
                    have n3 : Hid (i + 1 ≤ maxLen) := by show _ ≤ _; unfold maxLen; omega
                    have n4 : Hid ((i + 1) * 56 ≤ 140737488355328) := by show _ ≤ _; omega
                    have n5 : Hid (r ≤ wa.heap.size) := hid (Nat.le_of_lt (HLA.out.rs.lt))
                    have ZC := hid HLA.out.rs.c0
                    have ZF := hid HLA.out.rs.loose
                    have ZN := hid HLA.out.rs.ne
                    have ZL := hid HLA.out.rs.lt
                    clear hw5 hwa hba hlen
                    go_wp2_with fail
                    go_region_law ((rw [← HWA.out]; refine step_append_lies _ (by rfl) _ _ 56 (by rfl) r 76 i0 (vv ⟨#[]⟩ ⟨⟨0, 0, 0⟩, false, ⟨#[]⟩⟩) 6 56 Tryd.underlying56 hi0 hz0 hz1 hz2 rfl (by decide) (.slice va i vc) i (flatK (l.take i)) (by simp [Act.eval]) HOW.out ⟨w5.heap.size, 0, none⟩ 1 1 (flatK [(xk, (⟨xs, true, xv⟩ : Ver))]) (by simp [Act.eval]) rfl n1.out n2.out (by decide) n3.out n4.out n5.out wa.heap.size rfl ?_; intro g cap w3 hown hgrow hat hlt3; have o1 := grown_onl hgrow; have k3 := o1.cell (fun e => ZN.out e) ZC.out; have kf : ∀ o, w3.frozen? ⟨r, o, none⟩ = false := (o1.loose (fun e => ZN.out e) ZL.out ZF.out); have HG := hid hgrow; have HOWN := hid hown; have HAT := hid hat; clear hown hgrow hat o1))
                    all_goals (try go_wp2_with fail)
                    all_goals (go_roundg (n - (i + 1)); (case measure => omega); (case rel => exact ⟨i + 1, _, by omega, rfl, by go_num, hid (HLA.out.push HRS.out.2 (by rw [← HN.out]; omega) HS0.out (by rw [← HXE.out]; exact HOWN.out) HG.out HAT.out)⟩))
          · have h64' : (64 : Int) < (xv.size : Int) := by omega
            have HS1 : Hid (ldS l i = 1) := hid (by rw [HLD.out, HW.out]; simp [h64])
            go_wp2_with (go_at_call 66; refine (K1.out _).mono ?_; rintro e w1' ⟨rfl, rfl⟩)
            go_ret2
            have e : ldE l = 1 := by rw [HLL.out (by rw [HS1.out]; decide), HS1.out]
            exact ⟨Below.al (HB1.out.trans (HL.out.bel.mono (by have := HRS.out.1; omega))) _, .inr ⟨by rw [e]; decide, by rw [e]; rfl⟩⟩
    · obtain rfl : n = i := by omega
      go_wp2_with fail
      go_ret2
      have e : ldE l = 0 := by have := HL.out.ok; rw [HN.out] at this; exact this
      have hs := HL.out.rs
      rw [HN.out, List.take_length] at hs
      refine ⟨HB1.out.trans (HL.out.bel.mono (by have := HRS.out.1; omega)), .inl ⟨e, r, v, rfl, by have := HRS.out.1; omega, ⟨hs.blk, hs.row.base (by have := HRS.out.1; omega), hs.ne⟩⟩⟩
end Go.Proofs.YtmlacdfdpdkdaaaDoor.Vs
