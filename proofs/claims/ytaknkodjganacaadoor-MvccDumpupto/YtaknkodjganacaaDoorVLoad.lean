import Derived.Test.YtaknkodjganacaaDoorVDump
import Derived.Test.YtaknkodjganacaaDoorVInstall
import Derived.Test.YtaknkodjganacaaDoorVPruneP
/- Load, Watermark. -/
namespace Go.Proofs.YtaknkodjganacaaDoor.Vs
open Go.RowKit Go.Sort
set_option linter.unusedVariables false

theorem stand_is {e : Kv} {u : Bool} (hu : okV e = u) (w : World) :
    Calls Tryd.prog 43 #[vv e.1 e.2] w fun x w' => x = .returned (.bool u) ∧ Below w.heap.size w w' := by
  obtain ⟨k, t, d, v⟩ := e
  have hb0 : Below w.heap.size w (w.alloc (.cells (vcs k ⟨t, d, v⟩) 46)) := Below.al (Below.refl _ _) _
  have hv0 := ver_cells w k ⟨t, d, v⟩
  obtain ⟨w0, hw0⟩ : ∃ w0, w0 = w.alloc (.cells (vcs k ⟨t, d, v⟩) 46) := ⟨_, rfl⟩
  rw [← hw0] at hb0 hv0
  obtain ⟨d0, d1, d2, d3, d4, d5⟩ := hv0
  simp only [Nat.zero_add] at d0 d1 d2 d3 d4 d5
  obtain ⟨u1, h1⟩ : ∃ u1, decide (t.a < 18446744073709551615) = u1 := ⟨_, rfl⟩
  obtain ⟨u2, h2⟩ : ∃ u2, wOk ⟨k, d, v⟩ = u2 := ⟨_, rfl⟩
  have HQ : Hid (u = (u1 && u2)) := by show _ = _; rw [← hu, ← h1, ← h2]; rfl
  have U := hid (fun W => usable_at (t := t) h1 W)
  have V := hid (fun W => vwrite_is h2 W)
  have HB := hid hb0
  have HD : Hid (w0.cell? ⟨w.heap.size, 0, none⟩ = some (.string k) ∧ w0.cell? ⟨w.heap.size, 4, none⟩ = some (.bool d) ∧ w0.cell? ⟨w.heap.size, 5, none⟩ = some (.string v)) := ⟨d0, d4, d5⟩
  clear hu h1 h2 hb0 d0 d4 d5
  simp only at V
  go_enter Tryd.func43, Tryd.ntmps43
  go_wp2_with fail
  rw [← hw0]
  clear hw0
  cases u1 with
  | false =>
    go_wp2_with (go_at_call 29; refine (U.out _).mono ?_; rintro e w1 ⟨rfl, hb1⟩)
    go_ret
    exact ⟨ret_bool (by rw [HQ.out]; rfl), Below.on HB.out hb1⟩
  | true =>
    go_wp2_with (first
      | (go_at_call 29; refine (U.out _).mono ?_; rintro e w1 ⟨rfl, hb1⟩; have d0 := cell_later hb1 HD.out.1; have d4 := cell_later hb1 HD.out.2.1; have d5 := cell_later hb1 HD.out.2.2)
      | (go_at_call 45; refine (V.out _).mono ?_; rintro e w2 ⟨rfl, hb2⟩))
    go_ret
    exact ⟨ret_bool (by rw [HQ.out]; rfl), Below.on (Below.on HB.out hb1) hb2⟩
set_option maxHeartbeats 400000 in
theorem follows_is {d e : Kv} {u : Bool} (hu : folB d e = u) (w : World) :
    Calls Tryd.prog 44 #[vv d.1 d.2, vv e.1 e.2] w fun x w' => x = .returned (.bool u) ∧ Below w.heap.size w w' := by
  obtain ⟨k, t, dl, v⟩ := d
  obtain ⟨k', t', dl', v'⟩ := e
  by_cases hk : k = k'
  · subst hk
    have hl : t.lt t' = u := by unfold folB at hu; rw [if_pos rfl] at hu; exact hu
    have L := hid (fun W => less_is (show lessB t.a t.b t.c t'.a t'.b t'.c = u from hl) W)
    clear hu hl
    go_enter Tryd.func44, Tryd.ntmps44
    go_wp2_with (go_at_call 32; refine (L.out _).mono ?_; rintro e w1 ⟨rfl, hb1⟩)
    go_ret
    exact ⟨rfl, Below.on (by (repeat (first | exact Below.refl _ _ | assumption | refine Below.drew ?_ | refine Below.al ?_ _ | refine Below.setCell ?_ (by first | exact Nat.le_refl _ | (simp; omega) | (simp; done)) _ | refine Below.on ?_ (by assumption)))) hb1⟩
  · have q1 := toList_beq' (decide_eq_false hk)
    have hl : Op.bytesLess k.toList k'.toList = u := by unfold folB at hu; rw [if_neg hk] at hu; exact hu
    clear hu hk
    go_enter Tryd.func44, Tryd.ntmps44
    go_wp2_with fail
    go_ret
    exact ⟨rfl, by (repeat (first | exact Below.refl _ _ | assumption | refine Below.drew ?_ | refine Below.al ?_ _ | refine Below.setCell ?_ (by first | exact Nat.le_refl _ | (simp; omega) | (simp; done)) _ | refine Below.on ?_ (by assumption)))⟩
/-- what stands while Load goes on -/
structure LdI (w wr : World) (F : Nat → Prop) (p : Nat) (l : List Kv) (t : Sp) (i : Nat) : Prop where
  sto : Sto F wr p (loadM (l.take i)) t
  low : ∀ b, F b → w.heap.size ≤ b
  ok : ldF l i = 0
  bl : Below w.heap.size w wr
theorem StoG.marked0 {F : Nat → Prop} {w : World} {p : Nat} {M : Mst} {mk : Sp} (h : Sto F w p M mk) (t : Sp) : Sto F (((w.setCell ⟨p, 1, none⟩ (.int .u64 t.a)).setCell ⟨p, 2, none⟩ (.int .u32 t.b)).setCell ⟨p, 3, none⟩ (.int .u32 t.c)) p M t ∧
    Onl F w (((w.setCell ⟨p, 1, none⟩ (.int .u64 t.a)).setCell ⟨p, 2, none⟩ (.int .u32 t.b)).setCell ⟨p, 3, none⟩ (.int .u32 t.c)) := by
  obtain ⟨m, h, rfl⟩ := h
  obtain ⟨h1, h2, _⟩ := h.marked t
  simp only [Nat.zero_add] at h1 h2
  exact ⟨⟨m, h1, rfl⟩, h2.mono fun b e => by rw [e]; exact h.fp⟩
theorem StoG.loose {F : Nat → Prop} {w : World} {p o : Nat} {ty : TypeId} {M : Mst} {mk : Sp} (h : StoG F w p o ty M mk) : ∀ j, w.frozen? ⟨p, j, none⟩ = false := by
  obtain ⟨m, h, rfl⟩ := h
  exact fun j => Sto.loose h j
theorem StoG.cells0 {F : Nat → Prop} {w : World} {p : Nat} {M : Mst} {mk : Sp} (h : Sto F w p M mk) : (∃ v, w.cell? ⟨p, 1, none⟩ = some v) ∧ (∃ v, w.cell? ⟨p, 2, none⟩ = some v) ∧ (∃ v, w.cell? ⟨p, 3, none⟩ = some v) := by
  obtain ⟨m, h, rfl⟩ := h
  have c1 := Sto.c1 h
  have c2 := Sto.c2 h
  have c3 := Sto.c3 h
  simp only [Nat.zero_add] at c1 c2 c3
  exact ⟨⟨_, c1⟩, ⟨_, c2⟩, ⟨_, c3⟩⟩
/-- what Load answers -/
def LdPost (l : List Kv) (t : Sp) (w : World) (e : Ending) (w' : World) : Prop :=
  (ldE l = 0 ∧ ∃ p F, e = .returned (.tuple #[pt p, .int .i64 0]) ∧ Sto F w' p (loadM l) t ∧ ∀ b, F b → w.heap.size ≤ b) ∨ (ldE l ≠ 0 ∧ e = .returned (.tuple #[.pointer none, .int .i64 (ldE l)]))

set_option maxHeartbeats 2000000 in
set_option maxRecDepth 16000 in
theorem stoload_is {w : World} {a : Option Addr} {c : Nat} {l : List Kv} (t : Sp) (h : RowV w a l) (hl : (l.length + 1) * 64 ≤ 140737488355328) :
    Calls Tryd.prog 26 #[.slice a l.length c, sv t] w fun e w' => LdPost l t w e w' ∧ Below w.heap.size w w' := by
  obtain ⟨n, hn⟩ : ∃ n, n = l.length := ⟨_, rfl⟩
  obtain ⟨wx, hwx⟩ : ∃ wx, wx = w.alloc (.cells #[.int .u64 t.a, .int .u32 t.b, .int .u32 t.c] 26) := ⟨_, rfl⟩
  have hbx : Below w.heap.size w wx := by rw [hwx]; exact Below.al (Below.refl _ _) _
  have kx : wx.heap[w.heap.size]? = some (.cells #[.int .u64 t.a, .int .u32 t.b, .int .u32 t.c] 26 (0, 0)) := by rw [hwx]; exact World.alloc_heap_new _ _
  have HX : Hid (wx.cell? ⟨w.heap.size, 0, none⟩ = some (.int .u64 t.a) ∧ wx.cell? ⟨w.heap.size, 1, none⟩ = some (.int .u32 t.b) ∧ wx.cell? ⟨w.heap.size, 2, none⟩ = some (.int .u32 t.c)) := ⟨cell_of_obj kx rfl, cell_of_obj kx rfl, cell_of_obj kx rfl⟩
  have HA := hid (show RowV w a l ∧ Below w.heap.size w wx ∧ n = l.length from ⟨h, hbx, hn⟩)
  have NW := hid (stonew_is wx)
  rw [← hn] at hl ⊢
  have HL := hid hl
  clear h hbx kx hn
  go_enter Tryd.func26, Tryd.ntmps26
  go_wp2_with fail
  rw [← hwx]
  clear hwx
  go_wp2_with (go_at_call 17; refine NW.out.mono ?_; rintro e w1 ⟨p, F0, rfl, s1, f1, hb1⟩; have HS1 := hid s1; have HF1 := hid f1; have HB1 := hid hb1; have x0 := cell_later hb1 HX.out.1; have x1 := cell_later hb1 HX.out.2.1; have x2 := cell_later hb1 HX.out.2.2; have cf := StoG.loose s1; obtain ⟨⟨v1, y1⟩, ⟨v2, y2⟩, ⟨v3, y3⟩⟩ := s1.cells0; clear s1 f1 hb1)
  obtain ⟨w2, hw2⟩ : ∃ w2, w2 = ((w1.setCell ⟨p, 1, none⟩ (.int .u64 t.a)).setCell ⟨p, 2, none⟩ (.int .u32 t.b)).setCell ⟨p, 3, none⟩ (.int .u32 t.c) := ⟨_, rfl⟩
  have HI2 : Hid (LdI w w2 F0 p l t 0) := by
    obtain ⟨m1, m2⟩ := HS1.out.marked0 t
    rw [← hw2] at m1 m2
    have f0 : ∀ b, F0 b → w.heap.size ≤ b := fun b hb => Nat.le_trans HA.out.2.1.size (HF1.out b hb)
    have b1 : Below w.heap.size w w1 := Below.on HA.out.2.1 HB1.out
    exact ⟨m1, f0, rfl, b1.trans (m2.below f0 b1.size)⟩
  rw [← hw2]
  clear hw2 x0 x1 x2 cf y1 y2 y3 HS1 HF1 HB1 NW HX
  go_loopg [16] n (fun g s16 wr => ∃ i : Nat, i ≤ n ∧ g = n - i ∧ s16 = .int .i64 i ∧ ∃ F : Nat → Prop, Hid (LdI w wr F p l t i))
  case atStart => exact ⟨0, by omega, by omega, rfl, F0, HI2⟩
  case round =>
    obtain ⟨i, hin, rfl, rfl, F, HI⟩ := hrel
    clear HI2
    by_cases hlt : i < n
    · obtain ⟨b, off, hab, cv⟩ := HA.out.1.later HI.out.bl i (by rw [← HA.out.2.2]; exact hlt)
      obtain ⟨e, he⟩ : ∃ e, e = nthK l i := ⟨_, rfl⟩
      have hsn : l.take (i + 1) = l.take i ++ [e] := by rw [he]; exact nthK_take (by rw [← HA.out.2.2]; exact hlt)
      rw [← he] at cv
      obtain ⟨u, hu⟩ : ∃ u, okV e = u := ⟨_, rfl⟩
      have HSd : Hid (ldS l i = if u then (if i = 0 ∨ folB (nthK l (i - 1)) e = true then 0 else 91) else 1) := by show _ = _; unfold ldS; rw [← he, hu]
      have ST := hid (fun W => stand_is hu W)
      have HSN := hid hsn
      have HLT : Hid (i < l.length) := by show _ < _; rw [← HA.out.2.2]; exact hlt
      clear hu he hsn
      obtain ⟨k, s, d, v⟩ := e
      obtain ⟨wp, hwp⟩ : ∃ wp, wp = wr.alloc (.cells (vcs k ⟨s, d, v⟩) 46) := ⟨_, rfl⟩
      have hbp : Below wr.heap.size wr wp := by rw [hwp]; exact Below.al (Below.refl _ _) _
      have kp : VerAt wp wr.heap.size 0 k ⟨s, d, v⟩ := by rw [hwp]; exact ver_cells _ _ _
      obtain ⟨c0, c1, c2, c3, c4, c5⟩ := cv
      simp only at c0 c1 c2 c3 c4 c5
      subst hab
      have HBP := hid hbp
      have HKP := hid kp
      obtain ⟨p0, p1, p2, p3, p4, p5⟩ := kp
      simp only [Nat.zero_add] at p0 p1 p2 p3 p4 p5
      simp only at ST
      clear hbp
      cases u with
      | false =>
        have HE : Hid (ldE l = 1) := by
          have : ldS l i = 1 := HSd.out
          show _ = _
          rw [ld_last HI.out.ok (by rw [this]; decide) HLT.out, this]
        subst hwp
        go_wp2_with (go_at_call 43; refine (ST.out _).mono ?_; rintro e w3 ⟨rfl, hb3⟩)
        refine bodyPost_ret (v := .tuple #[.pointer none, .int .i64 1]) (by simp [results, Tryd.results26, go_sem]) rfl ⟨.inr ⟨by rw [HE.out]; decide, by rw [HE.out]⟩, Below.on HI.out.bl (Below.on HBP.out hb3)⟩
      | true =>
        have hS : ldS l i = if i = 0 ∨ folB (nthK l (i - 1)) (k, ⟨s, d, v⟩) = true then 0 else 91 := HSd.out
        have HS := hid hS
        clear hS HSd
        subst hwp
        go_wp2_with (go_at_call 43; refine (ST.out _).mono ?_; rintro e w3 ⟨rfl, hb3⟩; have HB3 := hid (Below.on HBP.out hb3); have HK3 := hid (HKP.out.later hb3); clear hb3)
        clear c0 c1 c2 c3 c4 c5 p0 p1 p2 p3 p4 p5
        by_cases hi0 : i = 0
        · have g0 : decide (0 < (i : Int)) = false := decide_eq_false (by omega)
          have g0' : decide (0 < i) = false := decide_eq_false (by omega)
          have HS0 : Hid (ldS l i = 0) := by show _ = _; rw [HS.out, if_pos (.inl hi0)]
          have HOK : Hid (ldF l (i + 1) = 0) := by show _ = _; rw [ldF, if_pos HI.out.ok, HS0.out]
          have hsr := ld_sorted (i + 1) (by have := HLT.out; omega) HOK.out
          rw [HSN.out] at hsr
          have HOV : Hid (Over (loadM (l.take i)) k s) := load_over (e := (k, ⟨s, d, v⟩)) hsr
          have HCN : Hid ((countM (loadM (l.take i)) + 1) * 64 ≤ 140737488355328) := by
            show _ ≤ _
            rw [load_count (List.pairwise_append.1 hsr).1, List.length_take]
            have h1 := HL.out
            have h2 := HA.out.2.2
            omega
          clear hsr
          clear hi0 HS
          go_wp2_with fail
          refine wp_region_quiet_below (by kernel_rfl) (by kernel_rfl) ?_
          repeat (go_big_quiet_step (fail))
          refine wpQuiet_nil ?_
          intro w4 hb4
          replace hb4 := below_of_regrown hb4
          have q0 : w4.cell? ⟨wr.heap.size, 0, none⟩ = some (.string k) := (HK3.out.later hb4).c0
          have q1 : w4.cell? ⟨wr.heap.size, 1, none⟩ = some (.int .u64 s.a) := (HK3.out.later hb4).c1
          have q2 : w4.cell? ⟨wr.heap.size, 2, none⟩ = some (.int .u32 s.b) := (HK3.out.later hb4).c2
          have q3 : w4.cell? ⟨wr.heap.size, 3, none⟩ = some (.int .u32 s.c) := (HK3.out.later hb4).c3
          have q4 : w4.cell? ⟨wr.heap.size, 4, none⟩ = some (.bool d) := (HK3.out.later hb4).c4
          have q5 : w4.cell? ⟨wr.heap.size, 5, none⟩ = some (.string v) := (HK3.out.later hb4).c5
          have AD := hid (add_is (k := k) (v := ⟨s, d, v⟩) (HI.out.sto.later (Below.on HB3.out hb4)) HOV.out HCN.out)
          have HB4 := hid (Below.on HB3.out hb4)
          clear hb4 HK3
          go_wp2_with (go_at_call 34; refine AD.out.mono ?_; rintro e w5 ⟨⟨v0, rfl⟩, hF5⟩)
          go_roundg (n - (i + 1))
          case measure => omega
          case rel =>
            obtain ⟨F', hs5, hf5, ho5⟩ := hF5
            have hb5 : Below w.heap.size w w4 := Below.on HI.out.bl HB4.out
            exact ⟨i + 1, by omega, rfl, by go_num, F', ⟨by rw [HSN.out, loadM_snoc]; exact hs5, fun b hb => (hf5 b hb).elim (HI.out.low b) (fun h' => Nat.le_trans hb5.size h'), HOK.out, hb5.trans (ho5.below HI.out.low hb5.size)⟩⟩
        · obtain ⟨j, rfl⟩ : ∃ j, i = j + 1 := ⟨i - 1, by omega⟩
          obtain ⟨b', off', hab', dv⟩ := HA.out.1.later HI.out.bl j (by have := HLT.out; omega)
          injection hab' with hab'; injection hab' with e1' e2'
          subst e1' e2'
          obtain ⟨e0, he0⟩ : ∃ e0, e0 = nthK l j := ⟨_, rfl⟩
          rw [← he0] at dv
          have hS2 : ldS l (j + 1) = if j + 1 = 0 ∨ folB e0 (k, ⟨s, d, v⟩) = true then 0 else 91 := by rw [he0]; exact HS.out
          obtain ⟨u, hu⟩ : ∃ u, folB e0 (k, ⟨s, d, v⟩) = u := ⟨_, rfl⟩
          rw [hu] at hS2
          have HS2 := hid hS2
          have FO := hid (fun W => follows_is hu W)
          clear he0 hu hS2 HS hi0
          obtain ⟨k', s', d', v'⟩ := e0
          simp only at FO dv
          have dv3 := dv.later HB3.out
          have r0 := cell_regrown dv3.c0; have r1 := cell_regrown dv3.c1; have r2 := cell_regrown dv3.c2; have r3 := cell_regrown dv3.c3; have r4 := cell_regrown dv3.c4; have r5 := cell_regrown dv3.c5
          have z0 : w3.cell? ⟨wr.heap.size, 0, none⟩ = some (.string k) := HK3.out.c0
          have z1 : w3.cell? ⟨wr.heap.size, 1, none⟩ = some (.int .u64 s.a) := HK3.out.c1
          have z2 : w3.cell? ⟨wr.heap.size, 2, none⟩ = some (.int .u32 s.b) := HK3.out.c2
          have z3 : w3.cell? ⟨wr.heap.size, 3, none⟩ = some (.int .u32 s.c) := HK3.out.c3
          have z4 : w3.cell? ⟨wr.heap.size, 4, none⟩ = some (.bool d) := HK3.out.c4
          have z5 : w3.cell? ⟨wr.heap.size, 5, none⟩ = some (.string v) := HK3.out.c5
          have y0 := cell_regrown z0; have y1 := cell_regrown z1; have y2 := cell_regrown z2; have y3 := cell_regrown z3; have y4 := cell_regrown z4; have y5 := cell_regrown z5
          have q1 : IntKind.i64.wrap (j : Int) = (j : Int) := by rw [IntKind.wrap_i64]; omega
          have g0 : decide (0 < ((j + 1 : Nat) : Int)) = true := decide_eq_true (by omega)
          have g0' : decide (0 < j + 1) = true := decide_eq_true (by omega)
          clear dv dv3
          cases u with
          | true =>
            have HS0 : Hid (ldS l (j + 1) = 0) := by show _ = _; rw [HS2.out, if_pos (.inr rfl)]
            have HOK : Hid (ldF l ((j + 1) + 1) = 0) := by show _ = _; rw [ldF, if_pos HI.out.ok, HS0.out]
            have hsr := ld_sorted ((j + 1) + 1) (by have := HLT.out; omega) HOK.out
            rw [HSN.out] at hsr
            have HOV : Hid (Over (loadM (l.take (j + 1))) k s) := load_over (e := (k, ⟨s, d, v⟩)) hsr
            have HCN : Hid ((countM (loadM (l.take (j + 1))) + 1) * 64 ≤ 140737488355328) := by
              show _ ≤ _
              rw [load_count (List.pairwise_append.1 hsr).1, List.length_take]
              have h1 := HL.out
              have h2 := HA.out.2.2
              omega
            clear hsr
            clear HS2
            go_wp2_with fail
            refine wp_region_quiet_below (by kernel_rfl) (by kernel_rfl) ?_
            repeat (go_big_quiet_step ((go_at_call 44; exact Calls.regrown_of (FO.out _))))
            refine wpQuiet_nil ?_
            intro w4 hb4
            replace hb4 := below_of_regrown hb4
            clear r0 r1 r2 r3 r4 r5 y0 y1 y2 y3 y4 y5 z0 z1 z2 z3 z4 z5 q1
            have q0 : w4.cell? ⟨wr.heap.size, 0, none⟩ = some (.string k) := (HK3.out.later hb4).c0
            have q1 : w4.cell? ⟨wr.heap.size, 1, none⟩ = some (.int .u64 s.a) := (HK3.out.later hb4).c1
            have q2 : w4.cell? ⟨wr.heap.size, 2, none⟩ = some (.int .u32 s.b) := (HK3.out.later hb4).c2
            have q3 : w4.cell? ⟨wr.heap.size, 3, none⟩ = some (.int .u32 s.c) := (HK3.out.later hb4).c3
            have q4 : w4.cell? ⟨wr.heap.size, 4, none⟩ = some (.bool d) := (HK3.out.later hb4).c4
            have q5 : w4.cell? ⟨wr.heap.size, 5, none⟩ = some (.string v) := (HK3.out.later hb4).c5
            have AD := hid (add_is (k := k) (v := ⟨s, d, v⟩) (HI.out.sto.later (Below.on HB3.out hb4)) HOV.out HCN.out)
            have HB4 := hid (Below.on HB3.out hb4)
            clear hb4 HK3
            go_wp2_with (go_at_call 34; refine AD.out.mono ?_; rintro e w5 ⟨⟨v0, rfl⟩, hF5⟩)
            go_roundg (n - ((j + 1) + 1))
            case measure => omega
            case rel =>
              obtain ⟨F', hs5, hf5, ho5⟩ := hF5
              have hb5 : Below w.heap.size w w4 := Below.on HI.out.bl HB4.out
              exact ⟨(j + 1) + 1, by omega, rfl, by go_num, F', ⟨by rw [HSN.out, loadM_snoc]; exact hs5, fun b hb => (hf5 b hb).elim (HI.out.low b) (fun h' => Nat.le_trans hb5.size h'), HOK.out, hb5.trans (ho5.below HI.out.low hb5.size)⟩⟩
          | false =>
            have HE : Hid (ldE l = 91) := by
              have h91 : ldS l (j + 1) = 91 := by rw [HS2.out, if_neg (by simp)]
              show _ = _
              rw [ld_last HI.out.ok (by rw [h91]; decide) HLT.out, h91]
            go_wp2_with fail
            refine wp_region_quiet_below (by kernel_rfl) (by kernel_rfl) ?_
            repeat (go_big_quiet_step ((go_at_call 44; exact Calls.regrown_of (FO.out _))))
            refine wpQuiet_nil ?_
            intro w4 hb4
            replace hb4 := below_of_regrown hb4
            go_wp2_with fail
            refine bodyPost_ret (v := .tuple #[.pointer none, .int .i64 91]) (by simp [results, Tryd.results26, go_sem]) rfl ⟨.inr ⟨by rw [HE.out]; decide, by rw [HE.out]⟩, Below.on HI.out.bl (Below.on HB3.out hb4)⟩
    · obtain rfl : i = n := by omega
      have HE : Hid (ldE l = 0 ∧ l.take i = l) := ⟨by have := HI.out.ok; rw [HA.out.2.2] at this; exact this, by rw [HA.out.2.2, List.take_of_length_le (Nat.le_refl _)]⟩
      go_wp2_with fail
      have HS := HI.out.sto
      rw [HE.out.2] at HS
      refine bodyPost_ret (v := .tuple #[pt p, .int .i64 0]) (by simp [results, Tryd.results26, go_sem]) rfl ⟨.inl ⟨HE.out.1, p, F, rfl, HS, HI.out.low⟩, HI.out.bl⟩
end Go.Proofs.YtaknkodjganacaaDoor.Vs
