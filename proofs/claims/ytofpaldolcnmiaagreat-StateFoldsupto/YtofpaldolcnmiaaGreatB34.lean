import Derived.Test.YtofpaldolcnmiaaGreatB18
import Derived.Test.YtofpaldolcnmiaaGreatB17
import Derived.Test.YtofpaldolcnmiaaGreatB21
import Derived.Test.YtofpaldolcnmiaaGreatB32
import Derived.Test.YtofpaldolcnmiaaGreatB20
import Derived.Test.YtofpaldolcnmiaaGreatB33
import Derived.Test.YtofpaldolcnmiaaGreatB23
import Derived.Test.YtofpaldolcnmiaaGreatB31
set_option linter.unusedVariables false
namespace Go.Proofs.YtofpaldolcnmiaaGreat.Vs
open Go.RowKit Go.Sort
theorem stand_is {e : Kv} {u : Bool} (hu : okV e = u) (w : World) :
    Calls Tryz.prog 208 #[vv e.1 e.2] w fun x w' => x = .returned (.bool u) ∧ Below w.heap.size w w' := by
  obtain ⟨k, t, d, v⟩ := e
  have hb0 : Below w.heap.size w (w.alloc (.cells (vcs k ⟨t, d, v⟩) 108)) := Below.al (Below.refl _ _) _
  have hv0 := ver_cells w k ⟨t, d, v⟩
  obtain ⟨w0, hw0⟩ : ∃ w0, w0 = w.alloc (.cells (vcs k ⟨t, d, v⟩) 108) := ⟨_, rfl⟩
  rw [← hw0] at hb0 hv0
  obtain ⟨d0, d1, d2, d3, d4, d5⟩ := hv0
  simp only [Nat.zero_add] at d0 d1 d2 d3 d4 d5
  obtain ⟨u1, h1⟩ : ∃ u1, decide (t.a < 18446744073709551615) = u1 := ⟨_, rfl⟩
  obtain ⟨u2, h2⟩ : ∃ u2, wOk ⟨k, d, v⟩ = u2 := ⟨_, rfl⟩
  have HQ : Hid (u = (u1 && u2)) := by show _ = _; rw [← hu, ← h1, ← h2]; rfl
  have U := hid (fun W => usable_at (t := t) h1 W)
  have V := hid (fun W => vwrite_is h2 W)
  have HB := hid hb0
  have HD : Hid (w0.cell? ⟨w.heap.size, 0, none⟩ = some (.string k) ∧ w0.cell? ⟨w.heap.size, 4, none⟩ = some (.bool d) ∧ w0.cell? ⟨w.heap.size, 5, none⟩ = some (.string v)) := ⟨d0, d4, d5⟩
  clear hu h1 h2 hb0 d0 d4 d5
  simp only at V
  go_enter Tryz.func208, Tryz.ntmps208
  go_wp2_with fail
  rw [← hw0]
  clear hw0
  cases u1 with
  | false =>
    go_wp2_with (go_at_call 125; refine (U.out _).mono ?_; rintro e w1 ⟨rfl, hb1⟩)
    go_ret
    exact ⟨ret_bool (by rw [HQ.out]; rfl), Below.on HB.out hb1⟩
  | true =>
    go_wp2_with (first
      | (go_at_call 125; refine (U.out _).mono ?_; rintro e w1 ⟨rfl, hb1⟩; have d0 := cell_later hb1 HD.out.1; have d4 := cell_later hb1 HD.out.2.1; have d5 := cell_later hb1 HD.out.2.2)
      | (go_at_call 234; refine (V.out _).mono ?_; rintro e w2 ⟨rfl, hb2⟩))
    go_ret
    exact ⟨ret_bool (by rw [HQ.out]; rfl), Below.on (Below.on HB.out hb1) hb2⟩
set_option maxHeartbeats 400000 in
theorem follows_is {d e : Kv} {u : Bool} (hu : folB d e = u) (w : World) :
    Calls Tryz.prog 209 #[vv d.1 d.2, vv e.1 e.2] w fun x w' => x = .returned (.bool u) ∧ Below w.heap.size w w' := by
  obtain ⟨k, t, dl, v⟩ := d
  obtain ⟨k', t', dl', v'⟩ := e
  by_cases hk : k = k'
  · subst hk
    have hl : t.lt t' = u := by unfold folB at hu; rw [if_pos rfl] at hu; exact hu
    have L := hid (fun W => less_is (show lessB t.a t.b t.c t'.a t'.b t'.c = u from hl) W)
    clear hu hl
    go_enter Tryz.func209, Tryz.ntmps209
    go_wp2_with (go_at_call 70; refine (L.out _).mono ?_; rintro e w1 ⟨rfl, hb1⟩)
    go_ret
    exact ⟨rfl, Below.on (by (repeat (first | exact Below.refl _ _ | assumption | refine Below.drew ?_ | refine Below.al ?_ _ | refine Below.setCell ?_ (by first | exact Nat.le_refl _ | (simp; omega) | (simp; done)) _ | refine Below.on ?_ (by assumption)))) hb1⟩
  · have q1 := toList_beq' (decide_eq_false hk)
    have hl : Op.bytesLess k.toList k'.toList = u := by unfold folB at hu; rw [if_neg hk] at hu; exact hu
    clear hu hk
    go_enter Tryz.func209, Tryz.ntmps209
    go_wp2_with fail
    go_ret
    exact ⟨rfl, by (repeat (first | exact Below.refl _ _ | assumption | refine Below.drew ?_ | refine Below.al ?_ _ | refine Below.setCell ?_ (by first | exact Nat.le_refl _ | (simp; omega) | (simp; done)) _ | refine Below.on ?_ (by assumption)))⟩
structure LdI (w wr : World) (F : Nat → Prop) (p : Nat) (l : List Kv) (t : Sp) (i : Nat) : Prop where
  sto : Sto F wr p (loadM (l.take i)) t
  low : ∀ b, F b → w.heap.size ≤ b
  ok : ldF l i = 0
  bl : Below w.heap.size w wr
theorem StoG.marked0 {F : Nat → Prop} {w : World} {p : Nat} {M : Mst} {mk : Sp} (h : Sto F w p M mk) (t : Sp) : Sto F (((w.setCell ⟨p, 1, none⟩ (.int .u64 t.a)).setCell ⟨p, 2, none⟩ (.int .u32 t.b)).setCell ⟨p, 3, none⟩ (.int .u32 t.c)) p M t ∧
    Onl F w (((w.setCell ⟨p, 1, none⟩ (.int .u64 t.a)).setCell ⟨p, 2, none⟩ (.int .u32 t.b)).setCell ⟨p, 3, none⟩ (.int .u32 t.c)) := by
  obtain ⟨m, h, rfl⟩ := h
  obtain ⟨h1, h2, _⟩ := h.marked t
  simp only [Nat.zero_add] at h1 h2
  exact ⟨⟨m, h1, rfl⟩, h2.mono fun b e => by rw [e]; exact h.fp⟩
theorem StoG.loose {F : Nat → Prop} {w : World} {p o : Nat} {ty : TypeId} {M : Mst} {mk : Sp} (h : StoG F w p o ty M mk) : ∀ j, w.frozen? ⟨p, j, none⟩ = false := by
  obtain ⟨m, h, rfl⟩ := h
  exact fun j => Sto.loose h j
theorem StoG.cells0 {F : Nat → Prop} {w : World} {p : Nat} {M : Mst} {mk : Sp} (h : Sto F w p M mk) : (∃ v, w.cell? ⟨p, 1, none⟩ = some v) ∧ (∃ v, w.cell? ⟨p, 2, none⟩ = some v) ∧ (∃ v, w.cell? ⟨p, 3, none⟩ = some v) := by
  obtain ⟨m, h, rfl⟩ := h
  have c1 := Sto.c1 h
  have c2 := Sto.c2 h
  have c3 := Sto.c3 h
  simp only [Nat.zero_add] at c1 c2 c3
  exact ⟨⟨_, c1⟩, ⟨_, c2⟩, ⟨_, c3⟩⟩
def LdPost (l : List Kv) (t : Sp) (w : World) (e : Ending) (w' : World) : Prop :=
  (ldE l = 0 ∧ ∃ p F, e = .returned (.tuple #[pt p, .int .i64 0]) ∧ Sto F w' p (loadM l) t ∧ ∀ b, F b → w.heap.size ≤ b) ∨ (ldE l ≠ 0 ∧ e = .returned (.tuple #[.pointer none, .int .i64 (ldE l)]))
set_option maxHeartbeats 2000000 in
set_option maxRecDepth 16000 in
theorem stoload_is {w : World} {a : Option Addr} {c : Nat} {l : List Kv} (t : Sp) (h : RowV w a l) (hl : (l.length + 1) * 64 ≤ 140737488355328) :
    Calls Tryz.prog 160 #[.slice a l.length c, sv t] w fun e w' => LdPost l t w e w' ∧ Below w.heap.size w w' := by
  obtain ⟨n, hn⟩ : ∃ n, n = l.length := ⟨_, rfl⟩
  obtain ⟨wx, hwx⟩ : ∃ wx, wx = w.alloc (.cells #[.int .u64 t.a, .int .u32 t.b, .int .u32 t.c] 36) := ⟨_, rfl⟩
  have hbx : Below w.heap.size w wx := by rw [hwx]; exact Below.al (Below.refl _ _) _
  have kx : wx.heap[w.heap.size]? = some (.cells #[.int .u64 t.a, .int .u32 t.b, .int .u32 t.c] 36 (0, 0)) := by rw [hwx]; exact World.alloc_heap_new _ _
  have HX : Hid (wx.cell? ⟨w.heap.size, 0, none⟩ = some (.int .u64 t.a) ∧ wx.cell? ⟨w.heap.size, 1, none⟩ = some (.int .u32 t.b) ∧ wx.cell? ⟨w.heap.size, 2, none⟩ = some (.int .u32 t.c)) := ⟨cell_of_obj kx rfl, cell_of_obj kx rfl, cell_of_obj kx rfl⟩
  have HA := hid (show RowV w a l ∧ Below w.heap.size w wx ∧ n = l.length from ⟨h, hbx, hn⟩)
  have NW := hid (stonew_is wx)
  rw [← hn] at hl ⊢
  have HL := hid hl
  clear h hbx kx hn
  go_enter Tryz.func160, Tryz.ntmps160
  go_wp2_with fail
  rw [← hwx]
  clear hwx
  go_wp2_with (go_at_call 207; refine NW.out.mono ?_; rintro e w1 ⟨p, F0, rfl, s1, f1, hb1⟩; have HS1 := hid s1; have HF1 := hid f1; have HB1 := hid hb1; have x0 := cell_later hb1 HX.out.1; have x1 := cell_later hb1 HX.out.2.1; have x2 := cell_later hb1 HX.out.2.2; have cf := StoG.loose s1; obtain ⟨⟨v1, y1⟩, ⟨v2, y2⟩, ⟨v3, y3⟩⟩ := s1.cells0; clear s1 f1 hb1)
  obtain ⟨w2, hw2⟩ : ∃ w2, w2 = ((w1.setCell ⟨p, 1, none⟩ (.int .u64 t.a)).setCell ⟨p, 2, none⟩ (.int .u32 t.b)).setCell ⟨p, 3, none⟩ (.int .u32 t.c) := ⟨_, rfl⟩
  have HI2 : Hid (LdI w w2 F0 p l t 0) := by
    obtain ⟨m1, m2⟩ := HS1.out.marked0 t
    rw [← hw2] at m1 m2
    have f0 : ∀ b, F0 b → w.heap.size ≤ b := fun b hb => Nat.le_trans HA.out.2.1.size (HF1.out b hb)
    have b1 : Below w.heap.size w w1 := Below.on HA.out.2.1 HB1.out
    exact ⟨m1, f0, rfl, b1.trans (m2.below f0 b1.size)⟩
  rw [← hw2]
  clear hw2 x0 x1 x2 cf y1 y2 y3 HS1 HF1 HB1 NW HX
  go_loopg [16] n (fun g s16 wr => ∃ i : Nat, i ≤ n ∧ g = n - i ∧ s16 = .int .i64 i ∧ ∃ F : Nat → Prop, Hid (LdI w wr F p l t i))
  case atStart => exact ⟨0, by omega, by omega, rfl, F0, HI2⟩
  case round =>
    obtain ⟨i, hin, rfl, rfl, F, HI⟩ := hrel
    clear HI2
    by_cases hlt : i < n
    · obtain ⟨b, off, hab, cv⟩ := HA.out.1.later HI.out.bl i (by rw [← HA.out.2.2]; exact hlt)
      obtain ⟨e, he⟩ : ∃ e, e = nthK l i := ⟨_, rfl⟩
      have hsn : l.take (i + 1) = l.take i ++ [e] := by rw [he]; exact nthK_take (by rw [← HA.out.2.2]; exact hlt)
      rw [← he] at cv
      obtain ⟨u, hu⟩ : ∃ u, okV e = u := ⟨_, rfl⟩
      have HSd : Hid (ldS l i = if u then (if i = 0 ∨ folB (nthK l (i - 1)) e = true then 0 else 91) else 1) := by show _ = _; unfold ldS; rw [← he, hu]
      have ST := hid (fun W => stand_is hu W)
      have HSN := hid hsn
      have HLT : Hid (i < l.length) := by show _ < _; rw [← HA.out.2.2]; exact hlt
      clear hu he hsn
      obtain ⟨k, s, d, v⟩ := e
      obtain ⟨wp, hwp⟩ : ∃ wp, wp = wr.alloc (.cells (vcs k ⟨s, d, v⟩) 108) := ⟨_, rfl⟩
      have hbp : Below wr.heap.size wr wp := by rw [hwp]; exact Below.al (Below.refl _ _) _
      have kp : VerAt wp wr.heap.size 0 k ⟨s, d, v⟩ := by rw [hwp]; exact ver_cells _ _ _
      obtain ⟨c0, c1, c2, c3, c4, c5⟩ := cv
      simp only at c0 c1 c2 c3 c4 c5
      subst hab
      have HBP := hid hbp
      have HKP := hid kp
      obtain ⟨p0, p1, p2, p3, p4, p5⟩ := kp
      simp only [Nat.zero_add] at p0 p1 p2 p3 p4 p5
      simp only at ST
      clear hbp
      cases u with
      | false =>
        have HE : Hid (ldE l = 1) := by
          have : ldS l i = 1 := HSd.out
          show _ = _
          rw [ld_last HI.out.ok (by rw [this]; decide) HLT.out, this]
        subst hwp
        go_wp2_with (go_at_call 208; refine (ST.out _).mono ?_; rintro e w3 ⟨rfl, hb3⟩)
        refine bodyPost_ret (v := .tuple #[.pointer none, .int .i64 1]) (by simp [results, Tryz.results160, go_sem]) rfl ⟨.inr ⟨by rw [HE.out]; decide, by rw [HE.out]⟩, Below.on HI.out.bl (Below.on HBP.out hb3)⟩
      | true =>
        have hS : ldS l i = if i = 0 ∨ folB (nthK l (i - 1)) (k, ⟨s, d, v⟩) = true then 0 else 91 := HSd.out
        have HS := hid hS
        clear hS HSd
        subst hwp
        go_wp2_with (go_at_call 208; refine (ST.out _).mono ?_; rintro e w3 ⟨rfl, hb3⟩; have HB3 := hid (Below.on HBP.out hb3); have HK3 := hid (HKP.out.later hb3); clear hb3)
        clear c0 c1 c2 c3 c4 c5 p0 p1 p2 p3 p4 p5
        by_cases hi0 : i = 0
        · have g0 : decide (0 < (i : Int)) = false := decide_eq_false (by omega)
          have g0' : decide (0 < i) = false := decide_eq_false (by omega)
          have HS0 : Hid (ldS l i = 0) := by show _ = _; rw [HS.out, if_pos (.inl hi0)]
          have HOK : Hid (ldF l (i + 1) = 0) := by show _ = _; rw [ldF, if_pos HI.out.ok, HS0.out]
          have hsr := ld_sorted (i + 1) (by have := HLT.out; omega) HOK.out
          rw [HSN.out] at hsr
          have HOV : Hid (Over (loadM (l.take i)) k s) := load_over (e := (k, ⟨s, d, v⟩)) hsr
          have HCN : Hid ((countM (loadM (l.take i)) + 1) * 64 ≤ 140737488355328) := by
            show _ ≤ _
            rw [load_count (List.pairwise_append.1 hsr).1, List.length_take]
            have h1 := HL.out
            have h2 := HA.out.2.2
            omega
          clear hsr
          clear hi0 HS
          go_wp2_with fail
          refine wp_region_quiet_below (by kernel_rfl) (by kernel_rfl) ?_
          repeat (go_big_quiet_step (fail))
          refine wpQuiet_nil ?_
          intro w4 hb4
          replace hb4 := below_of_regrown hb4
          have q0 : w4.cell? ⟨wr.heap.size, 0, none⟩ = some (.string k) := (HK3.out.later hb4).c0
          have q1 : w4.cell? ⟨wr.heap.size, 1, none⟩ = some (.int .u64 s.a) := (HK3.out.later hb4).c1
          have q2 : w4.cell? ⟨wr.heap.size, 2, none⟩ = some (.int .u32 s.b) := (HK3.out.later hb4).c2
          have q3 : w4.cell? ⟨wr.heap.size, 3, none⟩ = some (.int .u32 s.c) := (HK3.out.later hb4).c3
          have q4 : w4.cell? ⟨wr.heap.size, 4, none⟩ = some (.bool d) := (HK3.out.later hb4).c4
          have q5 : w4.cell? ⟨wr.heap.size, 5, none⟩ = some (.string v) := (HK3.out.later hb4).c5
          have AD := hid (add_is (k := k) (v := ⟨s, d, v⟩) (HI.out.sto.later (Below.on HB3.out hb4)) HOV.out HCN.out)
          have HB4 := hid (Below.on HB3.out hb4)
          clear hb4 HK3
          go_wp2_with (go_at_call 190; refine AD.out.mono ?_; rintro e w5 ⟨⟨v0, rfl⟩, hF5⟩)
          go_roundg (n - (i + 1))
          case measure => omega
          case rel =>
            obtain ⟨F', hs5, hf5, ho5⟩ := hF5
            have hb5 : Below w.heap.size w w4 := Below.on HI.out.bl HB4.out
            exact ⟨i + 1, by omega, rfl, by go_num, F', ⟨by rw [HSN.out, loadM_snoc]; exact hs5, fun b hb => (hf5 b hb).elim (HI.out.low b) (fun h' => Nat.le_trans hb5.size h'), HOK.out, hb5.trans (ho5.below HI.out.low hb5.size)⟩⟩
        · obtain ⟨j, rfl⟩ : ∃ j, i = j + 1 := ⟨i - 1, by omega⟩
          obtain ⟨b', off', hab', dv⟩ := HA.out.1.later HI.out.bl j (by have := HLT.out; omega)
          injection hab' with hab'; injection hab' with e1' e2'
          subst e1' e2'
          obtain ⟨e0, he0⟩ : ∃ e0, e0 = nthK l j := ⟨_, rfl⟩
          rw [← he0] at dv
          have hS2 : ldS l (j + 1) = if j + 1 = 0 ∨ folB e0 (k, ⟨s, d, v⟩) = true then 0 else 91 := by rw [he0]; exact HS.out
          obtain ⟨u, hu⟩ : ∃ u, folB e0 (k, ⟨s, d, v⟩) = u := ⟨_, rfl⟩
          rw [hu] at hS2
          have HS2 := hid hS2
          have FO := hid (fun W => follows_is hu W)
          clear he0 hu hS2 HS hi0
          obtain ⟨k', s', d', v'⟩ := e0
          simp only at FO dv
          have dv3 := dv.later HB3.out
          have r0 := cell_regrown dv3.c0; have r1 := cell_regrown dv3.c1; have r2 := cell_regrown dv3.c2; have r3 := cell_regrown dv3.c3; have r4 := cell_regrown dv3.c4; have r5 := cell_regrown dv3.c5
          have z0 : w3.cell? ⟨wr.heap.size, 0, none⟩ = some (.string k) := HK3.out.c0
          have z1 : w3.cell? ⟨wr.heap.size, 1, none⟩ = some (.int .u64 s.a) := HK3.out.c1
          have z2 : w3.cell? ⟨wr.heap.size, 2, none⟩ = some (.int .u32 s.b) := HK3.out.c2
          have z3 : w3.cell? ⟨wr.heap.size, 3, none⟩ = some (.int .u32 s.c) := HK3.out.c3
          have z4 : w3.cell? ⟨wr.heap.size, 4, none⟩ = some (.bool d) := HK3.out.c4
          have z5 : w3.cell? ⟨wr.heap.size, 5, none⟩ = some (.string v) := HK3.out.c5
          have y0 := cell_regrown z0; have y1 := cell_regrown z1; have y2 := cell_regrown z2; have y3 := cell_regrown z3; have y4 := cell_regrown z4; have y5 := cell_regrown z5
          have q1 : IntKind.i64.wrap (j : Int) = (j : Int) := by rw [IntKind.wrap_i64]; omega
          have g0 : decide (0 < ((j + 1 : Nat) : Int)) = true := decide_eq_true (by omega)
          have g0' : decide (0 < j + 1) = true := decide_eq_true (by omega)
          clear dv dv3
          cases u with
          | true =>
            have HS0 : Hid (ldS l (j + 1) = 0) := by show _ = _; rw [HS2.out, if_pos (.inr rfl)]
            have HOK : Hid (ldF l ((j + 1) + 1) = 0) := by show _ = _; rw [ldF, if_pos HI.out.ok, HS0.out]
            have hsr := ld_sorted ((j + 1) + 1) (by have := HLT.out; omega) HOK.out
            rw [HSN.out] at hsr
            have HOV : Hid (Over (loadM (l.take (j + 1))) k s) := load_over (e := (k, ⟨s, d, v⟩)) hsr
            have HCN : Hid ((countM (loadM (l.take (j + 1))) + 1) * 64 ≤ 140737488355328) := by
              show _ ≤ _
              rw [load_count (List.pairwise_append.1 hsr).1, List.length_take]
              have h1 := HL.out
              have h2 := HA.out.2.2
              omega
            clear hsr
            clear HS2
            go_wp2_with fail
            refine wp_region_quiet_below (by kernel_rfl) (by kernel_rfl) ?_
            repeat (go_big_quiet_step ((go_at_call 209; exact Calls.regrown_of (FO.out _))))
            refine wpQuiet_nil ?_
            intro w4 hb4
            replace hb4 := below_of_regrown hb4
            clear r0 r1 r2 r3 r4 r5 y0 y1 y2 y3 y4 y5 z0 z1 z2 z3 z4 z5 q1
            have q0 : w4.cell? ⟨wr.heap.size, 0, none⟩ = some (.string k) := (HK3.out.later hb4).c0
            have q1 : w4.cell? ⟨wr.heap.size, 1, none⟩ = some (.int .u64 s.a) := (HK3.out.later hb4).c1
            have q2 : w4.cell? ⟨wr.heap.size, 2, none⟩ = some (.int .u32 s.b) := (HK3.out.later hb4).c2
            have q3 : w4.cell? ⟨wr.heap.size, 3, none⟩ = some (.int .u32 s.c) := (HK3.out.later hb4).c3
            have q4 : w4.cell? ⟨wr.heap.size, 4, none⟩ = some (.bool d) := (HK3.out.later hb4).c4
            have q5 : w4.cell? ⟨wr.heap.size, 5, none⟩ = some (.string v) := (HK3.out.later hb4).c5
            have AD := hid (add_is (k := k) (v := ⟨s, d, v⟩) (HI.out.sto.later (Below.on HB3.out hb4)) HOV.out HCN.out)
            have HB4 := hid (Below.on HB3.out hb4)
            clear hb4 HK3
            go_wp2_with (go_at_call 190; refine AD.out.mono ?_; rintro e w5 ⟨⟨v0, rfl⟩, hF5⟩)
            go_roundg (n - ((j + 1) + 1))
            case measure => omega
            case rel =>
              obtain ⟨F', hs5, hf5, ho5⟩ := hF5
              have hb5 : Below w.heap.size w w4 := Below.on HI.out.bl HB4.out
              exact ⟨(j + 1) + 1, by omega, rfl, by go_num, F', ⟨by rw [HSN.out, loadM_snoc]; exact hs5, fun b hb => (hf5 b hb).elim (HI.out.low b) (fun h' => Nat.le_trans hb5.size h'), HOK.out, hb5.trans (ho5.below HI.out.low hb5.size)⟩⟩
          | false =>
            have HE : Hid (ldE l = 91) := by
              have h91 : ldS l (j + 1) = 91 := by rw [HS2.out, if_neg (by simp)]
              show _ = _
              rw [ld_last HI.out.ok (by rw [h91]; decide) HLT.out, h91]
            go_wp2_with fail
            refine wp_region_quiet_below (by kernel_rfl) (by kernel_rfl) ?_
            repeat (go_big_quiet_step ((go_at_call 209; exact Calls.regrown_of (FO.out _))))
            refine wpQuiet_nil ?_
            intro w4 hb4
            replace hb4 := below_of_regrown hb4
            go_wp2_with fail
            refine bodyPost_ret (v := .tuple #[.pointer none, .int .i64 91]) (by simp [results, Tryz.results160, go_sem]) rfl ⟨.inr ⟨by rw [HE.out]; decide, by rw [HE.out]⟩, Below.on HI.out.bl (Below.on HB3.out hb4)⟩
    · obtain rfl : i = n := by omega
      have HE : Hid (ldE l = 0 ∧ l.take i = l) := ⟨by have := HI.out.ok; rw [HA.out.2.2] at this; exact this, by rw [HA.out.2.2, List.take_of_length_le (Nat.le_refl _)]⟩
      go_wp2_with fail
      have HS := HI.out.sto
      rw [HE.out.2] at HS
      refine bodyPost_ret (v := .tuple #[pt p, .int .i64 0]) (by simp [results, Tryz.results160, go_sem]) rfl ⟨.inl ⟨HE.out.1, p, F, rfl, HS, HI.out.low⟩, HI.out.bl⟩
end Go.Proofs.YtofpaldolcnmiaaGreat.Vs
namespace Go.Proofs.YtofpaldolcnmiaaGreat.Ig
open Go.RowKit Go.Sort Ys
abbrev put4 (w : World) (p : Nat) (r : Option Addr) (k : Vs.Sp) : World := (((w.setCell ⟨p, 5, none⟩ (.pointer r)).setCell ⟨p, 6, none⟩ (.int .u64 k.a)).setCell ⟨p, 7, none⟩ (.int .u32 k.b)).setCell ⟨p, 8, none⟩ (.int .u32 k.c)
theorem put4_onl (w : World) (p : Nat) (r : Option Addr) (k : Vs.Sp) : Onl (fun b => b = p) w (put4 w p r k) := onl_p _ p 8 _ (onl_p _ p 7 _ (onl_p _ p 6 _ (onl_p _ p 5 _ (Onl.refl _ _))))
theorem put4_part (w : World) (p : Nat) (r : Option Addr) (k : Vs.Sp) : Part p 5 4 w (put4 w p r k) :=
  ((((Part.set w p 5 _).wide (by omega) (by omega)).trans ((Part.set _ p 6 _).wide (by omega) (by omega))).trans ((Part.set _ p 7 _).wide (by omega) (by omega))).trans ((Part.set _ p 8 _).wide (by omega) (by omega))
theorem sto_cells {G : Nat → Prop} {w : World} {q : Nat} {M : Vs.Mst} {k : Vs.Sp} (h : Vs.Sto G w q M k) : ∃ r, w.cell? ⟨q, 0, none⟩ = some (.pointer r) ∧ w.cell? ⟨q, 1, none⟩ = some (.int .u64 k.a) ∧ w.cell? ⟨q, 2, none⟩ = some (.int .u32 k.b) ∧ w.cell? ⟨q, 3, none⟩ = some (.int .u32 k.c) := by
  obtain ⟨mm, h, _⟩ := h
  obtain ⟨cs, hc, y1, y2, y3⟩ := h.obj
  obtain ⟨Tr, cs', t, hb, _, y0, _⟩ := h.xi
  exact ⟨Tr.pt, Vs.cell_of_obj hb y0, Vs.cell_of_obj hc y1, Vs.cell_of_obj hc y2, Vs.cell_of_obj hc y3⟩
theorem move_store {F G : Nat → Prop} {w : World} {p q : Nat} {m1 m2 m : Option Nat} {V : List Lk.Hv} {I : Lk.It} {s : Ps} {M : Vs.Mst} {k : Vs.Sp} {r : Option Addr} (T : Ys.St F w p m1 m2 m V I s) (h : Vs.Sto G w q M k) (hr : w.cell? ⟨q, 0, none⟩ = some (.pointer r)) :
    ∃ F', Ys.St F' (put4 w p r k) p m1 m2 m V I { s with M := M, wm := k } ∧ ∀ b, F' b → b = p ∨ G b := by
  obtain ⟨mm, h, rfl⟩ := h
  obtain ⟨root, hob⟩ := T.obj
  have ho := put4_onl w p r k
  have hp := put4_part w p r k
  obtain ⟨cs', hc', hs', he⟩ := hp _ _ _ hob
  obtain ⟨Tr, csq, tq, hbq, hiq, y0, htr, hl, hri⟩ := h.xi
  have er : r = Tr.pt := by
    have h1 := Vs.cell_of_obj hbq y0
    rw [hr] at h1
    injection h1 with h1
    injection h1
  subst er
  obtain ⟨csq', hbq', _⟩ := h.obj
  have hpq : p ≠ q := fun e => by
    subst e
    rw [hob] at hbq'
    injection hbq' with hbq'
    injection hbq' with _ e2
    exact absurd e2 (by decide)
  have hty : ∀ e ∈ mm, ∃ cs z, w.heap[e.2.g]? = some (.cells cs 108 z) := fun e he => (h.row e he).block
  have hgp : ∀ e ∈ mm, e.2.g ≠ p := fun e hm he2 => by
    obtain ⟨cs, z, hz⟩ := hty e hm
    rw [he2, hob] at hz
    injection hz with hz
    injection hz with _ e2 _
    exact absurd e2 (by decide)
  have hkp : Vs.Kp w (put4 w p Tr.pt k) := Vs.Kp.of_onl ho fun b cs t z hb hc => by
    subst hb
    rw [hob] at hc
    injection hc with hc
    injection hc with _ e2 _
    subst e2
    exact stT_state.1
  have f0 : ∀ j, (put4 w p Tr.pt k).cell? ⟨p, j, none⟩ = cs'[j]? := fun j => by simp [World.cell?, hc']
  have ex : ∀ j, j < 13 → ∃ v, w.cell? ⟨p, j, none⟩ = some v := fun j hj => ⟨_, Vs.cell_of_obj hob (Array.getElem?_eq_getElem (by show j < 13; exact hj))⟩
  obtain ⟨v5, g5⟩ := ex 5 (by decide)
  obtain ⟨v6, g6⟩ := ex 6 (by decide)
  obtain ⟨v7, g7⟩ := ex 7 (by decide)
  obtain ⟨v8, g8⟩ := ex 8 (by decide)
  have z5 : cs'[5]? = some (.pointer Tr.pt) := by rw [← f0]; simp [put4, go_sem, g5]
  have z6 : cs'[6]? = some (.int .u64 k.a) := by rw [← f0]; simp [put4, go_sem, g6]
  have z7 : cs'[7]? = some (.int .u32 k.b) := by rw [← f0]; simp [put4, go_sem, g7]
  have z8 : cs'[8]? = some (.int .u32 k.c) := by rw [← f0]; simp [put4, go_sem, g8]
  refine ⟨fun b => b = p ∨ ∃ e ∈ mm, e.2.g = b, T.store ⟨mm, ⟨⟨cs', hc', z6, z7, z8⟩, stT_state, ⟨Tr, cs', SS, hc', stT_state.1, z5, htr.kp hkp, hl, hri⟩, fun e he => (h.row e he).keep (ho.block _ (h.row e he).lt (hgp e he)), h.apart, h.good, .inl rfl, fun e he => .inr ⟨e, he, rfl⟩, fun b hb => ?_⟩, rfl⟩ (ho.mono fun b e => by rw [e]; obtain ⟨_, hx, _⟩ := T.st; exact hx.fp) hp, fun b hb => ?_⟩
  · rcases hb with rfl | ⟨e, hm, rfl⟩
    · exact ⟨cs', SS, (0, 0), hc', .inl rfl⟩
    · obtain ⟨cs, z, hz⟩ := hty e hm
      exact ⟨cs, _, z, (ho.block _ (h.row e hm).lt (hgp e hm)).trans hz, .inr rfl⟩
  · rcases hb with rfl | ⟨e, hm, rfl⟩
    · exact .inl rfl
    · exact .inr (h.fr e hm)
theorem _root_.Go.Proofs.YtofpaldolcnmiaaGreat.Ys.St.cell5 {F : Nat → Prop} {w : World} {p : Nat} {m1 m2 m : Option Nat} {V : List Lk.Hv} {I : Lk.It} {s : Ps} (T : Ys.St F w p m1 m2 m V I s) : ∃ v, w.cell? ⟨p, 5, none⟩ = some v := by
  obtain ⟨r, hr⟩ := T.obj
  exact ⟨_, Vs.cell_of_obj hr rfl⟩
def fvB (c : Int) (l : List Vs.Kv) (k : Vs.Sp) : Bool := l.all (fun v => decide (v.2.s.a < c)) && (decide (Vs.ldE l = 0) && decide (k.a < 18446744073709551615))
set_option maxHeartbeats 4000000 in
theorem fillVersions_is {F : Nat → Prop} {w : World} {p : Nat} {m1 m2 m : Option Nat} {V : List Lk.Hv} {I : Lk.It} {s : Ps} {a : Option Addr} {c : Nat} {l : List Vs.Kv} (T : Ys.St F w p m1 m2 m V I s) (h : Vs.RowV w a l) (hl : (l.length + 1) * 64 ≤ 140737488355328) (k : Vs.Sp) :
    Calls Tryz.prog 82 #[cp p, .slice a l.length c, .agg #[.int .u64 k.a, .int .u32 k.b, .int .u32 k.c]] w fun e w' => e = .returned (.bool (fvB s.ceil l k)) ∧ Hid (fvB s.ceil l k = true → ∃ F', Ys.St F' w' p m1 m2 m V I { s with M := Vs.loadM l, wm := k } ∧ ∀ b, F' b → b = p ∨ w.heap.size ≤ b) ∧ Hid (Onl (fun b => b = p) w w') := by
  obtain ⟨n, hn⟩ : ∃ n, n = l.length := ⟨_, rfl⟩
  obtain ⟨wx, hwx⟩ : ∃ wx, wx = w.alloc (.cells #[.int .u64 k.a, .int .u32 k.b, .int .u32 k.c] 36) := ⟨_, rfl⟩
  have hbx : Below w.heap.size w wx := by rw [hwx]; exact Below.al (Below.refl _ _) _
  have hsx : w.heap.size < wx.heap.size := by rw [hwx]; simp
  have kx : wx.heap[w.heap.size]? = some (.cells #[.int .u64 k.a, .int .u32 k.b, .int .u32 k.c] 36 (0, 0)) := by rw [hwx]; exact World.alloc_heap_new _ _
  have HK := hid kx
  have HT := hid T
  have HR := hid h
  have HBX := hid hbx
  rw [← hn] at hl ⊢
  have HN := hid hn
  have HL := hid hl
  clear T h hbx kx hn
  go_enter Tryz.func82, Tryz.ntmps82
  go_wp2_with fail
  rw [← hwx]
  clear hwx
  go_loopg [13] n (fun g s13 wr => ∃ i : Nat, i ≤ n ∧ g = n - i ∧ s13 = .int .i64 (i : Int) ∧ Hid (Below wx.heap.size wx wr) ∧ Hid ((l.take i).all (fun v => decide (v.2.s.a < s.ceil)) = true))
  case atStart => exact ⟨0, by omega, by omega, rfl, Below.refl _ _, rfl⟩
  case round =>
    obtain ⟨i, hin, rfl, rfl, HB, HA⟩ := hrel
    by_cases hlt : i < n
    · obtain ⟨b, off, hab, cv⟩ := (HR.out.later (Below.on HBX.out HB.out)) i (by rw [← HN.out]; exact hlt)
      subst hab
      obtain ⟨e, he⟩ : ∃ e, e = Vs.nthK l i := ⟨_, rfl⟩
      have hsn : l.take (i + 1) = l.take i ++ [e] := by rw [he]; exact Vs.nthK_take (by rw [← HN.out]; exact hlt)
      have hem : e ∈ l := by rw [he]; exact Vs.nthK_mem (by rw [← HN.out]; exact hlt)
      rw [← he] at cv
      clear he
      obtain ⟨c0, c1, c2, c3, c4, c5⟩ := cv
      obtain ⟨u, hu⟩ : ∃ u, decide (e.2.s.a < s.ceil) = u := ⟨_, rfl⟩
      have HU := hid hu
      have HSN := hid hsn
      have HEM := hid hem
      clear hu hsn hem
      go_wp2_with fail
      refine (reserved_is (HT.out.later (Below.on (Below.on HBX.out HB.out) (Below.al (Below.refl _ _) _))) e.2.s HU.out).mono ?_
      rintro r w2 ⟨rfl, hb2⟩
      have HB2 := hid (Below.on (Below.al HB.out _) hb2)
      clear hb2
      cases u with
      | false =>
        go_wp2_with fail
        go_ret
        have hf : fvB s.ceil l k = false := by
          unfold fvB
          rw [List.all_eq_false.2 ⟨e, HEM.out, by rw [HU.out]; decide⟩]; rfl
        exact ⟨ret_bool hf.symm, fun h9 => (by rw [hf] at h9; cases h9), (Onl.of_below (Below.on HBX.out HB2.out))⟩
      | true =>
        go_wp2_with fail
        go_roundg (n - (i + 1))
        case measure => omega
        case rel =>
          refine ⟨i + 1, by omega, rfl, by go_num, HB2, hid ?_⟩
          rw [HSN.out, List.all_append, HA.out]
          simp [HU.out]
    · obtain rfl : i = n := by omega
      have HAll : Hid (l.all (fun v => decide (v.2.s.a < s.ceil)) = true) := by
        have := HA.out
        rw [HN.out, List.take_of_length_le (Nat.le_refl _)] at this
        exact this
      have kr := (HB.out.block _ hsx).trans HK.out
      have k0 := Vs.cell_of_obj (o := 0) kr rfl
      have k1 := Vs.cell_of_obj (o := 1) kr rfl
      have k2 := Vs.cell_of_obj (o := 2) kr rfl
      have LD := hid (Vs.stoload_is (c := c) k (HR.out.later (Below.on HBX.out HB.out)) (by rw [← HN.out]; exact HL.out))
      rw [← HN.out] at LD
      clear kr hin hlt
      go_wp2_with fail
      refine LD.out.mono ?_
      rintro r w2 ⟨hp, hb2⟩
      have hw2 : Below wx.heap.size wx w2 := Below.on HB.out hb2
      have k2' := (hw2.block _ hsx).trans HK.out
      have k0 := Vs.cell_of_obj (o := 0) k2' rfl
      have k1 := Vs.cell_of_obj (o := 1) k2' rfl
      have k2 := Vs.cell_of_obj (o := 2) k2' rfl
      have HW2 := hid hw2
      have hbw : w.heap.size ≤ wr.heap.size := Nat.le_trans HBX.out.size HB.out.size
      clear hw2 k2' hb2
      rcases hp with ⟨h0, q, G, rfl, hS, hG⟩ | ⟨h0, rfl⟩
      · obtain ⟨u, hu⟩ : ∃ u, decide (k.a < 18446744073709551615) = u := ⟨_, rfl⟩
        have US := hid (fun W => Vs.usable_at (t := k) hu W)
        have HF : Hid (fvB s.ceil l k = u) := by show fvB _ _ _ = _; unfold fvB; rw [HAll.out, h0, hu]; simp
        have HS := hid hS
        have HG := hid hG
        clear hu hS hG h0
        cases u with
        | false =>
          go_wp2_with (go_at_call 125; refine (US.out _).mono ?_; rintro r w3 ⟨rfl, hb3⟩)
          go_ret
          exact ⟨ret_bool HF.out.symm, fun h9 => (by rw [HF.out] at h9; cases h9), Onl.of_below (Below.on (Below.on HBX.out HW2.out) hb3)⟩
        | true =>
          go_wp2_with (go_at_call 125; refine (US.out _).mono ?_; rintro r w3 ⟨rfl, hb3⟩; obtain ⟨rt, x0, x1, x2, x3⟩ := sto_cells (HS.out.later hb3); have T3 := hid (HT.out.later (Below.on (Below.on HBX.out HW2.out) hb3)); have p5 := T3.out.cell5; obtain ⟨v5, p5⟩ := p5; have p6 := T3.out.cell (j := 6) (v := .int .u64 s.wm.a) (fun _ => rfl); have p7 := T3.out.cell (j := 7) (v := .int .u32 s.wm.b) (fun _ => rfl); have p8 := T3.out.cell (j := 8) (v := .int .u32 s.wm.c) (fun _ => rfl); have pf := T3.out.loose; have HB3 := hid hb3; have HX0 := hid x0; clear hb3)
          go_ret
          refine ⟨ret_bool HF.out.symm, fun _ => ?_, hid ?_⟩
          · obtain ⟨F', h1, h2⟩ := move_store T3.out (HS.out.later HB3.out) HX0.out
            exact ⟨F', h1, fun b hb => by
              rcases h2 b hb with h3 | h3
              · exact .inl h3
              · exact .inr (Nat.le_trans hbw (HG.out b h3))⟩
          · exact (Onl.of_below (Below.on (Below.on HBX.out HW2.out) HB3.out)).trans (put4_onl _ p rt k)
      · have hne : (Vs.ldE l != 0) = true := by simpa using h0
        have HF : Hid (fvB s.ceil l k = false) := by show fvB _ _ _ = _; unfold fvB; rw [HAll.out, decide_eq_false h0]; rfl
        clear h0
        go_wp2_with fail
        go_ret
        exact ⟨ret_bool HF.out.symm, fun h9 => (by rw [HF.out] at h9; cases h9), Onl.of_below (Below.on HBX.out HW2.out)⟩
end Go.Proofs.YtofpaldolcnmiaaGreat.Ig
namespace Go.Proofs.YtofpaldolcnmiaaGreat.Ig
open Go.RowKit Go.Sort Go.Shelf Ys
abbrev Jt := List (ByteArray × Vs.Sp)
def ovW (J : Jt) (t : Vs.Sp) (ws : List Wr) : Jt := ws.foldl (fun J x => Lk.putA J x.key t) J
def ovJ (l : List Lk.Hd) : Jt := l.foldl (fun J h => ovW J (atHd h) h.ws) []
def getJ (J : Jt) (k : ByteArray) : Option Vs.Sp := (J.find? fun p => decide (p.1 = k)).map (·.2)
def ovV (J : Jt) (v : Vs.Kv) : Bool := match getJ J v.1 with
  | some t => !v.2.s.lt t
  | none => false
def ovT (vs : List Vs.Kv) (hs : List Lk.Hd) : Bool := vs.any (ovV (ovJ hs))
theorem getJ_some {J : Jt} (hn : (J.map (·.1)).Nodup) {k : ByteArray} {t : Vs.Sp} (h : (k, t) ∈ J) : getJ J k = some t := by
  unfold getJ
  cases hf : J.find? (fun p => decide (p.1 = k)) with
  | none => exact absurd (List.find?_eq_none.1 hf _ h) (by simp)
  | some q =>
    have h1 := List.find?_some hf
    have h2 := List.mem_of_find?_eq_some hf
    have := Lk.nodup_inj hn h2 h (by simpa using h1)
    rw [this]; rfl
theorem getJ_none {J : Jt} {k : ByteArray} (h : k ∉ J.map (·.1)) : getJ J k = none := by
  unfold getJ
  rw [List.find?_eq_none.2]
  · rfl
  · intro q hq
    simp only [decide_eq_true_eq]
    exact fun e => h (List.mem_map.2 ⟨q, hq, e⟩)
theorem zero_st (W : World) : (zeroValue 36).run Tryz.prog W = .ok (Vs.sv ⟨0, 0, 0⟩) W := by kernel_rfl
theorem contV_nil (a : Option Addr) (c : Nat) (f : Value) (w : World) :
    Calls Tryz.prog 161 #[.slice a 0 c, f] w fun e w' => e = .returned (.bool false) ∧ Below w.heap.size w w' := by
  have IX : ∀ W, Calls Tryz.prog 210 #[.slice a 0 c, f] W fun e w' => e = .returned (.int .i64 (-1)) ∧ w' = W := fun W => by
    go_enter Tryz.func210, Tryz.ntmps210
    go_wp2_with fail
    go_loopg [5, 8] 0 (fun g s5 s8 wr => s8 = .int .i64 0 ∧ wr = W)
    case atStart => exact ⟨rfl, rfl⟩
    case round =>
      obtain ⟨rfl, rfl⟩ := hrel
      go_wp2_with fail
      go_ret
      exact ⟨rfl, rfl⟩
  go_enter Tryz.func161, Tryz.ntmps161
  go_wp2_with (go_at_call 210; refine (IX _).mono ?_; rintro e w1 ⟨rfl, rfl⟩)
  go_ret
  exact ⟨rfl, Below.refl _ _⟩
theorem predV_is {w : World} {bM bX : Nat} {J : Jt} (hM : Lk.MapO Value.string Vs.sv w (some bM) J) (hX : w.cell? ⟨bX, 0, none⟩ = some (.map (some bM))) (W : World) (v : Vs.Kv) (hb : Below w.heap.size w W) :
    Calls Tryz.prog 162 #[.agg #[.string v.1, .int .u64 v.2.s.a, .int .u32 v.2.s.b, .int .u32 v.2.s.c, .bool v.2.del, .string v.2.val], .pointer (some ⟨bX, 0, none⟩)] W fun e w' => e = .returned (.bool (ovV J v)) ∧ Below w.heap.size w w' := by
  obtain ⟨wx, hwx⟩ : ∃ wx, wx = W.alloc (.cells #[.string v.1, .int .u64 v.2.s.a, .int .u32 v.2.s.b, .int .u32 v.2.s.c, .bool v.2.del, .string v.2.val] 108) := ⟨_, rfl⟩
  have hbx : Below w.heap.size w wx := by rw [hwx]; exact Below.al hb _
  have hbw : Below W.heap.size W wx := by rw [hwx]; exact Below.al (Below.refl _ _) _
  have hsx : W.heap.size < wx.heap.size := by rw [hwx]; simp
  have kx : wx.heap[W.heap.size]? = some (.cells #[.string v.1, .int .u64 v.2.s.a, .int .u32 v.2.s.b, .int .u32 v.2.s.c, .bool v.2.del, .string v.2.val] 108 (0, 0)) := by rw [hwx]; exact World.alloc_heap_new _ _
  have hMx := hM.later hbx
  have hnd := hM.nodup (P := Tryz.prog) Lk.keysS
  obtain ⟨⟨ta, tb, tc⟩, ok, hyes, hno, hlook⟩ := hMx.lookT (P := Tryz.prog) Lk.keysS Tryz.underlying215 zero_st v.1
  have hl := hlook wx (fun _ _ => rfl)
  simp only [Vs.sv] at hl
  have x0 := cell_later hbx hX
  have HLK := hid hlook
  have HBX := hid hbx
  have HK := hid kx
  have y0 := Vs.cell_of_obj (o := 0) kx rfl
  have y1 := Vs.cell_of_obj (o := 1) kx rfl
  have y2 := Vs.cell_of_obj (o := 2) kx rfl
  have y3 := Vs.cell_of_obj (o := 3) kx rfl
  obtain ⟨u, hu⟩ : ∃ u, lessB v.2.s.a v.2.s.b v.2.s.c ta tb tc = u := ⟨_, rfl⟩
  have LS := hid (fun W => less_is hu W)
  have hE : ovV J v = (ok && !u) := by
    unfold ovV
    cases ok with
    | true =>
      rw [getJ_some hnd (hyes rfl)]
      show (!Vs.Sp.lt v.2.s ⟨ta, tb, tc⟩) = _
      unfold Vs.Sp.lt
      rw [hu]; rfl
    | false => rw [getJ_none (hno rfl).1]; rfl
  rw [hE]
  rw [hwx] at x0 y0 y1 y2 y3 hl
  obtain ⟨wy, hwy⟩ : ∃ wy, wy = wx.alloc (.cells #[.int .u64 ta, .int .u32 tb, .int .u32 tc] 36) := ⟨_, rfl⟩
  have HBY : Hid (Below w.heap.size w wy) := by rw [hwy]; exact hid (Below.al hbx _)
  clear hM hX hb hbx hbw hMx hnd hyes hno hlook hu kx hE
  cases ok with
  | true =>
    go_enter Tryz.func162, Tryz.ntmps162
    go_wp2_with (go_at_call 70; rw [← hwx, ← hwy]; refine (LS.out _).mono ?_; rintro e w3 ⟨rfl, hb3⟩)
    go_ret
    exact ⟨ret_bool (by simp), Below.on HBY.out hb3⟩
  | false =>
    go_enter Tryz.func162, Tryz.ntmps162
    go_wp2_with fail
    go_ret
    rw [← hwx, ← hwy]
    exact ⟨rfl, HBY.out⟩
theorem contV_is {w : World} {bM bX : Nat} {J : Jt} (hM : Lk.MapO Value.string Vs.sv w (some bM) J) (hX : w.cell? ⟨bX, 0, none⟩ = some (.map (some bM))) {a : Option Addr} {c : Nat} {l : List Vs.Kv} (hr : RowG c6 6 w a l) (hl : l.length ≤ 9223372036854775807) :
    Calls Tryz.prog 161 #[.slice a l.length c, .func (.func 162) #[] #[.pointer (some ⟨bX, 0, none⟩)]] w fun e w' => e = .returned (.bool (l.any (ovV J))) ∧ Below w.heap.size w w' := by
  by_cases h0 : l.length = 0
  · rw [h0, List.eq_nil_of_length_eq_zero h0]
    exact contV_nil a c _ _
  · letI : Inhabited Vs.Kv := ⟨(⟨#[]⟩, ⟨⟨0, 0, 0⟩, false, ⟨#[]⟩⟩)⟩
    have eg : ∀ args w, (callFunc 162 args).run Tryz.prog w = .ok (.enter 162 args) w := enters_of Tryz.func162 (by kernel_rfl) rfl
    obtain ⟨b, off, rfl, hc⟩ : ∃ b off, a = some ⟨b, off, none⟩ ∧ ∀ j, j < l.length → ∀ i v, (c6 l[j]!)[i]? = some v → w.cell? ⟨b, off + j * 6 + i, none⟩ = some v := by
      obtain ⟨b, off, e, _⟩ := hr 0 (l[0]'(by omega)) (List.getElem?_eq_getElem (by omega))
      refine ⟨b, off, e, fun j hj i v hv => ?_⟩
      obtain ⟨b', off', e', h'⟩ := hr j l[j]! (by rw [getElem!_pos l j hj, List.getElem?_eq_getElem hj])
      rw [e] at e'
      injection e' with e'
      injection e' with e1 e2
      subst e1 e2
      exact h' i v hv
    have hlt : b < w.heap.size := World.block_lt_of_cell? _ _ (hc 0 (by omega) 0 _ rfl)
    have hcon := AnyQ.slices_ContainsFunc Tryz.contV 6 Tryz.isAgg108 Tryz.sizeOf108 c6 (fun _ => rfl) (ovV J) 162 #[.pointer (some ⟨bX, 0, none⟩)] eg b off l.length c l w
      (fun W x hb => predV_is hM hX W x hb) (by omega) hl hlt hc
    change Calls Tryz.prog 161 _ _ _ at hcon
    rw [List.take_of_length_le (by omega)] at hcon
    exact hcon
end Go.Proofs.YtofpaldolcnmiaaGreat.Ig
namespace Go.Proofs.YtofpaldolcnmiaaGreat.Ig
open Go.Proofs.YtofpaldolcnmiaaGreat Ys
theorem tN_all {α : Type} {t : Ds → α × Ds} {P : α → Prop} {B : Nat} (hs : Shrinks t) (h : ∀ d, d.left.length ≤ B → P (t d).1) : ∀ (n : Nat) (d : Ds), d.left.length ≤ B → ∀ x ∈ (tN t n d).1, P x
  | 0, d, _, x, hx => by cases hx
  | n + 1, d, hd, x, hx => by
    rw [tN] at hx
    split at hx
    · cases hx
    · rcases List.mem_cons.1 hx with rfl | hx
      · exact h d hd
      · exact tN_all hs h n _ (Nat.le_trans (hs d) hd) x hx
theorem tL_all {α : Type} {t : Ds → α × Ds} {P : α → Prop} {B : Nat} (hs : Shrinks t) (h : ∀ d, d.left.length ≤ B → P (t d).1) (d : Ds) (hd : d.left.length ≤ B) : ∀ x ∈ (tL t d).1, P x :=
  tN_all hs h _ _ (Nat.le_trans (var_sh _ d) hd)
theorem st_ok (d : Ds) : (tStamp d).1.ok := by
  have hz : zSm.ok := ⟨⟨by decide, by decide⟩, ⟨by decide, by decide⟩, by decide, by decide⟩
  cases d with
  | stop e => exact hz
  | «at» s =>
    by_cases h : s.length < 16
    · simp only [tStamp, if_pos h]; exact hz
    · simp only [tStamp, if_neg h]
      exact unS_ok (by rw [List.length_take]; omega)
theorem tS_ok (d : Ds) : okS (tS d).1 := st_ok d
theorem tU_ok (m : Nat) (d : Ds) : okU m (tU m d).1 := ⟨Int.natCast_nonneg _, by have := var_le m d; show (((tVar m d).1 : Nat) : Int) ≤ _; omega⟩
theorem tTxn_ok (d : Ds) : okTxn (tTxn d).1 := ⟨tU_ok _ _, tU_ok _ _, tU_ok _ _⟩
theorem tEntry_r (d : Ds) : EnR (tEntry d).1 := by
  have h1 := tTxn_ok d
  have h2 := tS_ok (tB (tTxn d).2).2
  exact ⟨h1.2.1.1, ⟨h2.1.1, h2.1.2⟩⟩
structure HdR (h : Lk.Hd) : Prop where
  s : 0 ≤ h.id.2
  w : 0 ≤ h.w ∧ h.w ≤ 18446744073709551615
  rl : h.rs.length ≤ 1099511627776
  wl : h.ws.length ≤ 1099511627776
theorem tHeld_r (d : Ds) (hd : d.left.length ≤ 1099511627776) : HdR (tHeld d).1 := by
  have h1 := tTxn_ok d
  have h2 := tS_ok (tTxn d).2
  have h3 := tL_left span_eat (tS (tTxn d).2).2
  have h4 := tL_left write_eat (tL tSpan (tS (tTxn d).2).2).2
  have h5 : (tS (tTxn d).2).2.left.length ≤ d.left.length := Nat.le_trans (stamp_sh _) (txn_sh d)
  have h6 : (tL tSpan (tS (tTxn d).2).2).2.left.length ≤ d.left.length := Nat.le_trans (l_sh span_sh _) h5
  exact ⟨h1.2.1.1, ⟨h2.1.1, h2.1.2⟩, Nat.le_trans h3 (Nat.le_trans h5 hd), Nat.le_trans h4 (Nat.le_trans h6 hd)⟩
def fillP (n c : Int) (k : Vs.Sp) (hs : List Lk.Hd) (es : List Lg.En) (vs : List Vs.Kv) : Option Ps :=
  if fvB c vs k then (match feS ⟨n, c, [], [], Vs.loadM vs, k, false, ⟨0, 0, 0⟩⟩ es with
    | none => none
    | some s1 => match fhS s1 hs with
      | none => none
      | some s2 => if ovT vs hs then none else some s2) else none
def takeP (n : Int) (d : Ds) : Option Ps := if (tImg d).1.1 = n then fillP n (tImg d).1.2.1 (tImg d).1.2.2.1 (tImg d).1.2.2.2.1 (tImg d).1.2.2.2.2.1 (tImg d).1.2.2.2.2.2 else none
theorem st_empty {w : World} {p : Nat} {n c : Int} (kb : w.heap[p]? = some (.cells (scs ⟨n, c, [], [], [], ⟨0, 0, 0⟩, false, ⟨0, 0, 0⟩⟩ none none none none) SS (0, 0))) : Ys.St (fun b => b = p) w p none none none [] [] ⟨n, c, [], [], [], ⟨0, 0, 0⟩, false, ⟨0, 0, 0⟩⟩ :=
  ⟨⟨none, kb⟩, ⟨⟨_, kb, rfl, rfl⟩, bare13 kb, rfl, rfl, by simp, Lk.ok_nil, by simp, by simp⟩, ⟨⟨_, kb, rfl⟩, rfl⟩, ⟨[], ⟨⟨_, kb, rfl, rfl, rfl⟩, stT_state, ⟨.nil, _, _, kb, stT_state.1, rfl, trivial, rfl, List.Pairwise.nil⟩, fun e he => (by cases he), List.Pairwise.nil, Vs.Good.nil, rfl, fun e he => (by cases he), by rintro b rfl; exact ⟨_, _, _, kb, .inl rfl⟩⟩, rfl⟩, rfl, by simp, by simp⟩
end Go.Proofs.YtofpaldolcnmiaaGreat.Ig
