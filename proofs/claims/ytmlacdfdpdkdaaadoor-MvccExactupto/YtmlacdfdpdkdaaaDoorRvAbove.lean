import Derived.Test.YtmlacdfdpdkdaaaDoorRvSmall
import Derived.Test.YtmlacdfdpdkdaaaDoorVRowsV
/- newest. -/
namespace Go.Proofs.YtmlacdfdpdkdaaaDoor.Vs
open Go.RowKit Go.Sort
set_option linter.unusedVariables false

set_option maxRecDepth 16000 in
set_option maxHeartbeats 4000000 in
theorem newest_is {w : World} {B r : Nat} {v : Value} {L : List Kv} {mk : Sp} (h : Rs w B r v L mk) {i : Nat} (hi : i < L.length) (hl : L.length ≤ 1099511627776) {t : Sp} {u : Bool} (hu : nwB t (nthK L i) (L.drop (i + 1)) = u) :
    Calls Tryd.prog 55 #[pt r, .int .i64 (i : Nat), sv t] w fun e w' => e = .returned (.bool u) ∧ Below w.heap.size w w' := by
  obtain ⟨a, c, rfl, hrow⟩ := h.slice
  obtain ⟨b, off, rfl, hv⟩ := hrow i hi
  have HROW := hid hrow
  obtain ⟨⟨k1, s1, d1, v1⟩, hx⟩ : ∃ x, x = nthK L i := ⟨_, rfl⟩
  rw [← hx] at hv hu
  obtain ⟨n, hn⟩ : ∃ n, n = L.length := ⟨_, rfl⟩
  have hin : i < n := by omega
  have hn2 : n ≤ 1099511627776 := by omega
  have HN := hid hn
  obtain ⟨w1, hw1⟩ : ∃ w1, w1 = w.alloc (.cells #[.int .u64 t.a, .int .u32 t.b, .int .u32 t.c] 33) := ⟨_, rfl⟩
  have hb1 : Below w.heap.size w w1 := by rw [hw1]; (repeat (first | with_reducible exact Below.refl _ _ | with_reducible assumption | with_reducible refine Below.drew ?_ | with_reducible refine Below.al ?_ _ | with_reducible refine Below.setCell ?_ (by first | exact Nat.le_refl _ | (simp; omega) | (simp; done)) _ | with_reducible refine Below.on ?_ (by assumption)))
  have c0 := cell_later hb1 h.c0
  have t0 : w1.cell? ⟨w.heap.size, 0, none⟩ = some (.int .u64 t.a) := by rw [hw1]; simp
  have t1 : w1.cell? ⟨w.heap.size, 1, none⟩ = some (.int .u32 t.b) := by rw [hw1]; simp
  have t2 : w1.cell? ⟨w.heap.size, 2, none⟩ = some (.int .u32 t.c) := by rw [hw1]; simp
  rw [← hn] at c0
  have HC0 := hid c0
  have HT := hid (And.intro t0 (And.intro t1 t2))
  have HB1 := hid hb1
  have hv1 := hv.later hb1
  have a1 := hv1.c1
  have a2 := hv1.c2
  have a3 := hv1.c3
  have HV1 := hid hv1
  simp only at a1 a2 a3
  replace c0 := cell_regrown c0
  replace t0 := cell_regrown t0
  replace t1 := cell_regrown t1
  replace t2 := cell_regrown t2
  replace a1 := cell_regrown a1
  replace a2 := cell_regrown a2
  replace a3 := cell_regrown a3
  have HR1 : Hid (RowV w1 (some ⟨b, off, none⟩) L) := hid (hrow.later hb1)
  clear hv hv1 hrow h hx hn hi hl hb1
  cases hs : t.lt s1 with
  | true =>
    have HU : Hid (u = false) := hid (by rw [← hu]; unfold nwB; simp [hs])
    have AB := hid fun wz => rabove_is (s := s1) (t := t) hs wz
    clear hs hu
    go_enter Tryd.func55, Tryd.ntmps55
    go_wp2_with fail
    rw [← hw1]
    clear hw1
    refine wp_region_quiet_below (by kernel_rfl) (by kernel_rfl) ?_
    repeat (go_big_quiet_step ((go_at_call 53; exact Calls.regrown_of (AB.out _))))
    refine wpQuiet_nil ?_
    intro w3 hw3
    replace hw3 := below_of_regrown hw3
    go_wp2_with fail
    go_ret
    exact ⟨ret_bool HU.out.symm, Below.on HB1.out hw3⟩
  | false =>
    have AB := hid fun wz => rabove_is (s := s1) (t := t) hs wz
    by_cases hlast : i + 1 = n
    · have HU : Hid (u = true) := hid (by rw [← hu]; unfold nwB; rw [List.drop_of_length_le (by have := HN.out; omega)]; simp [hs])
      have hq : (((i : Int) + 1) == (n : Int)) = true := by simp; omega
      clear hs hu
      go_enter Tryd.func55, Tryd.ntmps55
      go_wp2_with fail
      rw [← hw1]
      clear hw1
      refine wp_region_quiet_below (by kernel_rfl) (by kernel_rfl) ?_
      repeat (go_big_quiet_step ((go_at_call 53; exact Calls.regrown_of (AB.out _))))
      refine wpQuiet_nil ?_
      intro w3 hw3
      replace hw3 := below_of_regrown hw3
      have HW3 := hid (Below.on HB1.out hw3)
      have e0 := cell_regrown (cell_later hw3 HC0.out)
      have HW13 := hid hw3
      clear c0 t0 t1 t2 a1 a2 a3 hw3
      go_wp2_with fail
      refine wp_region_quiet_below (by kernel_rfl) (by kernel_rfl) ?_
      repeat (go_big_quiet_step (fail))
      refine wpQuiet_nil ?_
      intro w4 hw4
      replace hw4 := below_of_regrown hw4
      clear e0
      go_wp2_with fail
      go_ret
      exact ⟨ret_bool HU.out.symm, Below.on HW3.out hw4⟩
    · have hi2 : i + 1 < L.length := by have := HN.out; omega
      obtain ⟨b', off', e', hv2⟩ := HR1.out (i + 1) hi2
      injection e' with e'; injection e' with e1 e2
      subst e1 e2
      obtain ⟨⟨k2, s2, d2, v2⟩, hy⟩ : ∃ y, y = nthK L (i + 1) := ⟨_, rfl⟩
      rw [← hy] at hv2
      have hdr : L.drop (i + 1) = (k2, ⟨s2, d2, v2⟩) :: L.drop (i + 2) := by rw [List.drop_eq_getElem_cons hi2, ← nthK_get hi2, ← hy]
      rw [hdr] at hu
      have HV2 := hid hv2
      have hq : (((i : Int) + 1) == (n : Int)) = false := by rw [beq_eq_false_iff_ne]; omega
      have hi3 : i + 1 < n := by have := HN.out; omega
      clear hdr hy hv2 hi2
      by_cases hk : k2 = k1
      · subst hk
        have HU : Hid (u = t.lt s2) := hid (by rw [← hu, nw_next, hs]; rfl)
        have AB2 := hid fun wz => rabove_is (s := s2) (t := t) rfl wz
        clear hs hu
        go_enter Tryd.func55, Tryd.ntmps55
        go_wp2_with fail
        rw [← hw1]
        clear hw1
        refine wp_region_quiet_below (by kernel_rfl) (by kernel_rfl) ?_
        repeat (go_big_quiet_step ((go_at_call 53; exact Calls.regrown_of (AB.out _))))
        refine wpQuiet_nil ?_
        intro w3 hw3
        replace hw3 := below_of_regrown hw3
        have HW3 := hid (Below.on HB1.out hw3)
        have e0 := cell_regrown (cell_later hw3 HC0.out)
        have HW13 := hid hw3
        clear c0 t0 t1 t2 a1 a2 a3 hw3
        have b0 := cell_regrown (cell_later HW13.out HV2.out.c0)
        have b1 := cell_regrown (cell_later HW13.out HV2.out.c1)
        have b2 := cell_regrown (cell_later HW13.out HV2.out.c2)
        have b3 := cell_regrown (cell_later HW13.out HV2.out.c3)
        have f0 := cell_regrown (cell_later HW13.out HV1.out.c0)
        have t0 := cell_regrown (cell_later HW13.out HT.out.1)
        have t1 := cell_regrown (cell_later HW13.out HT.out.2.1)
        have t2 := cell_regrown (cell_later HW13.out HT.out.2.2)
        simp only at b0 b1 b2 b3 f0
        go_wp2_with fail
        refine wp_region_quiet_below (by kernel_rfl) (by kernel_rfl) ?_
        repeat (go_big_quiet_step ((go_at_call 53; exact Calls.regrown_of (AB2.out _))))
        refine wpQuiet_nil ?_
        intro w4 hw4
        replace hw4 := below_of_regrown hw4
        clear e0
        go_wp2_with fail
        go_ret
        exact ⟨ret_bool HU.out.symm, Below.on HW3.out hw4⟩
      · have HU : Hid (u = true) := hid (by rw [← hu]; unfold nwB; simp [hs, hk])
        have hne : (k2.toList == k1.toList) = false := by
          rw [beq_eq_false_iff_ne]
          intro e
          apply hk
          rw [ByteArray.toList_eq, ByteArray.toList_eq] at e
          cases k1; cases k2; simp at e; rw [e]
        clear hs hu hk
        go_enter Tryd.func55, Tryd.ntmps55
        go_wp2_with fail
        rw [← hw1]
        clear hw1
        refine wp_region_quiet_below (by kernel_rfl) (by kernel_rfl) ?_
        repeat (go_big_quiet_step ((go_at_call 53; exact Calls.regrown_of (AB.out _))))
        refine wpQuiet_nil ?_
        intro w3 hw3
        replace hw3 := below_of_regrown hw3
        have HW3 := hid (Below.on HB1.out hw3)
        have e0 := cell_regrown (cell_later hw3 HC0.out)
        have HW13 := hid hw3
        clear c0 t0 t1 t2 a1 a2 a3 hw3
        have b0 := cell_regrown (cell_later HW13.out HV2.out.c0)
        have f0 := cell_regrown (cell_later HW13.out HV1.out.c0)
        go_wp2_with fail
        refine wp_region_quiet_below (by kernel_rfl) (by kernel_rfl) ?_
        repeat (go_big_quiet_step (fail))
        refine wpQuiet_nil ?_
        intro w4 hw4
        replace hw4 := below_of_regrown hw4
        clear e0
        go_wp2_with fail
        go_ret
        exact ⟨ret_bool HU.out.symm, Below.on HW3.out hw4⟩
end Go.Proofs.YtmlacdfdpdkdaaaDoor.Vs
/- The document's Read. -/
namespace Go.Proofs.YtmlacdfdpdkdaaaDoor.Vs
open Go.RowKit Go.Sort
set_option linter.unusedVariables false

def reE (L : List Kv) (mk : Sp) (lo hi : ByteArray) (t : Sp) : Int := if t.lt mk then 90 else if 512 < (walkL (rdG lo hi t) L).length then 142 else 0
def reL (L : List Kv) (mk : Sp) (lo hi : ByteArray) (t : Sp) : Prs := if reE L mk lo hi t = 0 then walkL (rdG lo hi t) L else []
theorem re_is {M : Mst} (h : Good M) (mk : Sp) (lo hi : ByteArray) (t : Sp) : reE (dumpM M) mk lo hi t = rdE M mk lo hi t ∧ reL (dumpM M) mk lo hi t = rdL M mk lo hi t := by
  have e : reE (dumpM M) mk lo hi t = rdE M mk lo hi t := by unfold reE rdE; rw [read_flat h]
  exact ⟨e, by unfold reL rdL; rw [e, read_flat h]⟩
/-- what is gathered so far -/
structure Ga {β : Type} (g : Kv → List Kv → List β) (L : List Kv) (k : Nat) (l : List β) : Prop where
  eq : l ++ walkL g (L.drop k) = walkL g L
  le : l.length ≤ k
theorem Ga.start {β : Type} (g : Kv → List Kv → List β) (L : List Kv) : Ga g L 0 [] := ⟨rfl, Nat.le_refl _⟩
theorem Ga.skip {β : Type} {g : Kv → List Kv → List β} {L : List Kv} {k : Nat} {l : List β} (h : Ga g L k l) (hk : k < L.length) (hg : g (nthK L k) (L.drop (k + 1)) = []) : Ga g L (k + 1) l :=
  ⟨by have := h.eq; rw [walk_at g L k hk, hg, List.nil_append] at this; exact this, Nat.le_succ_of_le h.le⟩
theorem Ga.take {β : Type} {g : Kv → List Kv → List β} {L : List Kv} {k : Nat} {l : List β} {x : β} (h : Ga g L k l) (hk : k < L.length) (hg : g (nthK L k) (L.drop (k + 1)) = [x]) : Ga g L (k + 1) (l ++ [x]) :=
  ⟨by have := h.eq; rw [walk_at g L k hk, hg] at this; rw [List.append_assoc]; exact this, by have := h.le; simp; omega⟩
theorem Ga.end {β : Type} {g : Kv → List Kv → List β} {L : List Kv} {l : List β} (h : Ga g L L.length l) : l = walkL g L := by
  have := h.eq
  rw [List.drop_length, walkL, List.append_nil] at this
  exact this
structure StC (w : World) (b : Nat) (t : Sp) : Prop where
  c0 : w.cell? ⟨b, 0, none⟩ = some (.int .u64 t.a)
  c1 : w.cell? ⟨b, 1, none⟩ = some (.int .u32 t.b)
  c2 : w.cell? ⟨b, 2, none⟩ = some (.int .u32 t.c)
theorem StC.later {w w' : World} {b : Nat} {t : Sp} (h : StC w b t) (hb : Below w.heap.size w w') : StC w' b t := ⟨cell_later hb h.c0, cell_later hb h.c1, cell_later hb h.c2⟩
/-- what Read answers -/
def ReP (w : World) (L : List Kv) (mk : Sp) (lo hi : ByteArray) (t : Sp) (e : Ending) (w' : World) : Prop := ∃ z, e = .returned (.tuple #[z, .int .i64 (reE L mk lo hi t)]) ∧ OwnP w' w.heap.size z (reL L mk lo hi t) ∧ Below w.heap.size w w'

set_option maxRecDepth 16000 in
set_option maxHeartbeats 4000000 in
theorem rread_is {w : World} {B r : Nat} {v : Value} {L : List Kv} {mk : Sp} (h : Rs w B r v L mk) (hl : L.length ≤ 1099511627776) (lo hi : ByteArray) (t : Sp) :
    Calls Tryd.prog 20 #[pt r, .agg #[.string lo, .string hi], sv t] w (ReP w L mk lo hi t) := by
  obtain ⟨a, c, rfl, hrow⟩ := h.slice
  obtain ⟨w1, hw1⟩ : ∃ w1, w1 = (w.alloc (.cells #[.string lo, .string hi] 38)).alloc (.cells #[.int .u64 t.a, .int .u32 t.b, .int .u32 t.c] 33) := ⟨_, rfl⟩
  have hb1 : Below w.heap.size w w1 := by rw [hw1]; (repeat (first | with_reducible exact Below.refl _ _ | with_reducible assumption | with_reducible refine Below.drew ?_ | with_reducible refine Below.al ?_ _ | with_reducible refine Below.setCell ?_ (by first | exact Nat.le_refl _ | (simp; omega) | (simp; done)) _ | with_reducible refine Below.on ?_ (by assumption)))
  have HS : Hid (w1.cell? ⟨w.heap.size, 0, none⟩ = some (.string lo) ∧ w1.cell? ⟨w.heap.size, 1, none⟩ = some (.string hi)) := hid (by rw [hw1]; exact ⟨by simp, by simp⟩)
  have HT : Hid (w1.cell? ⟨w.heap.size + 1, 0, none⟩ = some (.int .u64 t.a) ∧ w1.cell? ⟨w.heap.size + 1, 1, none⟩ = some (.int .u32 t.b) ∧ w1.cell? ⟨w.heap.size + 1, 2, none⟩ = some (.int .u32 t.c)) := hid (by rw [hw1]; exact ⟨by simp, by simp, by simp⟩)
  have HR := hid (h.later hb1)
  have HROW := hid (hrow.later hb1)
  have HB1 := hid hb1
  have c1 := cell_regrown HR.out.c1
  have c2 := cell_regrown HR.out.c2
  have c3 := cell_regrown HR.out.c3
  have t0 := cell_regrown HT.out.1
  have t1 := cell_regrown HT.out.2.1
  have t2 := cell_regrown HT.out.2.2
  obtain ⟨n, hn⟩ : ∃ n, n = L.length := ⟨_, rfl⟩
  have HN := hid hn
  have hn2 : n ≤ 1099511627776 := by omega
  clear h hrow hb1 hn
  obtain ⟨u, hu⟩ : ∃ u, t.lt mk = u := ⟨_, rfl⟩
  have AB := hid fun wz => rabove_is (s := mk) (t := t) hu wz
  have HU := hid hu
  clear hu
  cases u with
  | true =>
    go_enter Tryd.func20, Tryd.ntmps20
    go_wp2_with fail
    rw [← hw1]
    clear hw1
    refine wp_region_quiet_below (by kernel_rfl) (by kernel_rfl) ?_
    repeat (go_big_quiet_step ((go_at_call 53; exact Calls.regrown_of (AB.out _))))
    refine wpQuiet_nil ?_
    intro w3 hw3
    replace hw3 := below_of_regrown hw3
    clear c1 c2 c3 t0 t1 t2
    go_wp2_with fail
    go_ret2
    have e : reE L mk lo hi t = 90 := by unfold reE; rw [HU.out]; rfl
    exact ⟨.slice none 0 0, by rw [e]; rfl, by unfold reL; rw [e]; exact OwnP.nil _ _, Below.on HB1.out hw3⟩
  | false =>
    go_enter Tryd.func20, Tryd.ntmps20
    go_wp2_with fail
    rw [← hw1]
    clear hw1
    refine wp_region_quiet_below (by kernel_rfl) (by kernel_rfl) ?_
    repeat (go_big_quiet_step ((go_at_call 53; exact Calls.regrown_of (AB.out _))))
    refine wpQuiet_nil ?_
    intro w3 hw3
    replace hw3 := below_of_regrown hw3
    have HW3 := hid hw3
    clear c1 c2 c3 t0 t1 t2 hw3
    go_wp2_with fail
    go_loopg [8, 9] n (fun g s8 s9 wr => ∃ k : Nat, ∃ za zc, ∃ l : Prs, k ≤ n ∧ g = n - k ∧ s8 = .slice za l.length zc ∧ s9 = .int .i64 k ∧ l.length ≤ 1099511627776 ∧ Hid (Ga (rdG lo hi t) L k l) ∧ Hid (OwnP wr w3.heap.size (.slice za l.length zc) l) ∧ Hid (Below w3.heap.size w3 wr))
    case atStart => exact ⟨0, none, 0, [], by omega, by omega, rfl, rfl, by simp, hid (Ga.start _ _), hid (OwnP.nil _ _), hid (Below.refl _ _)⟩
    case round =>
      obtain ⟨k, za, zc, l, hk, rfl, rfl, rfl, hll, HG, HO, HB⟩ := hrel
      have HRr := hid (HR.out.later (Below.on HW3.out HB.out))
      have c0 := HRr.out.c0
      rw [← HN.out] at c0
      by_cases hlt : k < n
      · have hkL : k < L.length := by rw [← HN.out]; exact hlt
        obtain ⟨b, off, rfl, hv⟩ := (HROW.out.later (Below.on HW3.out HB.out)) k hkL
        obtain ⟨⟨k1, s1, d1, v1⟩, hx⟩ : ∃ x, x = nthK L k := ⟨_, rfl⟩
        rw [← hx] at hv
        obtain ⟨x0, x1, x2, x3, x4, x5⟩ := hv
        simp only at x0 x1 x2 x3 x4 x5
        obtain ⟨p0, p1⟩ := HS.out
        have HX := hid hx
        have HKL := hid hkL
        obtain ⟨ui, hui⟩ : ∃ ui, inS lo hi k1 = ui := ⟨_, rfl⟩
        obtain ⟨un, hun⟩ : ∃ un, nwB t (nthK L k) (L.drop (k + 1)) = un := ⟨_, rfl⟩
        have HI := hid fun wz => rinside_is (k := k1) hui wz
        have HNW := hid fun wz (hb : Below wr.heap.size wr wz) => newest_is (HRr.out.later hb) hkL hl hun
        have HGV : Hid (rdG lo hi t (nthK L k) (L.drop (k + 1)) = if ui && un && !d1 then [(k1, v1)] else []) := hid (by unfold rdG; rw [hun, ← hx]; simp only; rw [hui])
        have HT3 : Hid (StC wr (w.heap.size + 1) t) := hid ⟨cell_later (Below.on HW3.out HB.out) HT.out.1, cell_later (Below.on HW3.out HB.out) HT.out.2.1, cell_later (Below.on HW3.out HB.out) HT.out.2.2⟩
        have HVX : Hid (VerAt (wr.alloc (.cells (vcs k1 ⟨s1, d1, v1⟩) 76)) wr.heap.size 0 k1 ⟨s1, d1, v1⟩) := hid (ver_cells _ _ _)
        have r0 := cell_later (Below.al (Below.on HW3.out HB.out) (.cells (vcs k1 ⟨s1, d1, v1⟩) 76)) p0
        have r1 := cell_later (Below.al (Below.on HW3.out HB.out) (.cells (vcs k1 ⟨s1, d1, v1⟩) 76)) p1
        clear p0 p1 hx hui hun hkL
        cases ui with
        | false =>
          go_wp2_with (first | (go_at_call 54; refine (HI.out _).mono ?_; rintro e w5 ⟨rfl, hb5⟩; have HB5 := hid (Below.on (Below.al (Below.refl _ _) _) hb5 : Below wr.heap.size wr w5); have q0 := (HT3.out.later HB5.out).c0; have q1 := (HT3.out.later HB5.out).c1; have q2 := (HT3.out.later HB5.out).c2; have y4 := (HVX.out.later hb5).c4; have y0 := (HVX.out.later hb5).c0; have y5 := (HVX.out.later hb5).c5; have HVX5 := hid (HVX.out.later hb5); clear hb5) | (go_at_call 55; refine (HNW.out _ HB5.out).mono ?_; rintro e w6 ⟨rfl, hb6⟩; have HB6 := hid (Below.on HB5.out hb6); have y4 := (HVX5.out.later hb6).c4; have y0 := (HVX5.out.later hb6).c0; have y5 := (HVX5.out.later hb6).c5; clear hb6))
          go_roundg (n - (k + 1))
          case measure => omega
          case rel => exact ⟨k + 1, za, zc, l, by omega, rfl, rfl, by go_num, hll, hid (HG.out.skip HKL.out (by rw [HGV.out]; rfl)), hid (HO.out.later HB5.out), hid (Below.on HB.out HB5.out)⟩
        | true =>
          cases un with
          | false =>
            go_wp2_with (first | (go_at_call 54; refine (HI.out _).mono ?_; rintro e w5 ⟨rfl, hb5⟩; have HB5 := hid (Below.on (Below.al (Below.refl _ _) _) hb5 : Below wr.heap.size wr w5); have q0 := (HT3.out.later HB5.out).c0; have q1 := (HT3.out.later HB5.out).c1; have q2 := (HT3.out.later HB5.out).c2; have y4 := (HVX.out.later hb5).c4; have y0 := (HVX.out.later hb5).c0; have y5 := (HVX.out.later hb5).c5; have HVX5 := hid (HVX.out.later hb5); clear hb5) | (go_at_call 55; refine (HNW.out _ HB5.out).mono ?_; rintro e w6 ⟨rfl, hb6⟩; have HB6 := hid (Below.on HB5.out hb6); have y4 := (HVX5.out.later hb6).c4; have y0 := (HVX5.out.later hb6).c0; have y5 := (HVX5.out.later hb6).c5; clear hb6))
            go_roundg (n - (k + 1))
            case measure => omega
            case rel => exact ⟨k + 1, za, zc, l, by omega, rfl, rfl, by go_num, hll, hid (HG.out.skip HKL.out (by rw [HGV.out]; rfl)), hid (HO.out.later HB6.out), hid (Below.on HB.out HB6.out)⟩
          | true =>
            cases d1 with
            | true =>
              go_wp2_with (first | (go_at_call 54; refine (HI.out _).mono ?_; rintro e w5 ⟨rfl, hb5⟩; have HB5 := hid (Below.on (Below.al (Below.refl _ _) _) hb5 : Below wr.heap.size wr w5); have q0 := (HT3.out.later HB5.out).c0; have q1 := (HT3.out.later HB5.out).c1; have q2 := (HT3.out.later HB5.out).c2; have y4 := (HVX.out.later hb5).c4; have y0 := (HVX.out.later hb5).c0; have y5 := (HVX.out.later hb5).c5; have HVX5 := hid (HVX.out.later hb5); clear hb5) | (go_at_call 55; refine (HNW.out _ HB5.out).mono ?_; rintro e w6 ⟨rfl, hb6⟩; have HB6 := hid (Below.on HB5.out hb6); have y4 := (HVX5.out.later hb6).c4; have y0 := (HVX5.out.later hb6).c0; have y5 := (HVX5.out.later hb6).c5; clear hb6))
              go_roundg (n - (k + 1))
              case measure => omega
              case rel => exact ⟨k + 1, za, zc, l, by omega, rfl, rfl, by go_num, hll, hid (HG.out.skip HKL.out (by rw [HGV.out]; rfl)), hid (HO.out.later HB6.out), hid (Below.on HB.out HB6.out)⟩
            | false =>
              have HL1 : Hid ((l.length + 1) * 64 ≤ 140737488355328) := hid (by omega)
              have HLE : Hid (l.length + 1 ≤ 1099511627776) := hid (by have := HG.out.le; omega)
              go_wp2_with (first | (go_at_call 54; refine (HI.out _).mono ?_; rintro e w5 ⟨rfl, hb5⟩; have HB5 := hid (Below.on (Below.al (Below.refl _ _) _) hb5 : Below wr.heap.size wr w5); have q0 := (HT3.out.later HB5.out).c0; have q1 := (HT3.out.later HB5.out).c1; have q2 := (HT3.out.later HB5.out).c2; have y4 := (HVX.out.later hb5).c4; have y0 := (HVX.out.later hb5).c0; have y5 := (HVX.out.later hb5).c5; have HVX5 := hid (HVX.out.later hb5); clear hb5) | (go_at_call 55; refine (HNW.out _ HB5.out).mono ?_; rintro e w6 ⟨rfl, hb6⟩; have HB6 := hid (Below.on HB5.out hb6); have HO6 := hid (HO.out.later HB6.out); have HW36 := hid (Below.on HB.out HB6.out); have y4 := (HVX5.out.later hb6).c4; have y0 := (HVX5.out.later hb6).c0; have y5 := (HVX5.out.later hb6).c5; clear hb6) | (at_builtin; refine append_P rfl _ _ rfl (k1, v1) rfl (HO6.out.later (Below.al (Below.refl _ _) _)) rfl (new2P _ k1 v1 _) HL1.out (by have := HW36.out.size; simp at this ⊢; omega) ?_; intro v7 w7 ho hg; obtain ⟨za', zc', e9⟩ := OwnP.slice ho; subst e9; have HO7 := hid ho; have HB7 : Hid (Below w3.heap.size w3 w7) := hid (OwnP.grown (HO6.out.later (Below.al (Below.refl _ _) (.cells #[.string k1, .string v1] 40))) hg (Below.al HW36.out _) (Nat.le_refl _)); clear ho hg))
              go_roundg (n - (k + 1))
              case measure => omega
              case rel => exact ⟨k + 1, za', zc', l ++ [(k1, v1)], by omega, rfl, by rw [List.length_append]; rfl, by go_num, by rw [List.length_append]; exact HLE.out, hid (HG.out.take HKL.out (by rw [HGV.out]; rfl)), HO7, HB7⟩
      · obtain rfl : n = k := by omega
        have HE : Hid (l = walkL (rdG lo hi t) L) := hid (by have := HG.out; rw [HN.out] at this; exact this.end)
        have HBW := hid (Below.on HB1.out (Below.on HW3.out HB.out))
        have HO2 : Hid (OwnP wr w.heap.size (.slice za l.length zc) l) := hid (HO.out.base (Nat.le_trans HB1.out.size HW3.out.size))
        by_cases h5 : 512 < l.length
        · have h5' : (512 : Int) < (l.length : Int) := by omega
          have e : reE L mk lo hi t = 142 := by
            unfold reE; rw [HU.out, ← HE.out]; simp [h5]
          have HEE := hid e
          clear e
          go_wp2_with fail
          go_ret2
          exact ⟨.slice none 0 0, by rw [HEE.out]; rfl, by unfold reL; rw [HEE.out]; exact OwnP.nil _ _, HBW.out⟩
        · have h5' : ¬ (512 : Int) < (l.length : Int) := by omega
          have e : reE L mk lo hi t = 0 := by
            unfold reE; rw [HU.out, ← HE.out]; simp [h5]
          have HEE := hid e
          clear e
          go_wp2_with fail
          go_ret2
          exact ⟨.slice za l.length zc, by rw [HEE.out]; rfl, by unfold reL; rw [HEE.out, ← HE.out]; exact HO2.out, HBW.out⟩
end Go.Proofs.YtmlacdfdpdkdaaaDoor.Vs
/- The document's New, Len, Watermark, Dump, Above. -/
namespace Go.Proofs.YtmlacdfdpdkdaaaDoor.Vs
open Go.RowKit Go.Sort
set_option linter.unusedVariables false

theorem rnew_is (w : World) : Calls Tryd.prog 7 #[] w fun e w' => e = .returned (pt w.heap.size) ∧ Rs w' w.heap.size w.heap.size (.slice none 0 0) [] ⟨0, 0, 0⟩ ∧ Below w.heap.size w w' := by
  have HT : Hid (Rs (w.alloc (.cells #[.slice none 0 0, .int .u64 0, .int .u32 0, .int .u32 0] 83)) w.heap.size w.heap.size (.slice none 0 0) [] ⟨0, 0, 0⟩) := hid ⟨World.alloc_heap_new _ _, OwnV.nil _ _, by simp [Value.ownBlock]⟩
  go_enter Tryd.func7, Tryd.ntmps7
  go_wp2_with fail
  go_ret
  exact ⟨rfl, HT.out, Below.al (Below.refl _ _) _⟩
theorem rlen_is {w : World} {B r : Nat} {v : Value} {L : List Kv} {mk : Sp} (h : Rs w B r v L mk) : Calls Tryd.prog 28 #[pt r] w fun e w' => e = .returned (.int .i64 (L.length : Nat)) ∧ w' = w := by
  obtain ⟨a, c, rfl, _⟩ := h.slice
  have c0 := h.c0
  clear h
  go_enter Tryd.func28, Tryd.ntmps28
  go_wp2_with fail
  go_ret
  exact ⟨rfl, rfl⟩
theorem rmark_is {w : World} {B r : Nat} {v : Value} {L : List Kv} {mk : Sp} (h : Rs w B r v L mk) : Calls Tryd.prog 26 #[pt r] w fun e w' => e = .returned (sv mk) ∧ Below w.heap.size w w' := by
  have hb : Below w.heap.size w (w.alloc (.cells #[.int .u64 0, .int .u32 0, .int .u32 0] 33)) := Below.al (Below.refl _ _) _
  have c1 := cell_later hb h.c1
  have c2 := cell_later hb h.c2
  have c3 := cell_later hb h.c3
  clear h hb
  go_enter Tryd.func26, Tryd.ntmps26
  go_wp2_with fail
  refine bodyPost_ret (v := sv mk) (by simp [results, Tryd.results26, go_sem]) rfl ⟨rfl, ?_⟩
  (repeat (first | with_reducible exact Below.refl _ _ | with_reducible assumption | with_reducible refine Below.drew ?_ | with_reducible refine Below.al ?_ _ | with_reducible refine Below.setCell ?_ (by first | exact Nat.le_refl _ | (simp; omega) | (simp; done)) _ | with_reducible refine Below.on ?_ (by assumption)))
/-- what Dump answers -/
def DuP (w : World) (L : List Kv) (e : Ending) (w' : World) : Prop := ∃ z, e = .returned z ∧ OwnV w' w.heap.size z L ∧ Below w.heap.size w w'
set_option maxRecDepth 16000 in
set_option maxHeartbeats 4000000 in
theorem rdump_is {w : World} {B r : Nat} {v : Value} {L : List Kv} {mk : Sp} (h : Rs w B r v L mk) (hl : L.length ≤ 1099511627776) : Calls Tryd.prog 31 #[pt r] w (DuP w L) := by
  obtain ⟨a, c, rfl, hrow⟩ := h.slice
  have HR := hid h
  have HROW := hid hrow
  obtain ⟨n, hn⟩ : ∃ n, n = L.length := ⟨_, rfl⟩
  have HN := hid hn
  have hn2 : n ≤ 1099511627776 := by omega
  clear h hrow hn hl
  go_enter Tryd.func31, Tryd.ntmps31
  go_wp2_with fail
  go_loopg [3, 4] n (fun g s3 s4 wr => ∃ k : Nat, ∃ za zc, k ≤ n ∧ g = n - k ∧ s3 = .slice za k zc ∧ s4 = .int .i64 k ∧ Hid (OwnV wr w.heap.size (.slice za k zc) (L.take k)) ∧ Hid (Below w.heap.size w wr))
  case atStart => exact ⟨0, none, 0, by omega, by omega, rfl, rfl, hid (by rw [List.take_zero]; exact OwnV.nil _ _), hid (Below.refl _ _)⟩
  case round =>
    obtain ⟨k, za, zc, hk, rfl, rfl, rfl, HO, HB⟩ := hrel
    have c0 := (HR.out.later HB.out).c0
    rw [← HN.out] at c0
    by_cases hlt : k < n
    · have hkL : k < L.length := by rw [← HN.out]; exact hlt
      obtain ⟨b, off, rfl, hv⟩ := (HROW.out.later HB.out) k hkL
      have HTK := hid (nthK_take hkL)
      obtain ⟨⟨k1, s1, d1, v1⟩, hx⟩ : ∃ x, x = nthK L k := ⟨_, rfl⟩
      rw [← hx] at hv HTK
      obtain ⟨x0, x1, x2, x3, x4, x5⟩ := hv
      simp only at x0 x1 x2 x3 x4 x5
      have hlen : (L.take k).length = k := by rw [List.length_take]; omega
      have HL1 : Hid (((L.take k).length + 1) * 64 ≤ 140737488355328) := hid (by rw [hlen]; omega)
      have HLN := hid hlen
      clear hx hkL hlen
      go_wp2_with (at_builtin; refine append_V rfl _ _ rfl (k1, ⟨s1, d1, v1⟩) rfl (HO.out.later (Below.al (Below.refl _ _) _)) rfl (ver_cells _ k1 ⟨s1, d1, v1⟩) HL1.out (by have := HB.out.size; simp at this ⊢; omega) ?_; intro v7 w7 ho hg; have HG7 : Hid (Below w.heap.size w w7) := hid (OwnV.grown (HO.out.later (Below.al (Below.refl _ _) (.cells (vcs k1 ⟨s1, d1, v1⟩) 76))) hg (Below.al HB.out _) (Nat.le_refl _)); rw [← HTK.out] at ho; obtain ⟨za', zc', e9⟩ := OwnV.slice ho; rw [List.length_take, Nat.min_eq_left (by rw [← HN.out]; omega)] at e9; subst e9; have HO7 := hid ho; clear ho hg)
      go_roundg (n - (k + 1))
      case measure => omega
      case rel => exact ⟨k + 1, za', zc', by omega, rfl, rfl, by go_num, HO7, HG7⟩
    · obtain rfl : n = k := by omega
      have HO2 : Hid (OwnV wr w.heap.size (.slice za n zc) L) := hid (by have := HO.out; rw [HN.out, List.take_length] at this; rw [HN.out]; exact this)
      go_wp2_with fail
      go_ret
      exact ⟨_, rfl, HO2.out, HB.out⟩
end Go.Proofs.YtmlacdfdpdkdaaaDoor.Vs
/- The document's Above. -/
namespace Go.Proofs.YtmlacdfdpdkdaaaDoor.Vs
open Go.RowKit Go.Sort
set_option linter.unusedVariables false

def anL (L : List Kv) (lo hi : ByteArray) (t : Sp) : Bool := L.any fun e => inS lo hi e.1 && t.lt e.2.s
theorem anL_take {L : List Kv} {k : Nat} (hk : k < L.length) (lo hi : ByteArray) (t : Sp) : anL (L.take (k + 1)) lo hi t = (anL (L.take k) lo hi t || (inS lo hi (nthK L k).1 && t.lt (nthK L k).2.s)) := by
  rw [nthK_take hk]; simp [anL]
theorem anL_yes {L : List Kv} {k : Nat} {lo hi : ByteArray} {t : Sp} (h : anL (L.take k) lo hi t = true) : anL L lo hi t = true := by
  obtain ⟨e, he, h2⟩ := List.any_eq_true.1 h
  exact List.any_eq_true.2 ⟨e, List.mem_of_mem_take he, h2⟩
set_option maxRecDepth 16000 in
set_option maxHeartbeats 4000000 in
theorem rabv_is {w : World} {B r : Nat} {v : Value} {L : List Kv} {mk : Sp} (h : Rs w B r v L mk) (hl : L.length ≤ 1099511627776) (lo hi : ByteArray) (t : Sp) :
    Calls Tryd.prog 24 #[pt r, .agg #[.string lo, .string hi], sv t] w fun e w' => e = .returned (.bool (anL L lo hi t)) ∧ Below w.heap.size w w' := by
  obtain ⟨a, c, rfl, hrow⟩ := h.slice
  obtain ⟨w1, hw1⟩ : ∃ w1, w1 = (w.alloc (.cells #[.string lo, .string hi] 38)).alloc (.cells #[.int .u64 t.a, .int .u32 t.b, .int .u32 t.c] 33) := ⟨_, rfl⟩
  have hb1 : Below w.heap.size w w1 := by rw [hw1]; (repeat (first | with_reducible exact Below.refl _ _ | with_reducible assumption | with_reducible refine Below.drew ?_ | with_reducible refine Below.al ?_ _ | with_reducible refine Below.setCell ?_ (by first | exact Nat.le_refl _ | (simp; omega) | (simp; done)) _ | with_reducible refine Below.on ?_ (by assumption)))
  have HS : Hid (w1.cell? ⟨w.heap.size, 0, none⟩ = some (.string lo) ∧ w1.cell? ⟨w.heap.size, 1, none⟩ = some (.string hi)) := hid (by rw [hw1]; exact ⟨by simp, by simp⟩)
  have HT : Hid (StC w1 (w.heap.size + 1) t) := hid (by rw [hw1]; exact ⟨by simp, by simp, by simp⟩)
  have HR := hid (h.later hb1)
  have HROW := hid (hrow.later hb1)
  have HB1 := hid hb1
  obtain ⟨n, hn⟩ : ∃ n, n = L.length := ⟨_, rfl⟩
  have HN := hid hn
  have hn2 : n ≤ 1099511627776 := by omega
  obtain ⟨U, hU⟩ : ∃ U, U = anL L lo hi t := ⟨_, rfl⟩
  rw [← hU]
  have HU := hid hU
  clear h hrow hb1 hn hl hU
  go_enter Tryd.func24, Tryd.ntmps24
  go_wp2_with fail
  rw [← hw1]
  clear hw1
  go_loopg [7] n (fun g s7 wr => ∃ k : Nat, k ≤ n ∧ g = n - k ∧ s7 = .int .i64 k ∧ Hid (anL (L.take k) lo hi t = false) ∧ Hid (Below w1.heap.size w1 wr))
  case atStart => exact ⟨0, by omega, by omega, rfl, hid rfl, hid (Below.refl _ _)⟩
  case round =>
    obtain ⟨k, hk, rfl, rfl, HA, HB⟩ := hrel
    have c0 := (HR.out.later HB.out).c0
    rw [← HN.out] at c0
    by_cases hlt : k < n
    · have hkL : k < L.length := by rw [← HN.out]; exact hlt
      obtain ⟨b, off, rfl, hv⟩ := (HROW.out.later HB.out) k hkL
      have HTK := hid (anL_take hkL lo hi t)
      obtain ⟨⟨k1, s1, d1, v1⟩, hx⟩ : ∃ x, x = nthK L k := ⟨_, rfl⟩
      rw [← hx] at hv HTK
      have x0 := cell_regrown hv.c0
      have x1 := cell_regrown hv.c1
      have x2 := cell_regrown hv.c2
      have x3 := cell_regrown hv.c3
      have e0 := cell_regrown c0
      have p0 := cell_regrown (cell_later HB.out HS.out.1)
      have p1 := cell_regrown (cell_later HB.out HS.out.2)
      have t0 := cell_regrown (HT.out.later HB.out).c0
      have t1 := cell_regrown (HT.out.later HB.out).c1
      have t2 := cell_regrown (HT.out.later HB.out).c2
      simp only at x1 x2 x3
      obtain ⟨ui, hui⟩ : ∃ ui, inS lo hi k1 = ui := ⟨_, rfl⟩
      obtain ⟨ua, hua⟩ : ∃ ua, t.lt s1 = ua := ⟨_, rfl⟩
      have HI := hid fun wz => rinside_is (k := k1) hui wz
      have AB := hid fun wz => rabove_is (s := s1) (t := t) hua wz
      have HV : Hid (anL (L.take (k + 1)) lo hi t = (ui && ua)) := hid (by rw [HTK.out, HA.out, hui, hua]; rfl)
      clear hx hkL hv hui hua
      cases ui <;> cases ua
      all_goals
        go_wp2_with fail
        clear c0
        refine wp_region_quiet_below (by kernel_rfl) (by kernel_rfl) ?_
        repeat (go_big_quiet_step (first | (go_at_call 54; exact Calls.regrown_of (HI.out _)) | (go_at_call 53; exact Calls.regrown_of (AB.out _))))
        refine wpQuiet_nil ?_
        intro w3 hw3
        replace hw3 := below_of_regrown hw3
        have HW3 := hid (Below.on HB.out hw3)
        clear hw3 x0 x1 x2 x3 e0 p0 p1 t0 t1 t2
        go_wp2_with fail
      all_goals first
        | (go_ret; exact ⟨ret_bool (by rw [HU.out]; exact (anL_yes HV.out).symm), Below.on HB1.out HW3.out⟩)
        | (go_roundg (n - (k + 1)); (case measure => omega); (case rel => exact ⟨k + 1, by omega, rfl, by go_num, HV, HW3⟩))
    · obtain rfl : n = k := by omega
      have HE : Hid (U = false) := hid (by have := HA.out; rw [HN.out, List.take_length] at this; rw [HU.out]; exact this)
      go_wp2_with fail
      go_ret
      exact ⟨ret_bool HE.out.symm, Below.on HB1.out HB.out⟩
end Go.Proofs.YtmlacdfdpdkdaaaDoor.Vs
