import Derived.Test.YthenfioddnkjbaaGreatDoorRxRange
import Derived.Test.YthenfioddnkjbaaGreatDoorSnRefW
import Derived.Test.YthenfioddnkjbaaGreatDoorRTaking
import Derived.Test.YthenfioddnkjbaaGreatDoorRParts
/- The document's Owner. -/
namespace Go.Proofs.YthenfioddnkjbaaGreatDoor.Rt
open Go.RowKit Go.Sort
set_option linter.unusedVariables false

set_option maxRecDepth 100000 in
set_option maxHeartbeats 4000000 in
theorem rOwner_is {c : Cf} {w : World} (h : c.Ok w) (k : ByteArray) :
    Calls Tryz.prog 26 #[c.val, .string k] w fun e w' => e = .returned (.int .u32 (c.own k : Int)) ∧ Below w.heap.size w w' := by
  have H := hid h
  clear h
  have HU : Hid (c.own k = if c.okB then ownN c.ss k else 0) := hid rfl
  have HB := hid (BoxC.new w c 26)
  go_enter Tryz.func26, Tryz.ntmps26
  go_wp2_with fail
  refine (rvalid_is (H.out.later (by (repeat (first | exact Below.refl _ _ | assumption | refine Below.drew ?_ | refine Below.al ?_ _ | refine Below.setCell ?_ (by first | exact Nat.le_refl _ | (simp; omega) | (simp; done)) _ | refine Below.on ?_ (by assumption))))) rfl).mono ?_
  rintro e w1 ⟨rfl, hw1⟩
  have HB1 := hid (HB.out.later hw1)
  have HW : Hid (Below w.heap.size w w1) := hid (by (repeat (first | exact Below.refl _ _ | assumption | refine Below.drew ?_ | refine Below.al ?_ _ | refine Below.setCell ?_ (by first | exact Nat.le_refl _ | (simp; omega) | (simp; done)) _ | refine Below.on ?_ (by assumption))))
  clear hw1 HB
  cases ho : c.okB
  · go_wp2_with fail
    go_ret
    exact ⟨by rw [HU.out, ho]; rfl, HW.out⟩
  · have hl5 := (ok_len ho).1
    obtain ⟨N, hN⟩ : ∃ N, N = c.ss.length + 1 := ⟨_, rfl⟩
    have HSH : Hid (c.sh = (N : Int)) := hid (by rw [(ok_len ho).2.1, hN]; simp)
    have HNN := hid hN
    have hN6 : N ≤ 6 := by omega
    have HRI := hid (ok_len ho).2.2
    clear hN
    go_wp2_with fail
    go_loopg [5] N (fun g s5 wr => ∃ n : Nat, n ≤ N ∧ g = N - n ∧ s5 = .int .i64 n ∧ Hid (∀ i, i < n → ownN c.ss k ≠ i) ∧ Hid (Below w1.heap.size w1 wr))
    case atStart => exact ⟨0, by omega, by omega, rfl, hid (fun i hi => by omega), hid (Below.refl _ _)⟩
    case round =>
      obtain ⟨n, hn, rfl, rfl, HO, HX⟩ := hrel
      obtain ⟨c0, c1, c2, c3, c4, c5⟩ := HB1.out.later HX.out
      rw [HSH.out] at c0
      by_cases hlt : n < N
      · have HR : Hid (Calls Tryz.prog 77 #[.agg #[.int .i64 (N : Int), .int .i64 c.cl, .slice c.a c.ss.length c.cp, .int .i64 c.ca, .int .i64 c.pk, .int .u64 c.wi], .int .i64 (n : Int)] wr fun e w' => e = .returned (spv (reachN c.ss n)) ∧ Below wr.heap.size wr w') := by
          show Calls _ _ _ _ _
          rw [← HSH.out]
          exact rranges_is (H.out.later (Below.on HW.out HX.out)) hl5 (by have := HNN.out; omega)
        have HI : Hid (∀ W, Calls Tryz.prog 76 #[.string k, spv (reachN c.ss n)] W fun e w' => e = .returned (.bool (decide (ownN c.ss k = n))) ∧ Below W.heap.size W w') := hid (fun W => by
          have h := rinside_is k (reachN c.ss n) W
          rw [ins_reach HRI.out k (by have := HNN.out; omega)] at h
          exact h)
        obtain ⟨⟨rl, rh⟩, hr⟩ : ∃ r, r = reachN c.ss n := ⟨_, rfl⟩
        rw [← hr] at HR HI
        clear hr
        by_cases he : ownN c.ss k = n
        · have HF : Hid (c.own k = n) := by show _ = _; rw [HU.out, ho, if_pos rfl, he]
          rw [decide_eq_true he] at HI
          clear he
          go_wp2_with fail
          refine HR.out.mono ?_
          rintro e w2 ⟨rfl, hb2⟩
          go_wp2_with fail
          refine (HI.out _).mono ?_
          rintro e w3 ⟨rfl, hb3⟩
          have HB3 := hid (Below.on HW.out (Below.on HX.out (Below.on hb2 hb3)))
          clear hb2 hb3
          go_wp2_with fail
          go_ret
          exact ⟨by rw [HF.out]; go_num, HB3.out⟩
        · have HO2 : Hid (∀ i, i < n + 1 → ownN c.ss k ≠ i) := fun i hi => by
            by_cases e : i = n
            · rw [e]; exact he
            · exact HO.out i (by omega)
          rw [decide_eq_false he] at HI
          clear he
          go_wp2_with fail
          refine HR.out.mono ?_
          rintro e w2 ⟨rfl, hb2⟩
          go_wp2_with fail
          refine (HI.out _).mono ?_
          rintro e w3 ⟨rfl, hb3⟩
          have HB3 := hid (Below.on HX.out (Below.on hb2 hb3))
          clear hb2 hb3
          go_wp2_with fail
          go_roundg (N - (n + 1))
          case measure => omega
          case rel => exact ⟨n + 1, by omega, rfl, by go_num, HO2, HB3⟩
      · exfalso
        have h1 := own_le c.ss k
        have h2 := HNN.out
        exact HO.out (ownN c.ss k) (by omega) rfl
end Go.Proofs.YthenfioddnkjbaaGreatDoor.Rt
/- The document's Cut. -/
namespace Go.Proofs.YthenfioddnkjbaaGreatDoor.Rt
open Go.RowKit Go.Sort
set_option linter.unusedVariables false

theorem cutN_join (ss : List ByteArray) (s : T2) (n : Nat) : cutN ss s (n + 1) = cutN ss s n ++ if !void (join s (reachN ss n)) then [(n, join s (reachN ss n))] else [] := by
  rw [cutN, comm, join_comm s]
  cases void (join (reachN ss n) s) <;> rfl
set_option maxRecDepth 100000 in
set_option maxHeartbeats 4000000 in
theorem rCut_is {c : Cf} {w : World} (h : c.Ok w) (s : T2) :
    Calls Tryz.prog 29 #[c.val, spv s] w fun e w' => ∃ v, e = .returned v ∧ OwnP w' w.heap.size v (c.cutA s) ∧ Below w.heap.size w w' := by
  obtain ⟨lo, hi⟩ := s
  have HU : Hid (c.cutA (lo, hi) = if c.okB then cutL c.ss (lo, hi) else []) := hid rfl
  obtain ⟨wz, hwz⟩ : ∃ wz, wz = (w.alloc (.cells #[.int .i64 c.sh, .int .i64 c.cl, .slice c.a c.ss.length c.cp, .int .i64 c.ca, .int .i64 c.pk, .int .u64 c.wi] 26)).alloc (.cells #[.string lo, .string hi] 49) := ⟨_, rfl⟩
  have hbz : Below w.heap.size w wz := by rw [hwz]; (repeat (first | exact Below.refl _ _ | assumption | refine Below.drew ?_ | refine Below.al ?_ _ | refine Below.setCell ?_ (by first | exact Nat.le_refl _ | (simp; omega) | (simp; done)) _ | refine Below.on ?_ (by assumption)))
  have hC : BoxC wz w.heap.size c := by rw [hwz]; exact (BoxC.new w c _).later (Below.al (Below.refl _ _) _)
  have hS : wz.cell? ⟨w.heap.size + 1, 0, none⟩ = some (.string lo) ∧ wz.cell? ⟨w.heap.size + 1, 1, none⟩ = some (.string hi) := by rw [hwz]; constructor <;> simp [go_sem]
  have HVD := hid (rvalid_is (h.later hbz) rfl)
  have HCz := hid hC
  have HSz := hid hS
  have HBz := hid hbz
  have Hz := hid (h.later hbz)
  clear h hbz hC hS
  go_enter Tryz.func29, Tryz.ntmps29
  go_wp2_with fail
  rw [← hwz]
  clear hwz
  refine HVD.out.mono ?_
  rintro e w0 ⟨rfl, hb0⟩
  have HC : Hid (BoxC w0 w.heap.size c) := hid (HCz.out.later hb0)
  have HS : Hid (w0.cell? ⟨w.heap.size + 1, 0, none⟩ = some (.string lo) ∧ w0.cell? ⟨w.heap.size + 1, 1, none⟩ = some (.string hi)) := hid ⟨cell_later hb0 HSz.out.1, cell_later hb0 HSz.out.2⟩
  have H := hid (Hz.out.later hb0)
  have HB0 : Hid (Below w.heap.size w w0) := hid (Below.on HBz.out hb0)
  have hz0 := HB0.out.size
  clear hb0 HCz HSz HBz Hz HVD
  cases ho : c.okB
  · go_wp2_with fail
    go_ret
    exact ⟨_, rfl, by rw [HU.out, ho]; exact OwnP.nil _ _, HB0.out⟩
  · have hl := (ok_len ho).1
    obtain ⟨N, hN⟩ : ∃ N, N = c.ss.length + 1 := ⟨_, rfl⟩
    have HSH : Hid (c.sh = (N : Int)) := hid (by rw [(ok_len ho).2.1, hN]; simp)
    have HN := hid hN
    have hN6 : N ≤ 6 := by omega
    have HU2 : Hid (c.cutA (lo, hi) = cutN c.ss (lo, hi) N) := by show _ = _; rw [HU.out, ho, if_pos rfl, cutL, ← hN]
    clear hN
    go_wp2_with fail
    go_loopg [5, 6] N (fun g s5 s6 wr => ∃ n : Nat, n ≤ N ∧ g = N - n ∧ s6 = .int .i64 n ∧ Hid (OwnP wr w0.heap.size s5 (cutN c.ss (lo, hi) n)) ∧ Hid (Below w0.heap.size w0 wr))
    case atStart => exact ⟨0, by omega, by omega, rfl, hid (OwnP.nil _ _), hid (Below.refl _ _)⟩
    case round =>
      obtain ⟨n, hn, rfl, rfl, HO, HW⟩ := hrel
      obtain ⟨v5, hv5⟩ : ∃ v5, v5 = u5 := ⟨_, rfl⟩
      rw [← hv5] at HO
      rw [← hv5]
      clear hv5
      obtain ⟨c0, c1, c2, c3, c4, c5⟩ := HC.out.later HW.out
      rw [HSH.out] at c0
      by_cases hlt : n < N
      · have s0 := cell_later HW.out HS.out.1
        have s1 := cell_later HW.out HS.out.2
        obtain ⟨r, hr⟩ : ∃ r, r = reachN c.ss n := ⟨_, rfl⟩
        obtain ⟨rl, rh⟩ := r
        obtain ⟨t, hb⟩ : ∃ t, t = join (lo, hi) (rl, rh) := ⟨_, rfl⟩
        obtain ⟨tl, th⟩ := t
        obtain ⟨tb, htb⟩ : ∃ tb, tb = !void (tl, th) := ⟨_, rfl⟩
        have HT : Hid (cutN c.ss (lo, hi) (n + 1) = cutN c.ss (lo, hi) n ++ if tb then [(n, (tl, th))] else []) := hid (by rw [cutN_join, ← hr, ← hb, ← htb])
        have hcl := cut_len c.ss (lo, hi) n
        have HR : Hid (∀ W, Below wr.heap.size wr W → Calls Tryz.prog 77 #[.agg #[.int .i64 (N : Int), .int .i64 c.cl, .slice c.a c.ss.length c.cp, .int .i64 c.ca, .int .i64 c.pk, .int .u64 c.wi], .int .i64 (n : Int)] W fun e w' => e = .returned (spv (rl, rh)) ∧ Below W.heap.size W w') := hid (fun W hW => by rw [← HSH.out, hr]; exact rranges_is (H.out.later (Below.on HW.out hW)) hl (by have := HN.out; omega))
        have HM : Hid (∀ W, Calls Tryz.prog 79 #[spv (lo, hi), spv (rl, rh)] W fun e w' => e = .returned (.tuple #[spv (tl, th), .bool tb]) ∧ Below W.heap.size W w') := hid (fun W => by
          have := rcommon_is (lo, hi) (rl, rh) W
          rw [← hb, ← htb] at this
          exact this)
        clear hb hr htb
        go_wp2_with fail
        go_cut [7, 8] (fun s7 s8 wx => ∃ q : Nat, s7 = .pointer (some ⟨q, 0, none⟩) ∧ s8 = .bool tb ∧ wx.cell? ⟨q, 0, none⟩ = some (.string tl) ∧ wx.cell? ⟨q, 1, none⟩ = some (.string th) ∧ Below wr.heap.size wr wx)
        case first =>
          go_region_held3 (fun w' => w'.cell? ⟨w.heap.size, 0, none⟩ = some (.int .i64 (N : Int)) ∧ w'.cell? ⟨w.heap.size, 1, none⟩ = some (.int .i64 c.cl) ∧ w'.cell? ⟨w.heap.size, 2, none⟩ = some (.slice c.a c.ss.length c.cp) ∧ w'.cell? ⟨w.heap.size, 3, none⟩ = some (.int .i64 c.ca) ∧ w'.cell? ⟨w.heap.size, 4, none⟩ = some (.int .i64 c.pk) ∧ w'.cell? ⟨w.heap.size, 5, none⟩ = some (.int .u64 c.wi) ∧ w'.cell? ⟨w.heap.size + 1, 0, none⟩ = some (.string lo) ∧ w'.cell? ⟨w.heap.size + 1, 1, none⟩ = some (.string hi) ∧ Below wr.heap.size wr w')
            ((refine (fun (hB : Below wr.heap.size wr _) => ⟨cell_later hB c0, cell_later hB c1, cell_later hB c2, cell_later hB c3, cell_later hB c4, cell_later hB c5, cell_later hB s0, cell_later hB s1, hB⟩) ?_; (repeat (first | with_reducible exact Below.refl _ _ | with_reducible assumption | with_reducible refine Below.drew ?_ | with_reducible refine Below.al ?_ _ | with_reducible refine Below.setCell ?_ (by first | exact Nat.le_refl _ | (have hz := HZ1.out; simp at hz ⊢; omega) | (simp; omega) | (simp; done)) _ | with_reducible refine Below.on ?_ (by assumption)))))
            (first | (go_at_call 77; refine (HR.out _ (by (repeat (first | with_reducible exact Below.refl _ _ | with_reducible assumption | with_reducible refine Below.drew ?_ | with_reducible refine Below.al ?_ _ | with_reducible refine Below.setCell ?_ (by first | exact Nat.le_refl _ | (simp; omega) | (simp; done)) _ | with_reducible refine Below.on ?_ (by assumption))))).mono ?_; rintro e w1 ⟨rfl, hb1⟩; have HZ1 := hid hb1.size; try (have HG := hid (newSp_drew (w := wr) hb1))) | (go_at_call 79; refine (HM.out _).mono ?_; rintro e w2 ⟨rfl, hb2⟩; have hz2 := hb2.size; first | (have hG := cells_on HG.out hb2; obtain ⟨⟨g0, g1, g2⟩, g3⟩ := hG) | (obtain ⟨hc2, hf2⟩ := bcell hb2)))
          all_goals (try go_wp2_with fail)
          all_goals go_meet
          all_goals (have hz1 := HZ1.out; simp only [World.size_drew, World.size_alloc] at hz1)
          all_goals (refine ⟨_, rfl, rfl, ?_, ?_, ?_⟩)
          all_goals (first | (simp [go_sem, hc2]; done) | (simp [go_sem, g0, g1]; done) | (repeat (first | exact Below.refl _ _ | assumption | refine Below.drew ?_ | refine Below.al ?_ _ | refine Below.setCell ?_ (by first | exact Nat.le_refl _ | (simp; omega) | (simp; done)) _ | refine Below.on ?_ (by assumption))))
        case rest =>
          obtain ⟨q, rfl, rfl, q0, q1, hbx⟩ := hcut
          have HBX := hid hbx
          have HOX := hid (HO.out.later hbx)
          have HWX := hid (Below.on HW.out hbx)
          clear hbx c0 c1 c2 c3 c4 c5 s0 s1 HR HM HO
          cases tb
          · go_wp2_with fail
            go_roundg (N - (n + 1))
            case measure => omega
            case rel => exact ⟨n + 1, by omega, rfl, by go_num, hid (by rw [HT.out]; simpa using HOX.out), HWX⟩
          · have hL1 : Hid (((cutN c.ss (lo, hi) n).length + 1) * 64 ≤ 140737488355328) := hid (by omega)
            go_wp2_with (at_builtin; refine append_P rfl _ _ rfl (n, (tl, th)) rfl (HOX.out.later (Below.al (Below.refl _ _) _)) rfl (newP _ _ _ _ _) hL1.out (by have := HWX.out.size; simp at this ⊢; omega) ?_; intro v6 w6 ho6 hg6; have ho6 := hid ho6; have hb6 := hid (OwnP.grown (HOX.out.later (Below.al (Below.refl _ _) (.cells #[.int .u32 (n : Int), .string tl, .string th] 129))) hg6 (Below.al HWX.out _) (Nat.le_refl _)); clear hg6)
            go_roundg (N - (n + 1))
            case measure => omega
            case rel => exact ⟨n + 1, by omega, rfl, by go_num, hid (by rw [HT.out]; simpa using ho6.out), hb6⟩
      · obtain rfl : n = N := by omega
        go_wp2_with fail
        go_ret
        exact ⟨_, rfl, by rw [HU2.out]; exact HO.out.base hz0, Below.on HB0.out HW.out⟩
end Go.Proofs.YthenfioddnkjbaaGreatDoor.Rt
