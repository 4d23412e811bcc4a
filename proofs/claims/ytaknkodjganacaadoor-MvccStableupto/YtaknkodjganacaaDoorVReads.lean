import Derived.Test.YtaknkodjganacaaDoorVIn
import Derived.Test.YtaknkodjganacaaDoorVSame
import Derived.Test.YtaknkodjganacaaDoorVMay
/- within, reads. -/
namespace Go.Proofs.YtaknkodjganacaaDoor.Vs
open Go.RowKit Go.Sort
set_option linter.unusedVariables false

set_option maxHeartbeats 1000000 in
theorem within_is {a : Option Addr} {c : Nat} {l : Prs} {lo hi : ByteArray} {w : World} (h : Row2 w a l) (hl : (l.length + 1) * 64 ≤ 140737488355328) :
    Calls Tryd.prog 23 #[.slice a l.length c, .agg #[.string lo, .string hi]] w fun r w' => ∃ v, r = .returned v ∧ OwnP w' w.heap.size v (rangeX l lo hi) ∧ Below w.heap.size w w' := by
  obtain ⟨wa, hwa⟩ : ∃ wa, wa = w.alloc (.cells #[.string lo, .string hi] 28) := ⟨_, rfl⟩
  have hba : Below w.heap.size w wa := by rw [hwa]; exact Below.al (Below.refl _ _) _
  have kb : wa.heap[w.heap.size]? = some (.cells #[.string lo, .string hi] 28 (0, 0)) := by rw [hwa]; exact World.alloc_heap_new _ _
  have HE : Hid (wa.cell? ⟨w.heap.size, 0, none⟩ = some (.string lo) ∧ wa.cell? ⟨w.heap.size, 1, none⟩ = some (.string hi)) := ⟨cell_of_obj kb rfl, cell_of_obj kb rfl⟩
  have HR := hid (h.later hba)
  have HBA := hid hba
  obtain ⟨B, hB⟩ : ∃ B, B = w.heap.size := ⟨_, rfl⟩
  have hBs : Hid (B ≤ wa.heap.size) := hid (by rw [hB]; exact hba.size)
  rw [← hB] at HE HBA ⊢
  clear h hba kb
  go_enter Tryd.func23, Tryd.ntmps23
  go_wp2_with fail
  rw [← hwa, ← hB]
  clear hwa hB
  go_loopg [5, 6] l.length (fun g s5 s6 wr => ∃ i : Nat, i ≤ l.length ∧ g = l.length - i ∧ s6 = .int .i64 i ∧ Hid (OwnP wr wa.heap.size s5 (rangeX (l.take i) lo hi)) ∧ Hid (Below wa.heap.size wa wr))
  case atStart => exact ⟨0, by omega, by omega, rfl, OwnP.nil _ _, Below.refl _ _⟩
  case round =>
    obtain ⟨i, hil, rfl, rfl, HO, HW⟩ := hrel
    obtain ⟨v5, hv5⟩ : ∃ v5, v5 = u5 := ⟨_, rfl⟩
    rw [← hv5] at HO ⊢
    clear hv5
    have b0 := cell_regrown (cell_later HW.out HE.out.1)
    have b1 := cell_regrown (cell_later HW.out HE.out.2)
    by_cases hlt : i < l.length
    · obtain ⟨b, off, rfl, a0, a1⟩ := HR.out i hlt
      obtain ⟨y, hy⟩ : ∃ y, y = nth2 l i := ⟨_, rfl⟩
      rw [← hy] at a0 a1
      have d0 := cell_regrown (cell_later HW.out a0)
      have HT : Hid (l.take (i + 1) = l.take i ++ [y]) := by show _ = _; rw [nth2_take hlt, hy]
      have hrl : (rangeX (l.take i) lo hi).length ≤ (l.take i).length := List.length_filter_le _ _
      have HL1 : Hid (((rangeX (l.take i) lo hi).length + 1) * 64 ≤ 140737488355328) := hid (Nat.le_trans (Nat.mul_le_mul_right 64 (show _ ≤ l.length + 1 by rw [List.length_take] at hrl; omega)) hl)
      obtain ⟨m, hm⟩ : ∃ m, m = l.take i := ⟨_, rfl⟩
      rw [← hm] at HT HO HL1
      obtain ⟨yk, yv⟩ := y
      have HA0 : Hid (wa.cell? ⟨b, off + i * 2, none⟩ = some (.string yk) ∧ wa.cell? ⟨b, off + i * 2 + 1, none⟩ = some (.string yv)) := ⟨a0, a1⟩
      simp only at d0
      clear hy hm a0 a1 hrl
      cases hin : inS lo hi yk with
      | true =>
        have IN := hid (fun W => in_is hin W)
        have HN : Hid (rangeX (m ++ [(yk, yv)]) lo hi = rangeX m lo hi ++ [(yk, yv)]) := by show _ = _; unfold rangeX; rw [List.filter_append]; simp [hin]
        clear hin
        go_wp2_with fail
        refine wp_region_quiet_below (by kernel_rfl) (by kernel_rfl) ?_
        repeat (go_big_quiet_step ((go_at_call 13; exact Calls.regrown_of (IN.out _))))
        refine wpQuiet_nil ?_
        intro w3 hw3
        replace hw3 := below_of_regrown hw3
        have HO3 := hid (HO.out.later hw3)
        have HW3 : Hid (Below wa.heap.size wa w3) := Below.on HW.out hw3
        have e0 := cell_later HW3.out HA0.out.1
        have e1 := cell_later HW3.out HA0.out.2
        clear b0 b1 d0 hw3
        go_wp2_with (at_builtin; refine append_P rfl _ _ rfl (yk, yv) rfl (HO3.out.later (Below.al (Below.refl _ _) _)) rfl (new2P _ _ _ _) HL1.out (by have := HW3.out.size; simp at this ⊢; omega) ?_; intro v6 w6 ho hg; have HO6 := hid ho; have HB6 : Hid (Below wa.heap.size wa w6) := OwnP.grown (HO3.out.later (Below.al (Below.refl _ _) (.cells #[.string yk, .string yv] 61))) hg (Below.al HW3.out _) (Nat.le_refl _); clear ho hg)
        go_roundg (l.length - (i + 1))
        case measure => omega
        case rel => exact ⟨i + 1, by omega, rfl, by go_num, by rw [HT.out, HN.out]; exact HO6.out, HB6⟩
      | false =>
        have IN := hid (fun W => in_is hin W)
        have HN : Hid (rangeX (m ++ [(yk, yv)]) lo hi = rangeX m lo hi) := by show _ = _; unfold rangeX; rw [List.filter_append]; simp [hin]
        clear hin
        go_wp2_with fail
        refine wp_region_quiet_below (by kernel_rfl) (by kernel_rfl) ?_
        repeat (go_big_quiet_step ((go_at_call 13; exact Calls.regrown_of (IN.out _))))
        refine wpQuiet_nil ?_
        intro w3 hw3
        replace hw3 := below_of_regrown hw3
        have HO3 := hid (HO.out.later hw3)
        have HW3 : Hid (Below wa.heap.size wa w3) := Below.on HW.out hw3
        clear b0 b1 d0 hw3
        go_wp2_with fail
        go_roundg (l.length - (i + 1))
        case measure => omega
        case rel => exact ⟨i + 1, by omega, rfl, by go_num, by rw [HT.out, HN.out]; exact HO3.out, HW3⟩
    · obtain rfl : i = l.length := by omega
      rw [List.take_of_length_le (Nat.le_refl _)] at HO
      go_wp2_with fail
      go_ret
      exact ⟨_, rfl, HO.out.base hBs.out, HBA.out.trans (HW.out.mono hBs.out)⟩
/-- a read gives what is wanted -/
theorem reads_is {F : Nat → Prop} {w : World} {p : Nat} {M : Mst} {mk : Sp} {a : Option Addr} {c : Nat} {lo hi : ByteArray} {t : Sp} {l : Prs} (h : Sto F w p M mk) (hn : countM M ≤ 268435456) (hm : t.lt mk = false) (hr : Row2 w a l) (he : l = readM M lo hi t) :
    Calls Tryd.prog 20 #[pt p, .agg #[.string lo, .string hi], sv t, .slice a l.length c] w fun e w' => e = .returned (.bool true) ∧ Below w.heap.size w w' := by
  obtain ⟨wa, hwa⟩ : ∃ wa, wa = (w.alloc (.cells #[.string lo, .string hi] 28)).alloc (.cells #[.int .u64 t.a, .int .u32 t.b, .int .u32 t.c] 26) := ⟨_, rfl⟩
  have hba : Below w.heap.size w wa := by rw [hwa]; exact Below.al (Below.al (Below.refl _ _) _) _
  have RD := hid (read_is (h.later hba) lo hi t hn)
  have hlen : l.length ≤ 1152921504606846976 := by
    rw [he, readM_is]
    have h1 : (rangeX (readAll M t) lo hi).length ≤ (readAll M t).length := List.length_filter_le _ _
    have h2 : (readAll M t).length ≤ M.length := List.length_filterMap_le _ _
    have h3 := count_keys h.good
    omega
  have HR := hid (show Row2 wa a l from hr.later hba)
  have HBA := hid hba
  by_cases h5 : 512 < l.length
  · have hE : rdE M mk lo hi t = 142 := by unfold rdE; rw [hm, ← he]; simp [h5]
    have hL : rdL M mk lo hi t = [] := by unfold rdL; rw [hE]; rfl
    rw [hE, hL] at RD
    have q5 : decide (512 < (l.length : Int)) = true := decide_eq_true (by omega)
    have q5' : decide (512 < l.length) = true := decide_eq_true h5
    obtain ⟨n, hn'⟩ : ∃ n, n = l.length := ⟨_, rfl⟩
    rw [← hn'] at q5 q5' ⊢
    clear h hr he hm hE hL hba h5 hn hn' hlen
    go_enter Tryd.func20, Tryd.ntmps20
    go_wp2_with fail
    rw [← hwa]
    clear hwa
    go_wp2_with (go_at_call 15; refine RD.out.mono ?_; rintro e w1 ⟨v, rfl, ho, hb1⟩; obtain ⟨va, vc, rfl⟩ := ho.slice)
    go_ret
    exact ⟨rfl, Below.on HBA.out hb1⟩
  · have hE : rdE M mk lo hi t = 0 := by unfold rdE; rw [hm, ← he]; simp [h5]
    have hL : rdL M mk lo hi t = l := by unfold rdL; rw [hE, if_pos rfl, ← he]
    rw [hE, hL] at RD
    have q5 : decide (512 < (l.length : Int)) = false := decide_eq_false (by omega)
    have q5' : decide (512 < l.length) = false := decide_eq_false h5
    have SM : Hid (∀ W (va : Option Addr) (vc : Nat), Below wa.heap.size wa W → OwnP W wa.heap.size (.slice va l.length vc) l → _) := fun W va vc hb ho => samePairs_is (c := vc) (d := c) (u := true) (decide_eq_true rfl) ho.row (HR.out.later hb) hlen hlen
    obtain ⟨n, hn'⟩ : ∃ n, n = l.length := ⟨_, rfl⟩
    rw [← hn'] at q5 q5' SM ⊢
    have HN := hid hn'
    clear h hr he hm hE hL hba h5 hn hn' hlen
    go_enter Tryd.func20, Tryd.ntmps20
    go_wp2_with fail
    rw [← hwa]
    clear hwa
    go_wp2_with (first
      | (go_at_call 15; refine RD.out.mono ?_; rintro e w1 ⟨v, rfl, ho, hb1⟩; obtain ⟨va, vc, hv⟩ := ho.slice; rw [← HN.out] at hv; subst hv)
      | (go_at_call 16; refine (SM.out _ va vc hb1 ho).mono ?_; rintro e w2 ⟨rfl, hb2⟩))
    go_ret
    exact ⟨rfl, Below.on (Below.on HBA.out hb1) hb2⟩
end Go.Proofs.YtaknkodjganacaaDoor.Vs
