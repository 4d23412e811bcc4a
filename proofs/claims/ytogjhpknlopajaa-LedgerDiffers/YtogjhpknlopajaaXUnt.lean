import Derived.Test.YtogjhpknlopajaaXDifferW
/- Pairs of ledgers: the program's and the document's; untouched. -/
namespace Go.Proofs.Ytogjhpknlopajaa.Lg
open Go.RowKit Go.Sort Go.Shelf Go.Lib Lk
set_option linter.unusedVariables false

abbrev Pr := Ld × Rd
/-- both hold the same -/
structure Pr.ok (w : World) (z : Pr) : Prop where
  L : Lg w z.1.p z.1.m z.1.M
  D : z.2.at w
  same : z.1.M = z.2.M
theorem Pr.ok.later {w w' : World} {z : Pr} (h : z.ok w) (hb : Below w.heap.size w w') : z.ok w' := ⟨h.L.later hb, h.D.later hb, h.same⟩
abbrev lds (Z : List (Option Pr)) : List (Option Ld) := Z.map (fun z => z.map (·.1))
abbrev rds (Z : List (Option Pr)) : List (Option Rd) := Z.map (fun z => z.map (·.2))
def nthZ (Z : List (Option Pr)) (i : Nat) : Option Pr := (Z[i]?).getD none
theorem lds_nth {Z : List (Option Pr)} {i : Nat} : ((lds Z)[i]?).getD none = (nthZ Z i).map (·.1) := by
  rw [nthZ, List.getElem?_map]
  cases Z[i]? <;> rfl
theorem rds_nth {Z : List (Option Pr)} {i : Nat} : ((rds Z)[i]?).getD none = (nthZ Z i).map (·.2) := by
  rw [nthZ, List.getElem?_map]
  cases Z[i]? <;> rfl
theorem nthZ_mem {Z : List (Option Pr)} {i : Nat} (h : i < Z.length) : nthZ Z i ∈ Z := by
  have : nthZ Z i = Z[i] := by simp [nthZ, h]
  rw [this]; exact List.getElem_mem h
/-- Entries of both -/
theorem ent_both {w : World} {z : Pr} (h : z.ok w) (hl : z.1.M.length ≤ 3518437208882) :
    (Calls Try.prog 19 #[.pointer (some ⟨z.1.p, 0, none⟩)] w fun r w' => ∃ (a : Option Addr) (c : Nat), r = .returned (.slice a z.1.M.length c) ∧ Hid (RowC En.zero ecs 7 w' a (srtL false z.1.M)) ∧ Below w.heap.size w w') ∧
    (Calls Try.prog 61 #[.pointer (some ⟨z.2.q, 0, none⟩)] w fun r w' => ∃ (a : Option Addr) (c : Nat), r = .returned (.slice a z.1.M.length c) ∧ Hid (RowC En.zero ecs 7 w' a (srtL false z.1.M)) ∧ Below w.heap.size w w') := by
  constructor
  · refine (entries_is h.L hl).mono ?_
    rintro r w' ⟨a, n, c, U, rfl, h1, h2, h3, h4, h5⟩
    have e : U = srtL false z.1.M := ents_eq h3.out h.L.nodup h4.out
    subst e
    have e2 : n = z.1.M.length := by rw [← h1.out, (srt_perm false _).length_eq]
    subst e2
    exact ⟨a, c, rfl, own_row h2.out h1.out, h5.out⟩
  · have hn : z.2.n = z.1.M.length := by rw [h.same]; exact h.D.len.symm
    refine (rentries_is h.D (by rw [hn]; exact hl)).mono ?_
    rintro r w' ⟨a, c, rfl, h1, h2⟩
    have h1' := h1.out
    rw [hn, ← h.same] at h1'
    exact ⟨a, c, by rw [hn], own_row h1' (by rw [(srt_perm false _).length_eq]), h2.out⟩
set_option maxHeartbeats 4000000 in
theorem untouched_is {w : World} {a a' : Option Addr} {n c c' : Nat} {Z : List (Option Pr)} (h1 : RowC none (fun d => [ptv d]) 1 w a (lds Z)) (h2 : RowC none (fun d => [ptr d]) 1 w a' (rds Z)) (hn : Z.length = n) (hl : n ≤ 9223372036854775807) (hZ : ∀ z, some z ∈ Z → z.ok w ∧ z.1.M.length ≤ 3518437208882) :
    Calls Try.prog 86 #[.slice a n c, .slice a' n c'] w fun r w' => r = .returned (.bool true) ∧ Below w.heap.size w w' := by
  have H1 := hid h1
  have H2 := hid h2
  have HZ := hid hZ
  have HLN := hid hn
  clear h1 h2 hZ hn
  go_enter Try.func86, Try.ntmps86
  go_wp2_with fail
  go_loopg [8] n (fun g s8 wr => ∃ k : Nat, k ≤ n ∧ g = n - k ∧ s8 = .int .i64 k ∧ Hid (Below w.heap.size w wr))
  case atStart => exact ⟨0, by omega, by omega, rfl, Below.refl _ _⟩
  case round =>
    obtain ⟨k, hk, rfl, rfl, HB⟩ := hrel
    by_cases hlt : k < n
    · obtain ⟨b, off, eb, hc⟩ := RowC.later H1.out HB.out k (by rw [List.length_map, HLN.out]; exact hlt)
      obtain ⟨b', off', eb', hc'⟩ := RowC.later H2.out HB.out k (by rw [List.length_map, HLN.out]; exact hlt)
      have hk1 : (k : Int) < (n : Int) := by omega
      rw [lds_nth] at hc
      rw [rds_nth] at hc'
      obtain ⟨z, hze⟩ : ∃ z, z = nthZ Z k := ⟨_, rfl⟩
      rw [← hze] at hc hc'
      have hmem : z ∈ Z := by rw [hze]; exact nthZ_mem (by rw [HLN.out]; exact hlt)
      have g0 : wr.cell? ⟨b, off + k, none⟩ = some (ptv (z.map (·.1))) := by have := hc 0 _ rfl; simpa using this
      have f0 : wr.cell? ⟨b', off' + k, none⟩ = some (ptr (z.map (·.2))) := by have := hc' 0 _ rfl; simpa using this
      subst eb eb'
      clear hc hc' hze
      cases z with
      | none =>
        have g0 : wr.cell? ⟨b, off + k, none⟩ = some (.pointer none) := g0
        have f0 : wr.cell? ⟨b', off' + k, none⟩ = some (.pointer none) := f0
        have s0 := cell_regrown g0
        have t0 := cell_regrown f0
        clear hmem
        go_wp2_with fail
        refine wp_region_quiet_below (by kernel_rfl) (by kernel_rfl) ?_
        repeat (go_big_quiet_step (fail))
        refine wpQuiet_nil ?_
        intro wn hwn
        replace hwn := below_of_regrown hwn
        have g0 := cell_regrown (cell_later hwn g0)
        have f0 := cell_regrown (cell_later hwn f0)
        have HBn : Hid (Below w.heap.size w wn) := Below.on HB.out hwn
        clear s0 t0 hwn
        go_wp2_with fail
        refine wp_region_quiet_below (by kernel_rfl) (by kernel_rfl) ?_
        repeat (go_big_quiet_step (fail))
        refine wpQuiet_nil ?_
        intro wm hwm
        replace hwm := below_of_regrown hwm
        go_wp2_with fail
        go_roundg (n - (k + 1))
        case measure => omega
        case rel => exact ⟨k + 1, by omega, rfl, by go_num, Below.on HBn.out hwm⟩
      | some z =>
        have g0 : wr.cell? ⟨b, off + k, none⟩ = some (.pointer (some ⟨z.1.p, 0, none⟩)) := g0
        have f0 : wr.cell? ⟨b', off' + k, none⟩ = some (.pointer (some ⟨z.2.q, 0, none⟩)) := f0
        obtain ⟨hzo, hzl⟩ := HZ.out z hmem
        have s0 := cell_regrown g0
        have t0 := cell_regrown f0
        obtain ⟨X, hX⟩ : ∃ X, X = srtL false z.1.M := ⟨_, rfl⟩
        obtain ⟨m, hm⟩ : ∃ m, m = z.1.M.length := ⟨_, rfl⟩
        have hXl : X.length = m := by rw [hX, hm, (srt_perm false _).length_eq]
        have EN : Hid (∀ W, Below wr.heap.size wr W → Calls Try.prog 19 #[.pointer (some ⟨z.1.p, 0, none⟩)] W fun r w' => ∃ (a : Option Addr) (c : Nat), r = .returned (.slice a m c) ∧ Hid (RowC En.zero ecs 7 w' a X) ∧ Below W.heap.size W w') := fun W hb => by rw [hX, hm]; exact (ent_both (hzo.later (Below.on HB.out hb)) hzl).1
        have RE : Hid (∀ W, Below wr.heap.size wr W → Calls Try.prog 61 #[.pointer (some ⟨z.2.q, 0, none⟩)] W fun r w' => ∃ (a : Option Addr) (c : Nat), r = .returned (.slice a m c) ∧ Hid (RowC En.zero ecs 7 w' a X) ∧ Below W.heap.size W w') := fun W hb => by rw [hX, hm]; exact (ent_both (hzo.later (Below.on HB.out hb)) hzl).2
        have SE : Hid (∀ (W : World) (a1 : Option Addr) (c1 : Nat) (a2 : Option Addr) (c2 : Nat), RowC En.zero ecs 7 W a1 X → RowC En.zero ecs 7 W a2 X → Calls Try.prog 42 #[.slice a1 m c1, .slice a2 m c2] W fun r w' => r = .returned (.bool true) ∧ Below W.heap.size W w') := fun W a1 c1 a2 c2 k1 k2 => sameEntries_is k1 k2 hXl (by omega)
        clear hmem hzo hzl hX hm hXl
        go_wp2_with fail
        refine wp_region_quiet_below (by kernel_rfl) (by kernel_rfl) ?_
        repeat (go_big_quiet_step (fail))
        refine wpQuiet_nil ?_
        intro wn hwn
        replace hwn := below_of_regrown hwn
        have g0 := cell_later hwn g0
        have f0 := cell_later hwn f0
        have HRN : Hid (Below wr.heap.size wr wn) := hwn
        have HBn : Hid (Below w.heap.size w wn) := Below.on HB.out hwn
        clear s0 t0 hwn
        go_wp2_with fail
        go_region_held3 (fun w' => w'.cell? ⟨b, off + k, none⟩ = some (.pointer (some ⟨z.1.p, 0, none⟩)) ∧ w'.cell? ⟨b', off' + k, none⟩ = some (.pointer (some ⟨z.2.q, 0, none⟩)) ∧ Below wn.heap.size wn w')
          ((refine (fun (hB : Below wn.heap.size wn _) => ⟨cell_later hB g0, cell_later hB f0, hB⟩) ?_; (repeat (first | with_reducible exact Below.refl _ _ | with_reducible assumption | with_reducible refine Below.drew ?_ | with_reducible refine Below.al ?_ _ | with_reducible refine Below.setCell ?_ (by first | exact Nat.le_refl _ | (simp; omega) | (simp; done)) _ | with_reducible refine Below.on ?_ (by assumption)))))
          (first
            | (go_at_call 19; refine (EN.out _ (Below.on HRN.out (by (repeat (first | with_reducible exact Below.refl _ _ | with_reducible assumption | with_reducible refine Below.drew ?_ | with_reducible refine Below.al ?_ _ | with_reducible refine Below.setCell ?_ (by first | exact Nat.le_refl _ | (simp; omega) | (simp; done)) _ | with_reducible refine Below.on ?_ (by assumption)))))).mono ?_; rintro r w1 ⟨a1, c1, rfl, K1, hb1⟩)
            | (go_at_call 61; refine (RE.out _ (Below.on HRN.out (by (repeat (first | with_reducible exact Below.refl _ _ | with_reducible assumption | with_reducible refine Below.drew ?_ | with_reducible refine Below.al ?_ _ | with_reducible refine Below.setCell ?_ (by first | exact Nat.le_refl _ | (simp; omega) | (simp; done)) _ | with_reducible refine Below.on ?_ (by assumption)))))).mono ?_; rintro r w2 ⟨a2, c2, rfl, K2, hb2⟩)
            | (go_at_call 42; refine (SE.out _ _ _ _ _ (RowC.later K1.out hb2) K2.out).mono ?_; rintro r w3 ⟨rfl, hb3⟩))
        all_goals (try go_wp2_with fail)
        all_goals go_roundg (n - (k + 1))
        all_goals first
          | omega
          | exact ⟨k + 1, by omega, rfl, by go_num, Below.on HBn.out (by (repeat (first | with_reducible exact Below.refl _ _ | with_reducible assumption | with_reducible refine Below.drew ?_ | with_reducible refine Below.al ?_ _ | with_reducible refine Below.setCell ?_ (by first | exact Nat.le_refl _ | (simp; omega) | (simp; done)) _ | with_reducible refine Below.on ?_ (by assumption))))⟩
    · obtain rfl : k = n := by omega
      go_wp2_with fail
      go_ret
      exact ⟨rfl, HB.out⟩
end Go.Proofs.Ytogjhpknlopajaa.Lg
