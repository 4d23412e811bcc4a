import Derived.Test.YtaknkodjganacaaDoorVChain
/- sort.Search over a chain; the newest at a stamp. -/
namespace Go.Proofs.YtaknkodjganacaaDoor.Vs
open Go.RowKit Go.Sort
set_option linter.unusedVariables false

theorem search_is {w : World} {n u ba bc : Nat} (hun : u ≤ n) (hn : n ≤ 1152921504606846976)
    (K : ∀ (i : Nat) (W : World), i < n → Below w.heap.size w W → Calls Tryd.prog 61 #[.int .i64 i, pt ba, pt bc] W fun e w' => e = .returned (.bool (decide (u ≤ i))) ∧ Below W.heap.size W w') :
    Calls Tryd.prog 60 #[.int .i64 n, .func (.func 61) #[] #[pt ba, pt bc]] w fun e w' => e = .returned (.int .i64 u) ∧ Below w.heap.size w w' := by
  have HK := hid K
  clear K
  go_enter Tryd.func60, Tryd.ntmps60
  go_wp2_with fail
  go_loopg [5, 6] n (fun g s5 s6 wr => ∃ i j : Nat, i ≤ u ∧ u ≤ j ∧ j ≤ n ∧ g = j - i ∧ s5 = .int .i64 i ∧ s6 = .int .i64 j ∧ Hid (Below w.heap.size w wr))
  case atStart => exact ⟨0, n, by omega, hun, Nat.le_refl _, rfl, rfl, rfl, Below.refl _ _⟩
  case round =>
    obtain ⟨i, j, h1, h2, h3, rfl, rfl, rfl, HB⟩ := hrel
    by_cases hlt : i < j
    · obtain ⟨h, hh⟩ : ∃ h, h = (i + j) / 2 := ⟨_, rfl⟩
      have hih : i ≤ h := by omega
      have hhj : h < j := by omega
      have q1 : decide (i < j) = true := decide_eq_true hlt
      have q2 : ((i : Int) + (j : Int)) / 2 = (h : Int) := by omega
      have hKh := HK.out h
      clear hlt hh
      cases hu : decide (u ≤ h) with
      | true =>
        have hu' := of_decide_eq_true hu
        rw [hu] at hKh
        have KH := hid hKh
        clear hKh hu
        go_wp2_with (go_at_call 61; refine (KH.out _ (by omega) HB.out).mono ?_; rintro e w1 ⟨rfl, hb1⟩)
        go_roundg (h - i)
        case measure => omega
        case rel => exact ⟨i, h, h1, hu', by omega, rfl, rfl, by go_num, Below.on HB.out hb1⟩
      | false =>
        have hu' := of_decide_eq_false hu
        rw [hu] at hKh
        have KH := hid hKh
        clear hKh hu
        go_wp2_with (go_at_call 61; refine (KH.out _ (by omega) HB.out).mono ?_; rintro e w1 ⟨rfl, hb1⟩)
        go_roundg (j - (h + 1))
        case measure => omega
        case rel => exact ⟨h + 1, j, by omega, h2, h3, rfl, by go_num, rfl, Below.on HB.out hb1⟩
    · obtain rfl : i = u := by omega
      have q1 : decide (i < j) = false := decide_eq_false hlt
      go_wp2_with fail
      go_ret
      exact ⟨rfl, HB.out⟩

/-- the stamp's box, the chain's box -/
theorem upTo_is {w : World} {k : ByteArray} {h : Hd} (t : Sp) (r : Row w k h) (hr : Ris h.vs) (hn : h.n ≤ 1152921504606846976) :
    Calls Tryd.prog 50 #[.slice (some ⟨h.g, 0, none⟩) h.n h.cap, sv t] w fun e w' => e = .returned (.int .i64 (upTo h.vs t : Nat)) ∧ Below w.heap.size w w' := by
  obtain ⟨W, hW⟩ : ∃ W, W = (w.alloc (.cells #[.slice (some ⟨h.g, 0, none⟩) h.n h.cap] 81)).alloc (.cells #[.int .u64 t.a, .int .u32 t.b, .int .u32 t.c] 26) := ⟨_, rfl⟩
  have hb : Below w.heap.size w W := by rw [hW]; exact Below.al (Below.al (Below.refl _ _) _) _
  have k0 : W.heap[w.heap.size]? = some (.cells #[.slice (some ⟨h.g, 0, none⟩) h.n h.cap] 81 (0, 0)) := by
    rw [hW]; exact (Below.heap_alloc _ _ _ (by simp)).trans (World.alloc_heap_new w _)
  have k1 : W.heap[w.heap.size + 1]? = some (.cells #[.int .u64 t.a, .int .u32 t.b, .int .u32 t.c] 26 (0, 0)) := by
    rw [hW]; have := World.alloc_heap_new (w.alloc (.cells #[.slice (some ⟨h.g, 0, none⟩) h.n h.cap] 81)) (.cells #[.int .u64 t.a, .int .u32 t.b, .int .u32 t.c] 26)
    rw [World.size_alloc] at this; exact this
  have b0 : W.cell? ⟨w.heap.size, 0, none⟩ = some (.slice (some ⟨h.g, 0, none⟩) h.n h.cap) := cell_of_obj k0 rfl
  have a0 : W.cell? ⟨w.heap.size + 1, 0, none⟩ = some (.int .u64 t.a) := cell_of_obj k1 rfl
  have a1 : W.cell? ⟨w.heap.size + 1, 1, none⟩ = some (.int .u32 t.b) := cell_of_obj k1 rfl
  have a2 : W.cell? ⟨w.heap.size + 1, 2, none⟩ = some (.int .u32 t.c) := cell_of_obj k1 rfl
  have rW := r.later hb
  have hS := hid (search_is (w := W) (n := h.n) (u := upTo h.vs t) (ba := w.heap.size + 1) (bc := w.heap.size) (by have := upTo_le h.vs t; rw [r.len] at this; exact this) hn (fun i W' hi hb' =>
    upTo1_is (rW.later hb') hi hn (cell_later hb' a0) (cell_later hb' a1) (cell_later hb' a2) (cell_later hb' b0) (by
      have hi' : i < h.vs.length := by rw [r.len]; exact hi
      have := upTo_iff hr t hi'
      rw [nthV_get hi', Bool.eq_iff_iff, this, decide_eq_true_eq])))
  obtain ⟨n, hn'⟩ : ∃ n, n = h.n := ⟨_, rfl⟩
  obtain ⟨u, hu'⟩ : ∃ u, u = upTo h.vs t := ⟨_, rfl⟩
  rw [← hn'] at hS b0 ⊢
  rw [← hu'] at hS ⊢
  rw [← hn'] at hW
  have HB := hid hb
  clear rW r hr hn k0 k1 a0 a1 a2 hn' hu' hb
  subst hW
  go_enter Tryd.func50, Tryd.ntmps50
  go_wp2_with (go_at_call 60; refine hS.out.mono ?_; rintro e w1 ⟨rfl, hb1⟩)
  go_ret
  exact ⟨rfl, Below.on HB.out hb1⟩
end Go.Proofs.YtaknkodjganacaaDoor.Vs
