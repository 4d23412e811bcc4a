import Derived.Test.YtmhpakbkmddfeabIFoldsStep
namespace Go.Proofs.Ytmhpakbkmddfeab
open Go.RowKit Go.Sort
set_option linter.unusedVariables false

set_option maxRecDepth 100000 in
set_option maxHeartbeats 8000000 in
theorem folds_law {W : World} {a : Option Addr} {c : Nat} {l : List Ao} (hR : RowO W a l) (hn : l.length ≤ 149797) (hc : l.length ≤ c) (hsz : ∀ x ∈ l, x.key.size ≤ 1048576) :
    Calls Try.prog 3 #[.slice a l.length c] W fun e w' => e = .returned (.bool true) ∧ Below W.heap.size W w' := by
  have HR := hid hR
  have FR := hid (fresh_is W)
  have HZ := hid hsz
  clear hsz
  clear hR
  go_enter Try.func3, Try.ntmps3
  go_wp2_with (go_at_call 5; refine FR.out.mono ?_; rintro e w1 ⟨x0, d0, x1, d1, rfl, hf0, hf1, hx, hb1⟩; have hf0 := hid hf0; have hf1 := hid hf1; have hx := hid hx; have hb1 := hid hb1)
  obtain ⟨L, hL⟩ : ∃ L, L = w1.heap.size := ⟨_, rfl⟩
  have HB1 : Hid (Below W.heap.size W (w1.alloc (.cells #[pt x0, pt d0, pt x1, pt d1] 27))) := Below.al hb1.out _
  have HT1 : Hid (Two (w1.alloc (.cells #[pt x0, pt d0, pt x1, pt d1] 27)) W.heap.size L [] []) := by
    have hb0 : Below w1.heap.size w1 (w1.alloc (.cells #[pt x0, pt d0, pt x1, pt d1] 27)) := Below.al (Below.refl _ _) _
    rw [hL]
    exact Two.fresh (hf0.out.later hb0) (hf1.out.later hb0) hx.out (World.alloc_heap_new w1 _) hb1.out.size
  rw [← hL]
  clear FR hf0 hf1 hx hb1
  clear hf0 hf1 hx hb1 hL
  go_loopg [4, 5] l.length (fun g s4 s5 wr => ∃ k : Nat, k ≤ l.length ∧ g = l.length - k ∧ s4 = .bool true ∧ s5 = .int .i64 k ∧ (∃ la lb, Hid (Two wr W.heap.size L la lb) ∧ Hid (GoodK (2 * k) la ∧ GoodK (2 * k) lb)) ∧ Hid (Below W.heap.size W wr))
  case atStart => exact ⟨0, by omega, by omega, rfl, rfl, ⟨[], [], HT1, GoodK.nil _, GoodK.nil _⟩, HB1⟩
  case round =>
    obtain ⟨k, hk, rfl, rfl, rfl, ⟨la, lb, HT, HG⟩, HB⟩ := hrel
    clear HB1 HT1
    by_cases hlt : k < l.length
    · obtain ⟨b, off, rfl, d0, d1, d2, d3, d4, d5⟩ := HR.out k hlt
      obtain ⟨x, hx⟩ : ∃ x, x = nthO l k := ⟨_, rfl⟩
      have HS := hid (HZ.out _ (nthO_mem hlt))
      rw [← hx] at HS
      rw [← hx] at d0 d1 d2 d3 d4 d5
      have e0 := cell_later HB.out d0
      have e1 := cell_later HB.out d1
      have e2 := cell_later HB.out d2
      have e3 := cell_later HB.out d3
      have e4 := cell_later HB.out d4
      have e5 := cell_later HB.out d5
      clear d0 d1 d2 d3 d4 d5 hx
      obtain ⟨xk, xp, xa, xb, xv, xs⟩ := x
      dsimp only at e0 e1 e2 e3 e4 e5
      dsimp only at HS
      have oq : ∀ x : Ao, OpAt (wr.alloc (.cells (opC x) 31)) wr.heap.size x := op_new wr
      have oq := hid oq
      by_cases hm : xp < 0
      · have p1 : decide (xp < 0) = true := decide_eq_true hm
        clear hm
        have q0 : (wr.alloc (.cells #[.int .i64 xk, .int .i64 xp, .string xa, .string xb, .int .i64 xv, .int .i64 xs] 31)).cell? ⟨wr.heap.size, 0, none⟩ = some (.int .i64 xk) := (oq.out ⟨xk, xp, xa, xb, xv, xs⟩).c0
        have q1 : (wr.alloc (.cells #[.int .i64 xk, .int .i64 xp, .string xa, .string xb, .int .i64 xv, .int .i64 xs] 31)).cell? ⟨wr.heap.size, 1, none⟩ = some (.int .i64 xp) := (oq.out ⟨xk, xp, xa, xb, xv, xs⟩).c1
        have q2 : (wr.alloc (.cells #[.int .i64 xk, .int .i64 xp, .string xa, .string xb, .int .i64 xv, .int .i64 xs] 31)).cell? ⟨wr.heap.size, 2, none⟩ = some (.string xa) := (oq.out ⟨xk, xp, xa, xb, xv, xs⟩).c2
        have q3 : (wr.alloc (.cells #[.int .i64 xk, .int .i64 xp, .string xa, .string xb, .int .i64 xv, .int .i64 xs] 31)).cell? ⟨wr.heap.size, 3, none⟩ = some (.string xb) := (oq.out ⟨xk, xp, xa, xb, xv, xs⟩).c3
        have q4 : (wr.alloc (.cells #[.int .i64 xk, .int .i64 xp, .string xa, .string xb, .int .i64 xv, .int .i64 xs] 31)).cell? ⟨wr.heap.size, 4, none⟩ = some (.int .i64 xv) := (oq.out ⟨xk, xp, xa, xb, xv, xs⟩).c4
        have q5 : (wr.alloc (.cells #[.int .i64 xk, .int .i64 xp, .string xa, .string xb, .int .i64 xv, .int .i64 xs] 31)).cell? ⟨wr.heap.size, 5, none⟩ = some (.int .i64 xs) := (oq.out ⟨xk, xp, xa, xb, xv, xs⟩).c5
        clear oq
        go_wp2_with fail
        go_roundg (l.length - (k + 1))
        case measure => omega
        case rel => exact ⟨k + 1, by omega, rfl, rfl, by go_num, ⟨la, lb, HT.out.later (Below.al (Below.refl _ _) _), HG.out.1.up.up, HG.out.2.up.up⟩, Below.al HB.out _⟩
      · by_cases hg : 1 < xp
        · have p1 : decide (xp < 0) = false := decide_eq_false hm
          have p2 : decide (1 < xp) = true := decide_eq_true hg
          clear hm hg
          have q0 : (wr.alloc (.cells #[.int .i64 xk, .int .i64 xp, .string xa, .string xb, .int .i64 xv, .int .i64 xs] 31)).cell? ⟨wr.heap.size, 0, none⟩ = some (.int .i64 xk) := (oq.out ⟨xk, xp, xa, xb, xv, xs⟩).c0
          have q1 : (wr.alloc (.cells #[.int .i64 xk, .int .i64 xp, .string xa, .string xb, .int .i64 xv, .int .i64 xs] 31)).cell? ⟨wr.heap.size, 1, none⟩ = some (.int .i64 xp) := (oq.out ⟨xk, xp, xa, xb, xv, xs⟩).c1
          have q2 : (wr.alloc (.cells #[.int .i64 xk, .int .i64 xp, .string xa, .string xb, .int .i64 xv, .int .i64 xs] 31)).cell? ⟨wr.heap.size, 2, none⟩ = some (.string xa) := (oq.out ⟨xk, xp, xa, xb, xv, xs⟩).c2
          have q3 : (wr.alloc (.cells #[.int .i64 xk, .int .i64 xp, .string xa, .string xb, .int .i64 xv, .int .i64 xs] 31)).cell? ⟨wr.heap.size, 3, none⟩ = some (.string xb) := (oq.out ⟨xk, xp, xa, xb, xv, xs⟩).c3
          have q4 : (wr.alloc (.cells #[.int .i64 xk, .int .i64 xp, .string xa, .string xb, .int .i64 xv, .int .i64 xs] 31)).cell? ⟨wr.heap.size, 4, none⟩ = some (.int .i64 xv) := (oq.out ⟨xk, xp, xa, xb, xv, xs⟩).c4
          have q5 : (wr.alloc (.cells #[.int .i64 xk, .int .i64 xp, .string xa, .string xb, .int .i64 xv, .int .i64 xs] 31)).cell? ⟨wr.heap.size, 5, none⟩ = some (.int .i64 xs) := (oq.out ⟨xk, xp, xa, xb, xv, xs⟩).c5
          clear oq
          go_wp2_with fail
          go_roundg (l.length - (k + 1))
          case measure => omega
          case rel => exact ⟨k + 1, by omega, rfl, rfl, by go_num, ⟨la, lb, HT.out.later (Below.al (Below.refl _ _) _), HG.out.1.up.up, HG.out.2.up.up⟩, Below.al HB.out _⟩
        · by_cases hpl : xp = 0
          · subst hpl
            clear hm hg
            by_cases h9 : xk = 11
            · subst h9
              have CH : Hid (Calls Try.prog 6 #[.pointer (some ⟨L, 0, none⟩), .agg #[.int .i64 11, .int .i64 0, .string xa, .string xb, .int .i64 xv, .int .i64 xs]] (wr.alloc (.cells #[.int .i64 11, .int .i64 0, .string xa, .string xb, .int .i64 xv, .int .i64 xs] 31)) fun e w' => e = .returned (.bool true) ∧ Hid (StepG ⟨11, 0, xa, xb, xv, xs⟩ wr.heap.size W.heap.size L (2 * k + 1) wr w') ∧ (∃ y, w'.cell? ⟨L, 0, none⟩ = some (pt y)) ∧ Hid (Calls Try.prog 7 #[.pointer (some ⟨L, 0, none⟩), .agg #[.int .i64 11, .int .i64 0, .string xa, .string xb, .int .i64 xv, .int .i64 xs]] w' fun e w2 => e = .returned (.bool true) ∧ Hid (StepG ⟨11, 0, xa, xb, xv, xs⟩ wr.heap.size W.heap.size L (2 * k + 1 + 1) wr w2))) :=
                folds_chain HT.out HG.out.1 HG.out.2 (by simp) ⟨11, 0, xa, xb, xv, xs⟩ HS.out (by omega) HB.out.size
              have q0 : (wr.alloc (.cells #[.int .i64 11, .int .i64 0, .string xa, .string xb, .int .i64 xv, .int .i64 xs] 31)).cell? ⟨wr.heap.size, 0, none⟩ = some (.int .i64 11) := (oq.out ⟨11, 0, xa, xb, xv, xs⟩).c0
              have q1 : (wr.alloc (.cells #[.int .i64 11, .int .i64 0, .string xa, .string xb, .int .i64 xv, .int .i64 xs] 31)).cell? ⟨wr.heap.size, 1, none⟩ = some (.int .i64 0) := (oq.out ⟨11, 0, xa, xb, xv, xs⟩).c1
              have q2 : (wr.alloc (.cells #[.int .i64 11, .int .i64 0, .string xa, .string xb, .int .i64 xv, .int .i64 xs] 31)).cell? ⟨wr.heap.size, 2, none⟩ = some (.string xa) := (oq.out ⟨11, 0, xa, xb, xv, xs⟩).c2
              have q3 : (wr.alloc (.cells #[.int .i64 11, .int .i64 0, .string xa, .string xb, .int .i64 xv, .int .i64 xs] 31)).cell? ⟨wr.heap.size, 3, none⟩ = some (.string xb) := (oq.out ⟨11, 0, xa, xb, xv, xs⟩).c3
              have q4 : (wr.alloc (.cells #[.int .i64 11, .int .i64 0, .string xa, .string xb, .int .i64 xv, .int .i64 xs] 31)).cell? ⟨wr.heap.size, 4, none⟩ = some (.int .i64 xv) := (oq.out ⟨11, 0, xa, xb, xv, xs⟩).c4
              have q5 : (wr.alloc (.cells #[.int .i64 11, .int .i64 0, .string xa, .string xb, .int .i64 xv, .int .i64 xs] 31)).cell? ⟨wr.heap.size, 5, none⟩ = some (.int .i64 xs) := (oq.out ⟨11, 0, xa, xb, xv, xs⟩).c5
              clear oq
              go_wp2_with (first
                | (go_at_call 6; refine CH.out.mono ?_; rintro e w1 ⟨rfl, hs1, ⟨y, cy⟩, hr1⟩; have o1 := hs1.out.box; have z0 : w1.cell? ⟨wr.heap.size, 0, none⟩ = some (.int .i64 11) := o1.c0; have z1 : w1.cell? ⟨wr.heap.size, 1, none⟩ = some (.int .i64 0) := o1.c1; have z2 : w1.cell? ⟨wr.heap.size, 2, none⟩ = some (.string xa) := o1.c2; have z3 : w1.cell? ⟨wr.heap.size, 3, none⟩ = some (.string xb) := o1.c3; have z4 : w1.cell? ⟨wr.heap.size, 4, none⟩ = some (.int .i64 xv) := o1.c4; have z5 : w1.cell? ⟨wr.heap.size, 5, none⟩ = some (.int .i64 xs) := o1.c5; have o1 := hid o1)
                | (go_at_call 7; refine hr1.out.mono ?_; rintro e w2 ⟨rfl, hs2⟩))
              go_roundg (l.length - (k + 1))
              case measure => omega
              case rel =>
                obtain ⟨a', b', ht', ha', hb'⟩ := hs2.out.two
                exact ⟨k + 1, by omega, rfl, rfl, by go_num, ⟨a', b', ht', ha', hb'⟩, HB.out.trans hs2.out.below⟩
            · have CH : Hid (Calls Try.prog 6 #[.pointer (some ⟨L, 0, none⟩), .agg #[.int .i64 xk, .int .i64 0, .string xa, .string xb, .int .i64 xv, .int .i64 xs]] (wr.alloc (.cells #[.int .i64 xk, .int .i64 0, .string xa, .string xb, .int .i64 xv, .int .i64 xs] 31)) fun e w' => e = .returned (.bool true) ∧ Hid (StepG ⟨xk, 0, xa, xb, xv, xs⟩ wr.heap.size W.heap.size L (2 * k + 1) wr w') ∧ (∃ y, w'.cell? ⟨L, 0, none⟩ = some (pt y)) ∧ Hid (Calls Try.prog 7 #[.pointer (some ⟨L, 0, none⟩), .agg #[.int .i64 xk, .int .i64 0, .string xa, .string xb, .int .i64 xv, .int .i64 xs]] w' fun e w2 => e = .returned (.bool true) ∧ Hid (StepG ⟨xk, 0, xa, xb, xv, xs⟩ wr.heap.size W.heap.size L (2 * k + 1 + 1) wr w2))) :=
                folds_chain HT.out HG.out.1 HG.out.2 (by simp) ⟨xk, 0, xa, xb, xv, xs⟩ HS.out (by omega) HB.out.size
              have q0 : (wr.alloc (.cells #[.int .i64 xk, .int .i64 0, .string xa, .string xb, .int .i64 xv, .int .i64 xs] 31)).cell? ⟨wr.heap.size, 0, none⟩ = some (.int .i64 xk) := (oq.out ⟨xk, 0, xa, xb, xv, xs⟩).c0
              have q1 : (wr.alloc (.cells #[.int .i64 xk, .int .i64 0, .string xa, .string xb, .int .i64 xv, .int .i64 xs] 31)).cell? ⟨wr.heap.size, 1, none⟩ = some (.int .i64 0) := (oq.out ⟨xk, 0, xa, xb, xv, xs⟩).c1
              have q2 : (wr.alloc (.cells #[.int .i64 xk, .int .i64 0, .string xa, .string xb, .int .i64 xv, .int .i64 xs] 31)).cell? ⟨wr.heap.size, 2, none⟩ = some (.string xa) := (oq.out ⟨xk, 0, xa, xb, xv, xs⟩).c2
              have q3 : (wr.alloc (.cells #[.int .i64 xk, .int .i64 0, .string xa, .string xb, .int .i64 xv, .int .i64 xs] 31)).cell? ⟨wr.heap.size, 3, none⟩ = some (.string xb) := (oq.out ⟨xk, 0, xa, xb, xv, xs⟩).c3
              have q4 : (wr.alloc (.cells #[.int .i64 xk, .int .i64 0, .string xa, .string xb, .int .i64 xv, .int .i64 xs] 31)).cell? ⟨wr.heap.size, 4, none⟩ = some (.int .i64 xv) := (oq.out ⟨xk, 0, xa, xb, xv, xs⟩).c4
              have q5 : (wr.alloc (.cells #[.int .i64 xk, .int .i64 0, .string xa, .string xb, .int .i64 xv, .int .i64 xs] 31)).cell? ⟨wr.heap.size, 5, none⟩ = some (.int .i64 xs) := (oq.out ⟨xk, 0, xa, xb, xv, xs⟩).c5
              clear oq
              have h9' : (xk != 11) = true := by simpa using h9
              have h9 := hid h9
              go_wp2_with (first
                | (go_at_call 6; refine CH.out.mono ?_; rintro e w1 ⟨rfl, hs1, ⟨y, cy⟩, hr1⟩; have o1 := hs1.out.box; have z0 : w1.cell? ⟨wr.heap.size, 0, none⟩ = some (.int .i64 xk) := o1.c0; have z1 : w1.cell? ⟨wr.heap.size, 1, none⟩ = some (.int .i64 0) := o1.c1; have z2 : w1.cell? ⟨wr.heap.size, 2, none⟩ = some (.string xa) := o1.c2; have z3 : w1.cell? ⟨wr.heap.size, 3, none⟩ = some (.string xb) := o1.c3; have z4 : w1.cell? ⟨wr.heap.size, 4, none⟩ = some (.int .i64 xv) := o1.c4; have z5 : w1.cell? ⟨wr.heap.size, 5, none⟩ = some (.int .i64 xs) := o1.c5; have o1 := hid o1))
              go_roundg (l.length - (k + 1))
              case measure => omega
              case rel =>
                obtain ⟨a', b', ht', ha', hb'⟩ := hs1.out.two
                exact ⟨k + 1, by omega, rfl, rfl, by go_num, ⟨a', b', ht', ha'.up, hb'.up⟩, HB.out.trans hs1.out.below⟩
          · obtain rfl : xp = 1 := by omega
            clear hm hg hpl
            by_cases h9 : xk = 11
            · subst h9
              have CH : Hid (Calls Try.prog 6 #[.pointer (some ⟨L, 2, none⟩), .agg #[.int .i64 11, .int .i64 1, .string xa, .string xb, .int .i64 xv, .int .i64 xs]] (wr.alloc (.cells #[.int .i64 11, .int .i64 1, .string xa, .string xb, .int .i64 xv, .int .i64 xs] 31)) fun e w' => e = .returned (.bool true) ∧ Hid (StepG ⟨11, 1, xa, xb, xv, xs⟩ wr.heap.size W.heap.size L (2 * k + 1) wr w') ∧ (∃ y, w'.cell? ⟨L, 2, none⟩ = some (pt y)) ∧ Hid (Calls Try.prog 7 #[.pointer (some ⟨L, 2, none⟩), .agg #[.int .i64 11, .int .i64 1, .string xa, .string xb, .int .i64 xv, .int .i64 xs]] w' fun e w2 => e = .returned (.bool true) ∧ Hid (StepG ⟨11, 1, xa, xb, xv, xs⟩ wr.heap.size W.heap.size L (2 * k + 1 + 1) wr w2))) :=
                folds_chain HT.out HG.out.1 HG.out.2 (by simp) ⟨11, 1, xa, xb, xv, xs⟩ HS.out (by omega) HB.out.size
              have q0 : (wr.alloc (.cells #[.int .i64 11, .int .i64 1, .string xa, .string xb, .int .i64 xv, .int .i64 xs] 31)).cell? ⟨wr.heap.size, 0, none⟩ = some (.int .i64 11) := (oq.out ⟨11, 1, xa, xb, xv, xs⟩).c0
              have q1 : (wr.alloc (.cells #[.int .i64 11, .int .i64 1, .string xa, .string xb, .int .i64 xv, .int .i64 xs] 31)).cell? ⟨wr.heap.size, 1, none⟩ = some (.int .i64 1) := (oq.out ⟨11, 1, xa, xb, xv, xs⟩).c1
              have q2 : (wr.alloc (.cells #[.int .i64 11, .int .i64 1, .string xa, .string xb, .int .i64 xv, .int .i64 xs] 31)).cell? ⟨wr.heap.size, 2, none⟩ = some (.string xa) := (oq.out ⟨11, 1, xa, xb, xv, xs⟩).c2
              have q3 : (wr.alloc (.cells #[.int .i64 11, .int .i64 1, .string xa, .string xb, .int .i64 xv, .int .i64 xs] 31)).cell? ⟨wr.heap.size, 3, none⟩ = some (.string xb) := (oq.out ⟨11, 1, xa, xb, xv, xs⟩).c3
              have q4 : (wr.alloc (.cells #[.int .i64 11, .int .i64 1, .string xa, .string xb, .int .i64 xv, .int .i64 xs] 31)).cell? ⟨wr.heap.size, 4, none⟩ = some (.int .i64 xv) := (oq.out ⟨11, 1, xa, xb, xv, xs⟩).c4
              have q5 : (wr.alloc (.cells #[.int .i64 11, .int .i64 1, .string xa, .string xb, .int .i64 xv, .int .i64 xs] 31)).cell? ⟨wr.heap.size, 5, none⟩ = some (.int .i64 xs) := (oq.out ⟨11, 1, xa, xb, xv, xs⟩).c5
              clear oq
              go_wp2_with (first
                | (go_at_call 6; refine CH.out.mono ?_; rintro e w1 ⟨rfl, hs1, ⟨y, cy⟩, hr1⟩; have o1 := hs1.out.box; have z0 : w1.cell? ⟨wr.heap.size, 0, none⟩ = some (.int .i64 11) := o1.c0; have z1 : w1.cell? ⟨wr.heap.size, 1, none⟩ = some (.int .i64 1) := o1.c1; have z2 : w1.cell? ⟨wr.heap.size, 2, none⟩ = some (.string xa) := o1.c2; have z3 : w1.cell? ⟨wr.heap.size, 3, none⟩ = some (.string xb) := o1.c3; have z4 : w1.cell? ⟨wr.heap.size, 4, none⟩ = some (.int .i64 xv) := o1.c4; have z5 : w1.cell? ⟨wr.heap.size, 5, none⟩ = some (.int .i64 xs) := o1.c5; have o1 := hid o1)
                | (go_at_call 7; refine hr1.out.mono ?_; rintro e w2 ⟨rfl, hs2⟩))
              go_roundg (l.length - (k + 1))
              case measure => omega
              case rel =>
                obtain ⟨a', b', ht', ha', hb'⟩ := hs2.out.two
                exact ⟨k + 1, by omega, rfl, rfl, by go_num, ⟨a', b', ht', ha', hb'⟩, HB.out.trans hs2.out.below⟩
            · have CH : Hid (Calls Try.prog 6 #[.pointer (some ⟨L, 2, none⟩), .agg #[.int .i64 xk, .int .i64 1, .string xa, .string xb, .int .i64 xv, .int .i64 xs]] (wr.alloc (.cells #[.int .i64 xk, .int .i64 1, .string xa, .string xb, .int .i64 xv, .int .i64 xs] 31)) fun e w' => e = .returned (.bool true) ∧ Hid (StepG ⟨xk, 1, xa, xb, xv, xs⟩ wr.heap.size W.heap.size L (2 * k + 1) wr w') ∧ (∃ y, w'.cell? ⟨L, 2, none⟩ = some (pt y)) ∧ Hid (Calls Try.prog 7 #[.pointer (some ⟨L, 2, none⟩), .agg #[.int .i64 xk, .int .i64 1, .string xa, .string xb, .int .i64 xv, .int .i64 xs]] w' fun e w2 => e = .returned (.bool true) ∧ Hid (StepG ⟨xk, 1, xa, xb, xv, xs⟩ wr.heap.size W.heap.size L (2 * k + 1 + 1) wr w2))) :=
                folds_chain HT.out HG.out.1 HG.out.2 (by simp) ⟨xk, 1, xa, xb, xv, xs⟩ HS.out (by omega) HB.out.size
              have q0 : (wr.alloc (.cells #[.int .i64 xk, .int .i64 1, .string xa, .string xb, .int .i64 xv, .int .i64 xs] 31)).cell? ⟨wr.heap.size, 0, none⟩ = some (.int .i64 xk) := (oq.out ⟨xk, 1, xa, xb, xv, xs⟩).c0
              have q1 : (wr.alloc (.cells #[.int .i64 xk, .int .i64 1, .string xa, .string xb, .int .i64 xv, .int .i64 xs] 31)).cell? ⟨wr.heap.size, 1, none⟩ = some (.int .i64 1) := (oq.out ⟨xk, 1, xa, xb, xv, xs⟩).c1
              have q2 : (wr.alloc (.cells #[.int .i64 xk, .int .i64 1, .string xa, .string xb, .int .i64 xv, .int .i64 xs] 31)).cell? ⟨wr.heap.size, 2, none⟩ = some (.string xa) := (oq.out ⟨xk, 1, xa, xb, xv, xs⟩).c2
              have q3 : (wr.alloc (.cells #[.int .i64 xk, .int .i64 1, .string xa, .string xb, .int .i64 xv, .int .i64 xs] 31)).cell? ⟨wr.heap.size, 3, none⟩ = some (.string xb) := (oq.out ⟨xk, 1, xa, xb, xv, xs⟩).c3
              have q4 : (wr.alloc (.cells #[.int .i64 xk, .int .i64 1, .string xa, .string xb, .int .i64 xv, .int .i64 xs] 31)).cell? ⟨wr.heap.size, 4, none⟩ = some (.int .i64 xv) := (oq.out ⟨xk, 1, xa, xb, xv, xs⟩).c4
              have q5 : (wr.alloc (.cells #[.int .i64 xk, .int .i64 1, .string xa, .string xb, .int .i64 xv, .int .i64 xs] 31)).cell? ⟨wr.heap.size, 5, none⟩ = some (.int .i64 xs) := (oq.out ⟨xk, 1, xa, xb, xv, xs⟩).c5
              clear oq
              have h9' : (xk != 11) = true := by simpa using h9
              have h9 := hid h9
              go_wp2_with (first
                | (go_at_call 6; refine CH.out.mono ?_; rintro e w1 ⟨rfl, hs1, ⟨y, cy⟩, hr1⟩; have o1 := hs1.out.box; have z0 : w1.cell? ⟨wr.heap.size, 0, none⟩ = some (.int .i64 xk) := o1.c0; have z1 : w1.cell? ⟨wr.heap.size, 1, none⟩ = some (.int .i64 1) := o1.c1; have z2 : w1.cell? ⟨wr.heap.size, 2, none⟩ = some (.string xa) := o1.c2; have z3 : w1.cell? ⟨wr.heap.size, 3, none⟩ = some (.string xb) := o1.c3; have z4 : w1.cell? ⟨wr.heap.size, 4, none⟩ = some (.int .i64 xv) := o1.c4; have z5 : w1.cell? ⟨wr.heap.size, 5, none⟩ = some (.int .i64 xs) := o1.c5; have o1 := hid o1))
              go_roundg (l.length - (k + 1))
              case measure => omega
              case rel =>
                obtain ⟨a', b', ht', ha', hb'⟩ := hs1.out.two
                exact ⟨k + 1, by omega, rfl, rfl, by go_num, ⟨a', b', ht', ha'.up, hb'.up⟩, HB.out.trans hs1.out.below⟩
    · obtain rfl : k = l.length := by omega
      clear hlt hk
      go_wp2_with fail
      go_ret
      exact ⟨rfl, HB.out⟩

end Go.Proofs.Ytmhpakbkmddfeab
