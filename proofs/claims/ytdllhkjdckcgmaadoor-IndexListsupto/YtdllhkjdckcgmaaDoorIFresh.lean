import Derived.Test.YtdllhkjdckcgmaaDoorIChanged
namespace Go.Proofs.YtdllhkjdckcgmaaDoor
open Go.RowKit Go.Sort
set_option linter.unusedVariables false

/-- the array of two pairs, told -/
def Four (w : World) (b : Nat) (p q r s : Value) : Prop := w.heap[b]? = some (.cells #[p, q, r, s] 27 (0, 0))
theorem Four.lt {w : World} {b : Nat} {p q r s : Value} (h : Four w b p q r s) : b < w.heap.size := (Array.getElem?_eq_some_iff.1 h).1
theorem Four.lT {w : World} {b : Nat} {p q r s : Value} (h : Four w b p q r s) : LT w b := ⟨_, h, rfl⟩
theorem Four.c0 {w : World} {b : Nat} {p q r s : Value} (h : Four w b p q r s) : w.cell? ⟨b, 0, none⟩ = some p := cell_of_obj h rfl
theorem Four.c1 {w : World} {b : Nat} {p q r s : Value} (h : Four w b p q r s) : w.cell? ⟨b, 1, none⟩ = some q := cell_of_obj h rfl
theorem Four.c2 {w : World} {b : Nat} {p q r s : Value} (h : Four w b p q r s) : w.cell? ⟨b, 2, none⟩ = some r := cell_of_obj h rfl
theorem Four.c3 {w : World} {b : Nat} {p q r s : Value} (h : Four w b p q r s) : w.cell? ⟨b, 3, none⟩ = some s := cell_of_obj h rfl
theorem Four.later {w w' : World} {b : Nat} {p q r s : Value} (h : Four w b p q r s) (hb : Below w.heap.size w w') : Four w' b p q r s := (hb.block b h.lt).trans h
theorem Four.s0 {w : World} {b : Nat} {p q r s : Value} (h : Four w b p q r s) (u : Value) : Four (w.setCell ⟨b, 0, none⟩ u) b u q r s := heap_setCell_same w b 0 _ _ u h
theorem Four.s1 {w : World} {b : Nat} {p q r s : Value} (h : Four w b p q r s) (u : Value) : Four (w.setCell ⟨b, 1, none⟩ u) b p u r s := heap_setCell_same w b 1 _ _ u h
theorem Four.s2 {w : World} {b : Nat} {p q r s : Value} (h : Four w b p q r s) (u : Value) : Four (w.setCell ⟨b, 2, none⟩ u) b p q u s := heap_setCell_same w b 2 _ _ u h
theorem Four.s3 {w : World} {b : Nat} {p q r s : Value} (h : Four w b p q r s) (u : Value) : Four (w.setCell ⟨b, 3, none⟩ u) b p q r u := heap_setCell_same w b 3 _ _ u h
theorem Four.other {w : World} {b B j : Nat} {p q r s : Value} (h : Four w b p q r s) (hne : b ≠ B) (u : Value) : Four (w.setCell ⟨B, j, none⟩ u) b p q r s := (Below.heap_setCell _ _ _ _ hne).trans h
theorem Xi.off {w : World} {x L j : Nat} {l : List En} (h : Xi w x l) (hL : LT w L) (u : Value) : Xi (w.setCell ⟨L, j, none⟩ u) x l := h.keep (hL.kp _ _) (Below.heap_setCell _ _ _ _ (by show x ≠ L; exact hL.ne_xi h))
theorem Ri.off {w : World} {d L j : Nat} {v : Value} {log : List Ch} (h : Ri w d v log) (hL : LT w L) (u : Value) : Ri (w.setCell ⟨L, j, none⟩ u) d v log := h.keep (F := fun k => k = L) (Onl.set (F := fun k => k = L) (Onl.refl _ _) rfl _ _) (fun k hk e => hL.ne_ri h (e ▸ hk))
abbrev pt (x : Nat) : Value := .pointer (some ⟨x, 0, none⟩)
abbrev nilP : Value := .pointer none
abbrev nilS : Value := .slice none 0 0
/-- a pair of fresh indexes -/
def FreshAt (w : World) (B x d : Nat) : Prop := Xi w x [] ∧ Ri w d nilS [] ∧ B ≤ x ∧ B ≤ d ∧ x < w.heap.size ∧ d < w.heap.size
theorem FreshAt.later {w w' : World} {B x d : Nat} (h : FreshAt w B x d) (hb : Below w.heap.size w w') : FreshAt w' B x d := ⟨h.1.later hb, h.2.1.later hb, h.2.2.1, h.2.2.2.1, Nat.lt_of_lt_of_le h.2.2.2.2.1 hb.size, Nat.lt_of_lt_of_le h.2.2.2.2.2 hb.size⟩
theorem FreshAt.off {w : World} {B x d L j : Nat} (h : FreshAt w B x d) (hL : LT w L) (u : Value) : FreshAt (w.setCell ⟨L, j, none⟩ u) B x d := ⟨h.1.off hL u, h.2.1.off hL u, h.2.2.1, h.2.2.2.1, by simpa [World.setCell] using h.2.2.2.2.1, by simpa [World.setCell] using h.2.2.2.2.2⟩

set_option maxRecDepth 100000 in
set_option maxHeartbeats 4000000 in
theorem fresh_is (w : World) : Calls Tryd.prog 4 #[] w fun e w' => ∃ x0 d0 x1 d1, e = .returned (.tuple #[.agg #[pt x0, pt d0, pt x1, pt d1], .bool true]) ∧ FreshAt w' w.heap.size x0 d0 ∧ FreshAt w' w.heap.size x1 d1 ∧ (x0 < x1 ∧ x0 < d1 ∧ d0 < x1 ∧ d0 < d1) ∧ Below w.heap.size w w' := by
  go_enter Tryd.func4, Tryd.ntmps4
  go_wp2_with fail
  go_loopg [5] 2 (fun g s5 wr => ∃ k : Nat, k ≤ 2 ∧ g = 2 - k ∧ s5 = .int .i64 k ∧ Hid (Four wr w.heap.size nilP nilP nilP nilP) ∧ Hid (Below w.heap.size w wr) ∧
    ((k = 0 ∧ Four wr (w.heap.size + 1) nilP nilP nilP nilP) ∨
     (k = 1 ∧ ∃ x0 d0, Four wr (w.heap.size + 1) (pt x0) (pt d0) nilP nilP ∧ Hid (FreshAt wr w.heap.size x0 d0)) ∨
     (k = 2 ∧ ∃ x0 d0 x1 d1, Four wr (w.heap.size + 1) (pt x0) (pt d0) (pt x1) (pt d1) ∧ Hid (FreshAt wr w.heap.size x0 d0) ∧ Hid (FreshAt wr w.heap.size x1 d1) ∧ Hid (x0 < x1 ∧ x0 < d1 ∧ d0 < x1 ∧ d0 < d1))))
  case atStart =>
    refine ⟨0, by omega, rfl, rfl, (Below.heap_alloc _ _ _ (by simp)).trans (World.alloc_heap_new w _), Below.al (Below.al (Below.refl _ _) _) _, .inl ⟨rfl, ?_⟩⟩
    have := World.alloc_heap_new (w.alloc (.cells #[nilP, nilP, nilP, nilP] 27)) (.cells #[nilP, nilP, nilP, nilP] 27)
    rw [World.size_alloc] at this
    exact this
  case round =>
    obtain ⟨k, hk, rfl, rfl, hF, hB, ⟨rfl, hl⟩ | ⟨rfl, x0, d0, hl, hf0⟩ | ⟨rfl, x0, d0, x1, d1, hl, hf0, hf1, hlt⟩⟩ := hrel
    · have NX := hid (new_is wr)
      have hl' := hid hl
      go_wp2_with (first
        | (go_at_call 16; refine NX.out.mono ?_; rintro e w1 ⟨rfl, hx1, hb1⟩; have hx1 := hid hx1; have hb1 := hid hb1)
        | (go_at_call 17; refine (refnew_is w1).mono ?_; rintro e w2 ⟨rfl, hr2, hb2⟩; have k1 := hl'.out.later hb1.out; have k2 := k1.later hb2; have c0 := k2.c0; have c1 := (k2.s0 (pt wr.heap.size)).c1; have f2 := k2.lT.frozen; have f3 := (k2.s0 (pt wr.heap.size)).lT.frozen; have hr2 := hid hr2; have hb2 := hid hb2))
      go_roundg 1
      case measure => omega
      case rel =>
        have g1 := hF.out.lt; have g2 := hl.lt; have g3 := hx1.out.lt; have g4 := hr2.out.lt; have g5 := hb1.out.size; have g6 := hb2.out.size; have g7 := hB.out.size
        have l2 := k2.lT
        have l3 := (k2.s0 (pt wr.heap.size)).lT
        have FA : FreshAt w2 w.heap.size wr.heap.size w1.heap.size := ⟨hx1.out.later hb2.out, hr2.out, g7, by omega, by omega, g4⟩
        exact ⟨1, by omega, rfl, rfl, ((((hF.out.later hb1.out).later hb2.out).other (by omega) _).other (by omega) _), Below.setCell (Below.setCell (Below.on (Below.on hB.out hb1.out) hb2.out) (by show _ ≤ w.heap.size + 1; omega) _) (by show _ ≤ w.heap.size + 1; omega) _, .inr (.inl ⟨rfl, wr.heap.size, w1.heap.size, (k2.s0 _).s1 _, (FA.off l2 _).off l3 _⟩)⟩
    · have NX := hid (new_is wr)
      have hl' := hid hl
      go_wp2_with (first
        | (go_at_call 16; refine NX.out.mono ?_; rintro e w1 ⟨rfl, hx1, hb1⟩; have hx1 := hid hx1; have hb1 := hid hb1)
        | (go_at_call 17; refine (refnew_is w1).mono ?_; rintro e w2 ⟨rfl, hr2, hb2⟩; have k1 := hl'.out.later hb1.out; have k2 := k1.later hb2; have c0 := k2.c2; have c1 := (k2.s2 (pt wr.heap.size)).c3; have f2 := k2.lT.frozen; have f3 := (k2.s2 (pt wr.heap.size)).lT.frozen; have hr2 := hid hr2; have hb2 := hid hb2))
      go_roundg 0
      case measure => omega
      case rel =>
        have g1 := hF.out.lt; have g2 := hl.lt; have g3 := hx1.out.lt; have g4 := hr2.out.lt; have g5 := hb1.out.size; have g6 := hb2.out.size; have g7 := hB.out.size
        have l2 := k2.lT
        have l3 := (k2.s2 (pt wr.heap.size)).lT
        have FA : FreshAt w2 w.heap.size wr.heap.size w1.heap.size := ⟨hx1.out.later hb2.out, hr2.out, g7, by omega, by omega, g4⟩
        have FB := (hf0.out.later hb1.out).later hb2.out
        obtain ⟨-, -, -, -, y1, y2⟩ := hf0.out
        exact ⟨2, by omega, rfl, rfl, ((((hF.out.later hb1.out).later hb2.out).other (by omega) _).other (by omega) _), Below.setCell (Below.setCell (Below.on (Below.on hB.out hb1.out) hb2.out) (by show _ ≤ w.heap.size + 1; omega) _) (by show _ ≤ w.heap.size + 1; omega) _, .inr (.inr ⟨rfl, x0, d0, wr.heap.size, w1.heap.size, (k2.s2 _).s3 _, (FB.off l2 _).off l3 _, (FA.off l2 _).off l3 _, ⟨y1, by omega, y2, by omega⟩⟩)⟩
    · have c0 := hl.c0; have c1 := hl.c1; have c2 := hl.c2; have c3 := hl.c3
      have a0 := hF.out.c0; have a1 := hF.out.c1; have a2 := hF.out.c2; have a3 := hF.out.c3
      have F1 := hF.out.s0 (pt x0); have F2 := F1.s1 (pt d0); have F3 := F2.s2 (pt x1); have F4 := F3.s3 (pt d1)
      have f0 := hF.out.lT.frozen; have f1 := F1.lT.frozen; have f2 := F2.lT.frozen; have f3 := F3.lT.frozen
      have b1 := F1.c1; have b2 := F2.c2; have b3 := F3.c3
      have r0 := F4.c0; have r1 := F4.c1; have r2 := F4.c2; have r3 := F4.c3
      have L0 := hid hF.out.lT; have L1 := hid F1.lT; have L2 := hid F2.lT; have L3 := hid F3.lT
      have hF := hid hF
      clear F1 F2 F3 F4 hl
      go_wp2_with fail
      have hx := hlt.out
      refine bodyPost_ret (v := .tuple #[.agg #[pt x0, pt d0, pt x1, pt d1], .bool true]) ?_ rfl ⟨x0, d0, x1, d1, rfl, (((hf0.out.off L0.out _).off L1.out _).off L2.out _).off L3.out _, (((hf1.out.off L0.out _).off L1.out _).off L2.out _).off L3.out _, hx, Below.setCell (Below.setCell (Below.setCell (Below.setCell hB.out (Nat.le_refl _) _) (Nat.le_refl _) _) (Nat.le_refl _) _) (Nat.le_refl _) _⟩
      simp [results, Tryd.results4, go_sem, r0, r1, r2, r3]

end Go.Proofs.YtdllhkjdckcgmaaDoor
