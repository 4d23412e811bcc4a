import Derived.Test.YtmloaddbmkonoabKRef
namespace Go.Proofs.Ytmloaddbmkonoab
open Go.RowKit Go.Sort
set_option linter.unusedVariables false

/-- five cells of a block -/
structure RawAt (w : World) (d : Nat) (n g : Int) (v2 v3 v4 : Value) : Prop where
  c0 : w.cell? ⟨d, 0, none⟩ = some (.int .u32 n)
  c1 : w.cell? ⟨d, 1, none⟩ = some (.int .u64 g)
  c2 : w.cell? ⟨d, 2, none⟩ = some v2
  c3 : w.cell? ⟨d, 3, none⟩ = some v3
  c4 : w.cell? ⟨d, 4, none⟩ = some v4
  loose : Loose w d
theorem RawAt.lt {w : World} {d : Nat} {n g : Int} {v2 v3 v4 : Value} (h : RawAt w d n g v2 v3 v4) : d < w.heap.size := World.block_lt_of_cell? _ _ h.c0
theorem RawAt.later {w w' : World} {d : Nat} {n g : Int} {v2 v3 v4 : Value} (h : RawAt w d n g v2 v3 v4) (hb : Below w.heap.size w w') : RawAt w' d n g v2 v3 v4 :=
  ⟨cell_later hb h.c0, cell_later hb h.c1, cell_later hb h.c2, cell_later hb h.c3, cell_later hb h.c4, h.loose.later hb h.lt⟩
theorem RawAt.set2 {w : World} {d : Nat} {n g : Int} {v2 v3 v4 : Value} (h : RawAt w d n g v2 v3 v4) (v : Value) : RawAt (w.setCell ⟨d, 2, none⟩ v) d n g v v3 v4 :=
  ⟨cell_set (by simp) h.c0, cell_set (by simp) h.c1, World.cell?_setCell_same _ _ _ h.c2, cell_set (by simp) h.c3, cell_set (by simp) h.c4, h.loose.set _ _⟩
theorem RawAt.set3 {w : World} {d : Nat} {n g : Int} {v2 v3 v4 : Value} (h : RawAt w d n g v2 v3 v4) (v : Value) : RawAt (w.setCell ⟨d, 3, none⟩ v) d n g v2 v v4 :=
  ⟨cell_set (by simp) h.c0, cell_set (by simp) h.c1, cell_set (by simp) h.c2, World.cell?_setCell_same _ _ _ h.c3, cell_set (by simp) h.c4, h.loose.set _ _⟩
theorem RawAt.set4 {w : World} {d : Nat} {n g : Int} {v2 v3 v4 : Value} (h : RawAt w d n g v2 v3 v4) (v : Value) : RawAt (w.setCell ⟨d, 4, none⟩ v) d n g v2 v3 v :=
  ⟨cell_set (by simp) h.c0, cell_set (by simp) h.c1, cell_set (by simp) h.c2, cell_set (by simp) h.c3, World.cell?_setCell_same _ _ _ h.c4, h.loose.set _ _⟩
theorem grown_none {w w' : World} (h : w.grownBy w' none) : Below w.heap.size w w' := ⟨h.os, h.tape, h.output, h.size, fun k hk => h.block k hk (by simp)⟩

set_option maxHeartbeats 4000000 in
theorem rreopen_any (B : Nat) (n g c : Int) (w : World) (hB : B ≤ w.heap.size) :
    Calls Try.prog 10 #[.int .u32 n, .int .u64 g, .int .u64 c] w fun e w' => ∃ x : Rd, e = .returned (.pointer (some ⟨x.d, 0, none⟩)) ∧ Below w.heap.size w w' ∧ RefAt w' B x ∧ (∀ k, x.has k → w.heap.size ≤ k) ∧ x.node = n ∧ x.win = g ∧ x.rs = [0] ∧ x.ss = [⟨c, 0, 0⟩] ∧ x.ls = [c] := by
  obtain ⟨i0, hi, hz0, hz1, hz2⟩ := info_parts Try.infoU64
  obtain ⟨i1, hj, hy0, hy1, hy2⟩ := info_parts Try.infoSt
  obtain ⟨wa, hwa⟩ : ∃ wa, wa = w.alloc (.cells #[.int .u32 n, .int .u64 g, .slice none 0 0, .slice none 0 0, .slice none 0 0] 58) := ⟨_, rfl⟩
  have ba : Below w.heap.size w wa := by rw [hwa]; exact al_below _ _
  have D0 : RawAt wa w.heap.size n g (.slice none 0 0) (.slice none 0 0) (.slice none 0 0) := by
    rw [hwa]; refine ⟨?_, ?_, ?_, ?_, ?_, fun o => ?_⟩ <;> (simp [go_sem]; done)
  have Hwa := hid hwa
  have HD0 := hid D0
  clear hwa D0
  go_enter Try.func10, Try.ntmps10
  go_wp2_with (first
    | (at_builtin; refine wpList_append_lies _ rfl _ _ 55 rfl B 31 i0 (.int .u64 0) 1 8 Try.underlying55 hi hz0 hz1 hz2 rfl (by decide) (.slice none 0 0) 0 [] rfl (World.ownsRow_nil _ _ _ _) ⟨w.heap.size + 1, 0, none⟩ 1 1 [.int .u64 0] rfl rfl ?c1 ?c2 (by decide) ?c3 ?c4 ?c5 _ rfl ?_)
    | go_in)
  case c1 =>
    intro j u hj
    match j, hj with
    | 0, hj => simp at hj; subst hj; simp [go_sem, Addr.add]
  case c2 => intro u hu; simp at hu; subst hu; rfl
  case c3 => unfold maxLen; omega
  case c4 => omega
  case c5 => have := ba.size; simp; omega
  intro g2 k2 w1 hown1 hgrow1 hat1 hlt1
  rw [← Hwa.out] at hgrow1
  have b1 : Below wa.heap.size wa w1 := Below.on (al_below wa _) (grown_none hgrow1)
  have D1 := HD0.out.later b1
  have d2 := D1.c2; have d3 := D1.c3
  have kf : ∀ o, w1.frozen? ⟨w.heap.size, o, none⟩ = false := D1.loose
  have hg2 : w.heap.size < g2 := by
    rcases hat1 with h | h
    · cases h
    · omega
  have hd1 : w.heap.size < w1.heap.size := D1.lt
  have HO1 := hid hown1
  have HD1 := hid D1
  have Hb1 := hid (Below.on ba b1)
  clear hown1 hgrow1 hat1 D1 b1 HD0
  go_wp2_with (first
    | (at_builtin; refine wpList_append_lies _ rfl _ _ 56 rfl B 33 i1 (stv 0 0 0) 3 16 Try.underlying56 hj hy0 hy1 hy2 rfl (by decide) (.slice none 0 0) 0 [] rfl (World.ownsRow_nil _ _ _ _) ⟨w1.heap.size, 0, none⟩ 1 1 (St.cs ⟨c, 0, 0⟩) rfl rfl ?c1 ?c2 (by decide) ?c3 ?c4 ?c5 _ rfl ?_)
    | go_in)
  case c1 =>
    intro j u hj
    match j, hj with
    | 0, hj => simp [St.cs] at hj; subst hj; simp [go_sem, Addr.add]
    | 1, hj => simp [St.cs] at hj; subst hj; simp [go_sem, Addr.add]
    | 2, hj => simp [St.cs] at hj; subst hj; simp [go_sem, Addr.add]
  case c2 => intro u hu; simp [St.cs] at hu; rcases hu with rfl | rfl | rfl <;> rfl
  case c3 => unfold maxLen; omega
  case c4 => omega
  case c5 => have := Hb1.out.size; simp; omega
  intro g3 k3 w2 hown2 hgrow2 hat2 hlt2
  obtain ⟨W1, hW1⟩ : ∃ W1, W1 = w1.setCell ⟨w.heap.size, 2, none⟩ (.slice (some ⟨g2, 0, none⟩) 1 k2) := ⟨_, rfl⟩
  rw [← hW1] at hgrow2
  have s1 : W1.heap.size = w1.heap.size := by rw [hW1]; simp [World.setCell]
  have b2 : Below W1.heap.size W1 w2 := Below.on (al_below W1 _) (grown_none hgrow2)
  have D2 := (HD1.out.set2 (.slice (some ⟨g2, 0, none⟩) 1 k2))
  rw [← hW1] at D2
  have D2 := D2.later b2
  have d3 := D2.c3; have d4 := D2.c4
  have kf : ∀ o, w2.frozen? ⟨w.heap.size, o, none⟩ = false := D2.loose
  have O1 := owns_block HO1.out (w' := W1) (by rw [hW1]; exact set_block _ _ (by omega))
  have HO1' := hid (owns_later O1 b2)
  have hg3 : w1.heap.size ≤ g3 := by
    rcases hat2 with h | h
    · cases h
    · omega
  have hd2 : w.heap.size < w2.heap.size := D2.lt
  have HO2 := hid hown2
  have HD2 := hid D2
  have Hb2 : Hid (Below w.heap.size w w2) := (show Below w.heap.size w W1 by rw [hW1]; exact Hb1.out.setCell (p := ⟨w.heap.size, 2, none⟩) (Nat.le_refl _) _).trans (b2.mono (by have := Hb1.out.size; omega))
  clear hown2 hgrow2 hat2 D2 b2 HD1 O1 HO1 d2 hW1 s1
  go_wp2_with (first
    | (at_builtin; refine wpList_append_lies _ rfl _ _ 55 rfl B 31 i0 (.int .u64 0) 1 8 Try.underlying55 hi hz0 hz1 hz2 rfl (by decide) (.slice none 0 0) 0 [] rfl (World.ownsRow_nil _ _ _ _) ⟨w2.heap.size, 0, none⟩ 1 1 [.int .u64 c] rfl rfl ?c1 ?c2 (by decide) ?c3 ?c4 ?c5 _ rfl ?_)
    | go_in)
  case c1 =>
    intro j u hj
    match j, hj with
    | 0, hj => simp at hj; subst hj; simp [go_sem, Addr.add]
  case c2 => intro u hu; simp at hu; subst hu; rfl
  case c3 => unfold maxLen; omega
  case c4 => omega
  case c5 => have := Hb2.out.size; simp; omega
  intro g4 k4 w3 hown3 hgrow3 hat3 hlt3
  obtain ⟨W2, hW2⟩ : ∃ W2, W2 = w2.setCell ⟨w.heap.size, 3, none⟩ (.slice (some ⟨g3, 0, none⟩) 1 k3) := ⟨_, rfl⟩
  rw [← hW2] at hgrow3
  have s2 : W2.heap.size = w2.heap.size := by rw [hW2]; simp [World.setCell]
  have b3 : Below W2.heap.size W2 w3 := Below.on (al_below W2 _) (grown_none hgrow3)
  have D3 := (HD2.out.set3 (.slice (some ⟨g3, 0, none⟩) 1 k3))
  rw [← hW2] at D3
  have D3 := D3.later b3
  have d4 := D3.c4
  have kf : ∀ o, w3.frozen? ⟨w.heap.size, o, none⟩ = false := D3.loose
  have O1 := owns_block HO1'.out (w' := W2) (by rw [hW2]; exact set_block _ _ (by omega))
  have O2 := owns_block HO2.out (w' := W2) (by rw [hW2]; exact set_block _ _ (by omega))
  have O1 := owns_later O1 b3
  have O2 := owns_later O2 b3
  have hg4 : w2.heap.size ≤ g4 := by
    rcases hat3 with h | h
    · cases h
    · omega
  have Hb3 : Hid (Below w.heap.size w w3) := (show Below w.heap.size w W2 by rw [hW2]; exact Hb2.out.setCell (p := ⟨w.heap.size, 3, none⟩) (Nat.le_refl _) _).trans (b3.mono (by have := Hb2.out.size; omega))
  have D4 := D3.set4 (.slice (some ⟨g4, 0, none⟩) 1 k4)
  have m2 : g2 ≠ w.heap.size := by omega
  have m3 : g3 ≠ w.heap.size := by omega
  have m4 : g4 ≠ w.heap.size := by omega
  have hfin : RefAt (w3.setCell ⟨w.heap.size, 4, none⟩ (.slice (some ⟨g4, 0, none⟩) 1 k4)) B ⟨w.heap.size, g2, g3, g4, k2, k3, k4, n, g, [0], [⟨c, 0, 0⟩], [c]⟩ :=
    ⟨D4.c0, D4.c1, D4.c2, D4.c3, D4.c4, D4.loose, owns_block O1 (set_block _ _ m2), owns_block O2 (set_block _ _ m3), owns_block hown3 (set_block _ _ m4), hB, by dsimp only; omega, by dsimp only; omega, by dsimp only; omega, by dsimp only; omega, by dsimp only; omega, by dsimp only; omega⟩
  have HF := hid hfin
  have HB4 := hid (Hb3.out.setCell (p := ⟨w.heap.size, 4, none⟩) (Nat.le_refl _) (.slice (some ⟨g4, 0, none⟩) 1 k4))
  clear hown3 hgrow3 hat3 D3 b3 HD2 O1 O2 HO1' HO2 hW2 s2 D4 hfin d3
  go_wp2_with fail
  go_ret
  refine ⟨⟨w.heap.size, g2, g3, g4, k2, k3, k4, n, g, [0], [⟨c, 0, 0⟩], [c]⟩, rfl, HB4.out, HF.out, ?_, rfl, rfl, rfl, rfl, rfl⟩
  rintro k (h | h | h | h) <;> dsimp only at h <;> omega

set_option maxHeartbeats 400000 in
theorem rnew_any (B : Nat) (n g : Int) (w : World) (hB : B ≤ w.heap.size) :
    Calls Try.prog 8 #[.int .u32 n, .int .u64 g] w fun e w' => ∃ x : Rd, e = .returned (.pointer (some ⟨x.d, 0, none⟩)) ∧ Below w.heap.size w w' ∧ RefAt w' B x ∧ (∀ k, x.has k → w.heap.size ≤ k) ∧ x.node = n ∧ x.win = g ∧ x.rs = [0] ∧ x.ss = [⟨0, 0, 0⟩] ∧ x.ls = [0] := by
  go_enter Try.func8, Try.ntmps8
  go_wp2_with (first | (go_at_call 10; refine (rreopen_any B n g 0 _ hB).mono ?_; rintro e w1 ⟨x, rfl, h⟩; have H := hid h; clear h))
  go_ret
  exact ⟨x, rfl, H.out⟩

end Go.Proofs.Ytmloaddbmkonoab
