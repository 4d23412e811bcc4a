import Derived.Test.YtmhpakbkmddfeaaIMirP
namespace Go.Proofs.Ytmhpakbkmddfeaa
open Go.RowKit Go.Sort Go.Shelf
set_option linter.unusedVariables false
attribute [local go_sem] Oper.semAt_some

theorem owns_box {W : World} {n₀ B : Nat} {t e : TypeId} {size k : Nat} {v u u' : Value} {xs : List Value} (h : W.ownsRow n₀ e size v k xs) (hb : Boxed W B t u) (hte : t ≠ e) : (W.setCell ⟨B, 0, none⟩ u').ownsRow n₀ e size v k xs :=
  h.kept (grownBy_setCell' W B u') (.inr (hb.not_row hte h).symm)

set_option maxRecDepth 100000 in
set_option maxHeartbeats 4000000 in
theorem rise_is {w : World} {p : Nat} {l : List En} (h : Xi w p l) (lo hi : ByteArray) (hn : l.length * 16 ≤ 70368744177664) :
    Calls Try.prog 19 #[.pointer (some ⟨p, 0, none⟩), .agg #[.string lo, .string hi]] w fun e w' =>
      ∃ ka kc, e = .returned (.tuple #[.slice ka (rangeX l lo hi).length kc, .bool true]) ∧ w'.ownsRow w.heap.size 9 1 (.slice ka (rangeX l lo hi).length kc) (rangeX l lo hi).length (txs (rangeX l lo hi)) ∧ Below w.heap.size w w' := by
  refine (callsIn_wide (n := 5)).1 ?_
  obtain ⟨i0, hi0, hz0, hz1, hz2⟩ := info_parts infoStr
  obtain ⟨wa, hwa⟩ : ∃ wa, wa = ((((w.alloc (.cells #[.pointer (some ⟨p, 0, none⟩)] 23)).alloc (.cells #[.string lo, .string hi] 32)).alloc (.cells #[.slice none 0 0] 29)).alloc (.cells #[.bool false] 4)).alloc (.cells #[.slice none 0 0] 29) := ⟨_, rfl⟩
  have hb0 : Below w.heap.size w wa := by rw [hwa]; exact Below.al (Below.al (Below.al (Below.al (Below.al (Below.refl _ _) _) _) _) _) _
  have bX : Boxed wa w.heap.size 23 (.pointer (some ⟨p, 0, none⟩)) := by rw [hwa]; exact ((((Boxed.new w _ _).alloc _).alloc _).alloc _).alloc _
  have bL : Boxed wa (w.heap.size + 1 + 1) 29 (.slice none 0 0) := by
    rw [hwa]; have := Boxed.new ((w.alloc (.cells #[.pointer (some ⟨p, 0, none⟩)] 23)).alloc (.cells #[.string lo, .string hi] 32)) 29 (.slice none 0 0)
    simp only [World.size_alloc] at this; exact (this.alloc _).alloc _
  have bT : Boxed wa (w.heap.size + 1 + 1 + 1) 4 (.bool false) := by
    rw [hwa]; have := Boxed.new (((w.alloc (.cells #[.pointer (some ⟨p, 0, none⟩)] 23)).alloc (.cells #[.string lo, .string hi] 32)).alloc (.cells #[.slice none 0 0] 29)) 4 (.bool false)
    simp only [World.size_alloc] at this; exact this.alloc _
  have bO : Boxed wa (w.heap.size + 1 + 1 + 1 + 1) 29 (.slice none 0 0) := by
    rw [hwa]; have := Boxed.new ((((w.alloc (.cells #[.pointer (some ⟨p, 0, none⟩)] 23)).alloc (.cells #[.string lo, .string hi] 32)).alloc (.cells #[.slice none 0 0] 29)).alloc (.cells #[.bool false] 4)) 29 (.slice none 0 0)
    simp only [World.size_alloc] at this; exact this
  have RG := hid (range_is (h.later hb0) lo hi)
  refine callsIn_of_wp_marks Try.func19 rfl trivial ?_ rfl
  simp only [Try.ntmps19, List.size_toArray, List.length_cons, List.length_nil, Nat.reduceAdd, Nat.reduceSub, Array.replicate_succ, Array.replicate_zero, List.push_toArray, List.append_toArray, List.nil_append, List.cons_append]
  rw [hwa] at RG
  gi_wp2_with ((try refine ⟨trivial, ?_⟩); gi_at_call 36; refine (callsIn_wide.2 RG.out).mono ?_; rintro e w1 ⟨R, B, rfl, hit, hb1, hR, hB⟩)
  rw [← hwa] at hb1
  clear RG hwa hR hB
  have bX1 : Boxed w1 _ _ _ := (hb1.block _ bX.lt).trans bX
  have bL1 : Boxed w1 _ _ _ := (hb1.block _ bL.lt).trans bL
  have bT1 : Boxed w1 _ _ _ := (hb1.block _ bT.lt).trans bT
  have bO1 : Boxed w1 _ _ _ := (hb1.block _ bO.lt).trans bO
  have hB0 : Below w.heap.size w w1 := Below.on hb0 hb1
  have hs1 := bO1.lt
  have hxs : (rangeX l lo hi).length ≤ l.length := List.length_filter_le _ _
  have GE : Hid (∀ (x : Of (rangeX l lo hi)) W, Below w.heap.size w W → Calls Try.prog 14 #[.pointer (some ⟨p, 0, none⟩), .string x.1.1] W fun e w' => e = .returned (.tuple #[.int .i64 x.1.2, .bool true]) ∧ w' = W) := fun x W hb => by
    have h1 := get_is (h.later hb) x.1.1
    have h2 : getX l x.1.1 = some x.1.2 := (getX_some h.rising).2 (List.mem_filter.1 x.2).1
    rw [h2] at h1
    exact h1
  clear h bX bL bT bO hb1 hb0
  refine wpIn_rangeFunc_ownG rfl (by decide) (gf := 57) (lb := #[.pointer (some ⟨R, 0, none⟩), .pointer (some ⟨B, 0, none⟩)]) rfl trivial (enters_of Try.func57 (by kernel_rfl) rfl)
    (range_stops (5 - 1) hit) kp_t kp_b (Below.refl _ _) (fun _ => rfl)
    (fun pre W => (∃ v, Boxed W (w.heap.size + 1 + 1 + 1 + 1) 29 v ∧ W.ownsRow w.heap.size 9 1 v pre.length (txs (pre.map (fun x => x.1))) ∧ True) ∧ (Boxed W w.heap.size 23 (.pointer (some ⟨p, 0, none⟩)) ∧ Boxed W (w.heap.size + 1 + 1) 29 (.slice none 0 0) ∧ Boxed W (w.heap.size + 1 + 1 + 1) 4 (.bool false)) ∧ Below w.heap.size w W)
    (fun _ _ _ => False)
    (OwnFrom.and (Own.from (holdsRow_own w.heap.size (w.heap.size + 1 + 1 + 1 + 1) 29 9 1 (fun pre : List (Of (rangeX l lo hi)) => pre.length) (fun pre => txs (pre.map (fun x => x.1))) (fun _ _ => True)) _) (OwnFrom.and (OwnFrom.and (Own.from (boxed_own _ _ (fun _ => _)) _) (OwnFrom.and (Own.from (boxed_own _ _ (fun _ => _)) _) (Own.from (boxed_own _ _ (fun _ => _)) _))) (ownFrom_below (Nat.le_refl _) (by omega))))
    (fun _ _ _ _ _ hs _ _ => hs)
    ⟨⟨_, bO1, World.ownsRow_nil _ _ _ _, trivial⟩, ⟨bX1, bL1, bT1⟩, hB0⟩
    (fun x => { tmps := #[.pointer (some ⟨p, 0, none⟩), .agg #[.string lo, .string hi], .pointer (some ⟨w.heap.size, 0, none⟩), .pointer (some ⟨w.heap.size + 1, 0, none⟩), .pointer (some ⟨w.heap.size + 1 + 1, 0, none⟩), .pointer (some ⟨w.heap.size + 1 + 1 + 1, 0, none⟩), .pointer (some ⟨w.heap.size + 1 + 1 + 1 + 1, 0, none⟩), .string x.1.1, .int .i64 x.1.2, undef, undef, .pointer (some ⟨p, 0, none⟩), .agg #[.string lo, .string hi], itv 57 R B, .string x.1.1, .int .i64 x.1.2, undef, undef, undef, undef, undef, undef, undef, undef, undef, undef, undef, undef, undef, undef, undef, undef, undef, undef], defers := [] }) ?assign ?body ?done ?stop
  case assign =>
    intro y x W K hK
    gi_wp2
    exact hK
  case body =>
    rintro y pre x W ⟨⟨v, hv, hrow, -⟩, ⟨hX, hL, hT⟩, hB⟩ hlt
    have hc := hv.cell
    have hcx := hX.cell
    have hsz := hB.size
    have g1 : pre.length + 1 ≤ maxLen := by unfold maxLen; omega
    have g2 : (pre.length + 1) * 16 ≤ 140737488355328 := by omega
    have GX := hid (GE.out x W hB)
    gi_wp2_with (first
      | ((try refine ⟨trivial, ?_⟩); gi_at_call 14; refine (CallsIn.inRound y (callsIn_wide.2 GX.out)).mono ?_; rintro e w2 ⟨rfl, rfl⟩)
      | (gi_at_builtin; refine wpListIn_append_own _ rfl _ _ 29 rfl w.heap.size 9 i0 (.string ⟨#[]⟩) 1 16 Try.underlying29 hi0 hz0 hz1 hz2 rfl (by decide) _ _ _ rfl (hrow.alloc _) ⟨_, 0, none⟩ 1 1 [.string x.1.1] rfl rfl (cell_one_new _ _ _) (by simp [Value.oneCell']) g1 g2 (by simp; omega) ?_; intro v' w2 hown' hgrow _; obtain ⟨g', cap', rfl⟩ := ownsRow_succ hown'; have hkp := kp_appended (v' := .slice (some ⟨g', 0, none⟩) (pre.length + 1) cap') hv hrow hgrow (not_ixt rfl) (not_ixt rfl); have hX2 := (((hX.alloc _).kept hgrow (hX.not_row (by decide) hrow)).other (B' := w.heap.size + 1 + 1 + 1 + 1) (by omega) (.slice (some ⟨g', 0, none⟩) (pre.length + 1) cap')); have hL2 := (((hL.alloc _).kept hgrow (hL.not_row (by decide) hrow)).other (B' := w.heap.size + 1 + 1 + 1 + 1) (by omega) (.slice (some ⟨g', 0, none⟩) (pre.length + 1) cap')); have hT2 := (((hT.alloc _).kept hgrow (hT.not_row (by decide) hrow)).other (B' := w.heap.size + 1 + 1 + 1 + 1) (by omega) (.slice (some ⟨g', 0, none⟩) (pre.length + 1) cap')); obtain ⟨hv1, hv2, hr2, hk2, hb2⟩ := hv.appended (by decide) hrow hB.size (by omega) hown' hgrow; have hc1 := hv1.cell; have hf1 := hv1.frozen))
    exact ⟨hk2.from _, hkp, ⟨_, hv2, by simpa [txs] using hr2, trivial⟩, ⟨hX2, hL2, hT2⟩, hB.trans hb2⟩
  case done =>
    rintro D ys W hD hys ⟨⟨v, hv, hrow, -⟩, ⟨hX, hL, hT⟩, hB⟩ hK
    have hyl : ys.length = (rangeX l lo hi).length := by have := congrArg List.length hys; simpa using this
    rw [hys, hyl] at hrow
    obtain ⟨ka, kc, rfl⟩ := owns_slice hrow
    have hc := hv.cell
    have c1 := hL.cell; have c2 := hT.cell
    have f1 := hL.frozen; have f2 := hT.frozen
    gi_wp2
    have hT' := hT.other (B' := w.heap.size + 1 + 1) (by omega) (.slice ka (rangeX l lo hi).length kc)
    have r1 := owns_box (u' := .slice ka (rangeX l lo hi).length kc) hrow hL (by decide)
    have r2 := owns_box (u' := .bool true) r1 hT' (by decide)
    have hKo : KeepsOthers W ((W.setCell ⟨w.heap.size + 1 + 1, 0, none⟩ (.slice ka (rangeX l lo hi).length kc)).setCell ⟨w.heap.size + 1 + 1 + 1, 0, none⟩ (.bool true)) := (KeepsOthers.setCell _ _ _).trans (KeepsOthers.setCell _ _ _)
    have hK' := hKo.same D _ hK rfl
    have x1 := (boxed_put ((hL.set (.slice ka (rangeX l lo hi).length kc)).other (B' := w.heap.size + 1 + 1 + 1) (by omega) (.bool true)) hK' rfl (.deferred none)).cell
    have x2 := (boxed_put (hT'.set (.bool true)) hK' rfl (.deferred none)).cell
    refine ⟨by simp, .inl ⟨_, _, rfl, run_takeDeferred hK', ?_⟩⟩
    refine ⟨.tuple #[.slice ka (rangeX l lo hi).length kc, .bool true], ?_, ka, kc, rfl, ownsRow_putObj r2 _ hK' rfl, (Below.setCell (Below.setCell hB (by simp; omega) _) (by simp; omega) _).trans (belowK_b (w := w) (Nat.le_refl _) _ D _ _ (by omega) hK' rfl rfl)⟩
    simp [results, Try.f19, go_sem, x1, x2]
  case stop =>
    rintro D c pre W _ _ h _
    exact h.elim

end Go.Proofs.Ytmhpakbkmddfeaa
