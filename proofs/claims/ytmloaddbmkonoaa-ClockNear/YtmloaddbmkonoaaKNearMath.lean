import Derived.Test.YtmloaddbmkonoaaKLife
namespace Go.Proofs.Ytmloaddbmkonoaa
open Go.RowKit Go.Sort
set_option linter.unusedVariables false

/-- what holds behind k steps: the wall is at most one above the greatest that was told -/
structure NearI (c : Int) (h : Int) (k : Nat) (r : Int) (l : St) : Prop where
  ur : U64 r
  ul : l.ok
  uh : U64 h
  low : c ≤ l.w
  rh : r ≤ h
  ch : c ≤ h
  near : l.w ≤ h ∨ (l.w = h + 1 ∧ l.l ≤ k)

theorem NearI.read {c h r x : Int} {k : Nat} {l : St} (I : NearI c h k r l) (hx : U64 x) : NearI c (if x > h then x else h) (k + 1) x l := by
  obtain ⟨h1, h2, h3, h4, h5, h6, h7⟩ := I
  unfold U64 at h1 h3 hx
  split
  · exact ⟨hx, h2, hx, h4, Int.le_refl _, by omega, by omega⟩
  · exact ⟨hx, h2, h3, h4, by omega, h6, by omega⟩
theorem NearI.skip {c h r : Int} {k : Nat} {l : St} (I : NearI c h k r l) : NearI c h (k + 1) r l := by
  obtain ⟨h1, h2, h3, h4, h5, h6, h7⟩ := I
  exact ⟨h1, h2, h3, h4, h5, h6, by omega⟩
theorem NearI.obs {c h r : Int} {k : Nat} {l s : St} (I : NearI c h k r l) (hs : s.ok) (ht : ¬ s.w = 18446744073709551615) :
    NearI c (if s.w > h then s.w else h) (k + 1) r (if l.less s then s else l) := by
  obtain ⟨h1, h2, h3, h4, h5, h6, h7⟩ := I
  have hs1 : U64 s.w := hs.1
  unfold U64 at h3 hs1
  cases hl : l.less s with
  | true =>
    have hl' := lessB_iff.1 hl
    rw [if_pos (rfl : true = true)]
    split
    · exact ⟨h1, hs, hs1, by omega, by omega, by omega, by omega⟩
    · exact ⟨h1, hs, h3, by omega, h5, h6, by omega⟩
  | false =>
    have hl' := lessB_iff_false.1 hl
    rw [if_neg Bool.false_ne_true]
    split
    · exact ⟨h1, h2, hs1, h4, by omega, by omega, by omega⟩
    · exact ⟨h1, h2, h3, h4, h5, h6, by omega⟩
theorem NearI.tick {g c n h r : Int} {k : Nat} {l : St} (I : NearI c h k r l) (hg : U64 g) (hc : U64 c) (hn : U32 n) (hk : k < 1048576) :
    (tickN ⟨g, c, n, r, l⟩ = ⟨0, 0, 0, 11⟩ ∧ tickC ⟨g, c, n, r, l⟩ = ⟨g, c, n, r, l⟩ ∧ ¬ h < 18446744073709551614) ∨
    ∃ W L, tickN ⟨g, c, n, r, l⟩ = ⟨W, L, n, 0⟩ ∧ tickC ⟨g, c, n, r, l⟩ = ⟨g, c, n, r, ⟨W, L, n⟩⟩ ∧ NearI c h (k + 1) r ⟨W, L, n⟩ := by
  obtain ⟨h1, h2, h3, h4, h5, h6, h7⟩ := I
  have h1' := h1; have h3' := h3
  unfold U64 at h1' h3'
  obtain ⟨⟨a1, a2⟩, ⟨b1, b2⟩, d1, d2⟩ : StB l.w l.l l.n := h2
  by_cases hr : r ≤ l.w
  · have e : tickN ⟨g, c, n, r, l⟩ = nxt l.w l.l n := by unfold tickN; rw [if_pos hr]
    by_cases ha : l.w = 18446744073709551615
    · rw [nxt_top ha] at e
      exact .inl ⟨e, tickC_no e (by omega), by omega⟩
    · by_cases hb : l.l < 4294967295
      · rw [nxt_in ha hb] at e
        refine .inr ⟨_, _, e, tickC_yes e rfl, h1, ⟨⟨a1, a2⟩, ⟨?_, ?_⟩, hn⟩, h3, h4, h5, h6, ?_⟩ <;> dsimp only <;> omega
      · by_cases hl : l.w + 1 = 18446744073709551615
        · rw [nxt_end ha hb hl] at e
          exact .inl ⟨e, tickC_no e (by omega), by omega⟩
        · rw [nxt_up ha hb hl] at e
          refine .inr ⟨_, _, e, tickC_yes e rfl, h1, ⟨⟨?_, ?_⟩, ⟨?_, ?_⟩, hn⟩, h3, ?_, h5, h6, ?_⟩ <;> dsimp only <;> omega
  · by_cases he : r = 18446744073709551615
    · have e : tickN ⟨g, c, n, r, l⟩ = ⟨0, 0, 0, 11⟩ := by unfold tickN; rw [if_neg hr, if_pos he]
      exact .inl ⟨e, tickC_no e (by omega), by omega⟩
    · have e : tickN ⟨g, c, n, r, l⟩ = ⟨r, 0, n, 0⟩ := by unfold tickN; rw [if_neg hr, if_neg he]
      refine .inr ⟨_, _, e, tickC_yes e rfl, h1, ⟨h1, ⟨?_, ?_⟩, hn⟩, h3, ?_, h5, h6, ?_⟩ <;> dsimp only <;> omega

/-- the argument's box and a clock -/
structure OneAt (w W : World) (N p : Nat) (vs : List Value) (c : Ck) : Prop where
  below : Below w.heap.size w W
  box : BoxAt W N vs
  ck : ClockAt W p c
  n0 : w.heap.size ≤ N
  np : N ≠ p
  p0 : w.heap.size ≤ p
theorem OneAt.later {w W W' : World} {N p : Nat} {vs : List Value} {c : Ck} (R : OneAt w W N p vs c) (hb : Below W.heap.size W W') : OneAt w W' N p vs c :=
  ⟨Below.on R.below hb, R.box.later hb, R.ck.later hb, R.n0, R.np, R.p0⟩
theorem OneAt.onC {w W W' : World} {N p : Nat} {vs : List Value} {c c' : Ck} (R : OneAt w W N p vs c) (hb : Only p W W') (h : ClockAt W' p c') : OneAt w W' N p vs c' :=
  ⟨R.below.trans (hb.below R.p0 R.below.size), R.box.only hb R.np, h, R.n0, R.np, R.p0⟩

end Go.Proofs.Ytmloaddbmkonoaa
