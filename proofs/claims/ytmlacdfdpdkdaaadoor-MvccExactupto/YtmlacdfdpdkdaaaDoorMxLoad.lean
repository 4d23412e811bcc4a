import Derived.Test.YtmlacdfdpdkdaaaDoorRvUnt
import Derived.Test.YtmlacdfdpdkdaaaDoorMxChgNew
import Derived.Test.YtmlacdfdpdkdaaaDoorRvLoad
/- A list of versions that is turned round in its place. -/
namespace Go.Proofs.YtmlacdfdpdkdaaaDoor.Bg
open Go.RowKit Go.Sort Go.Proofs.YtmlacdfdpdkdaaaDoor Go.Proofs.YtmlacdfdpdkdaaaDoor.Vs
set_option linter.unusedVariables false

/-- what place i holds when k pairs are changed for one another -/
def sw (vs : List Kv) (k i : Nat) : Kv := if i < k ∨ vs.length - k ≤ i then nthK vs (vs.length - 1 - i) else nthK vs i
theorem sw_zero (vs : List Kv) {i : Nat} (hi : i < vs.length) : sw vs 0 i = nthK vs i := by
  unfold sw; rw [if_neg (by omega)]
theorem sw_lo (vs : List Kv) {k : Nat} (hk : k < vs.length / 2) : sw vs k k = nthK vs k := by
  unfold sw; rw [if_neg (by omega)]
theorem sw_hi (vs : List Kv) {k : Nat} (hk : k < vs.length / 2) : sw vs k (vs.length - 1 - k) = nthK vs (vs.length - 1 - k) := by
  unfold sw; rw [if_neg (by omega)]
theorem sw_next (vs : List Kv) {k i : Nat} (hk : k < vs.length / 2) (hi : i < vs.length) : put (put (sw vs k) k (nthK vs (vs.length - 1 - k))) (vs.length - 1 - k) (nthK vs k) i = sw vs (k + 1) i := by
  by_cases e : i = vs.length - 1 - k
  · subst e
    rw [put_same]
    unfold sw
    rw [if_pos (by omega)]
    congr 1
    omega
  · rw [put_other _ _ e]
    by_cases e2 : i = k
    · subst e2
      rw [put_same]
      unfold sw
      rw [if_pos (by omega)]
    · rw [put_other _ _ e2]
      unfold sw
      by_cases h : i < k ∨ vs.length - k ≤ i
      · rw [if_pos h, if_pos (by omega)]
      · rw [if_neg h, if_neg (by omega)]
theorem sw_end (vs : List Kv) {i : Nat} (hi : i < vs.length) : sw vs (vs.length / 2) i = nthK vs.reverse i := by
  have hr : nthK vs.reverse i = nthK vs (vs.length - 1 - i) := by
    rw [nthK_get (by rw [List.length_reverse]; exact hi), nthK_get (by omega), List.getElem_reverse]
  rw [hr]
  unfold sw
  by_cases h : i < vs.length / 2 ∨ vs.length - vs.length / 2 ≤ i
  · rw [if_pos h]
  · rw [if_neg h]
    congr 1
    omega
/-- while it is turned -/
structure Lp (w4 wr : World) (g : Nat) (vs : List Kv) (k : Nat) : Prop where
  cells : CellsV wr g (sw vs k) vs.length
  ty : Typ 76 wr g
  onl : Onl (fun b => b = g) w4 wr
theorem Typ.free {T : TypeId} {w : World} {g : Nat} (h : Typ T w g) (o : Nat) : w.frozen? ⟨g, o, none⟩ = false := by
  obtain ⟨cs, hc⟩ := h
  simp [World.frozen?, hc]
theorem Lp.start {w4 : World} {g : Nat} {vs : List Kv} {f : Nat → Kv} (h : CellsV w4 g f (vs.length + 3)) (hf : ∀ i, i < vs.length → f i = nthK vs i) (ht : Typ 76 w4 g) : Lp w4 w4 g vs 0 :=
  ⟨fun i hi => by have := h i (by omega); rw [hf i hi, ← sw_zero vs hi] at this; exact this, ht, Onl.refl _ _⟩
theorem Lp.swap {w4 wr wa : World} {g k : Nat} {vs : List Kv} (h : Lp w4 wr g vs k) (hk : k < vs.length / 2) (hb : Below wr.heap.size wr wa) : Lp w4 (setV (setV wa g k (nthK vs (vs.length - 1 - k))) g (vs.length - 1 - k) (nthK vs k)) g vs (k + 1) := by
  have h1 := ((h.cells.later hb).put (by omega : k < vs.length) (nthK vs (vs.length - 1 - k))).put (by omega : vs.length - 1 - k < vs.length) (nthK vs k)
  refine ⟨fun i hi => ?_, ?_, ?_⟩
  · have := h1 i hi
    rw [sw_next vs hk hi] at this
    exact this
  · have h2 := h.ty.later hb
    exact (((((((((((h2.set _ _ _).set _ _ _).set _ _ _).set _ _ _).set _ _ _).set _ _ _).set _ _ _).set _ _ _).set _ _ _).set _ _ _).set _ _ _).set _ _ _
  · exact ((h.onl.on hb).trans (onl_setV wa g k _)).trans (onl_setV _ g _ _)
theorem Lp.row {w4 wr : World} {g : Nat} {vs : List Kv} (h : Lp w4 wr g vs (vs.length / 2)) : RowV wr (some ⟨g, 0, none⟩) vs.reverse := fun i hi => by
  rw [List.length_reverse] at hi
  refine ⟨g, 0, rfl, ?_⟩
  have := h.cells i hi
  rw [sw_end vs hi] at this
  rw [Nat.zero_add]
  exact this
end Go.Proofs.YtmlacdfdpdkdaaaDoor.Bg
/- What Load's step leaves. -/
namespace Go.Proofs.YtmlacdfdpdkdaaaDoor.Bg
open Go.RowKit Go.Sort Go.Proofs.YtmlacdfdpdkdaaaDoor Go.Proofs.YtmlacdfdpdkdaaaDoor.Vs
set_option linter.unusedVariables false

theorem load_below {wb w1 w4 wr w10 w11 : World} {g k : Nat} {vs : List Kv} (hlow : wb.heap.size ≤ g) (hb1 : Below wb.heap.size wb w1) (hb14 : Below w1.heap.size w1 w4) (hlp : Lp w4 wr g vs k) (hb10 : Below wr.heap.size wr w10) (ho : Onl (fun b => b = g) w10 w11) : Below wb.heap.size wb w11 := by
  have h4 := Below.on hb1 hb14
  have hr := h4.trans (hlp.onl.below (fun k e => by rw [e]; exact hlow) h4.size)
  have h10 := Below.on hr hb10
  exact h10.trans (ho.below (fun k e => by rw [e]; exact hlow) h10.size)
theorem load_end {W wb w1 w2 w3 w4 wr w10 w11 : World} {c : Nat → Nat} {b m j g k n n' p' r' : Nat} {x : Sv} {vs : List Kv} {t : Sp} {F' : Nat → Prop} {v' : Value} (h : St W wb c b x m) (hx : Eqs x n) (hj : j < 2) (hA : ldE vs = 0) (hlow : wb.heap.size ≤ g) (hb1 : Below wb.heap.size wb w1) (hg1 : g < w1.heap.size) (hb2 : Below w1.heap.size w1 w2) (hs : Sto F' w2 p' (loadM vs) t) (hF : ∀ k, F' k → w1.heap.size ≤ k)
    (hb3 : Below w2.heap.size w2 w3) (hr : Rs w3 w2.heap.size r' v' vs t) (hrl : w2.heap.size ≤ r') (hb34 : Below w3.heap.size w3 w4) (ht4 : Typ 76 w4 g) (hlp : Lp w4 wr g vs k) (hb10 : Below wr.heap.size wr w10) (ho : Onl (fun b => b = g) w10 w11) (hn : n ≤ n') (hv : vs.length ≤ n') :
    Ch W ((w11.setCell ⟨b, j, none⟩ (pt p')).setCell ⟨b, 2 + j, none⟩ (pt r')) b m n' := by
  have hb14 : Below w1.heap.size w1 w4 := Below.on (Below.on hb2 hb3) hb34
  have hall := load_below hlow hb1 hb14 hlp hb10 ho
  have hng : ¬ F' g := fun e => by have := hF g e; omega
  have hs11 : Sto F' w11 p' (loadM vs) t := Sto.aside ((Sto.aside ((hs.later hb3).later hb34) hlp.onl ht4 hng).later hb10) ho (hlp.ty.later hb10) hng
  have hnr : ∀ k, RsB r' v' k → w2.heap.size ≤ k := fun k hk => by
    rcases hk with rfl | hk
    · exact hrl
    · exact (World.ownsRow.lt hr.row k hk).1
  have hrg : ∀ k, RsB r' v' k → ¬ (fun b => b = g) k := fun k hk e => by
    have := hnr k hk
    have := hb2.size
    have e : k = g := e
    omega
  have hr11 : Rs w11 w2.heap.size r' v' vs t := (((hr.later hb34).onl hlp.onl hrg).later hb10).onl ho hrg
  have hW2 : W.heap.size ≤ w2.heap.size := Nat.le_trans h.bl.size (Nat.le_trans hb1.size hb2.size)
  obtain ⟨c1, h1, ho1, hn1⟩ := h.later hall (fun k => if k < w2.heap.size then j else 2 + j)
  have h2 := h1.pset hj hs11 (fun k hk => ⟨by rw [hn1 k (Nat.le_trans hb1.size (hF k hk)) (Sto.not_ix hs11 hk), if_pos (hs.lt hk)], Nat.le_trans h.bl.size (Nat.le_trans hb1.size (hF k hk))⟩)
  have hbb : b < w2.heap.size := Nat.lt_of_lt_of_le h.lt (Nat.le_trans hb1.size hb2.size)
  have hra : Rs (w11.setCell ⟨b, j, none⟩ (pt p')) W.heap.size r' v' (dumpM (loadM vs)) t := by
    have h8 : Rs w11 W.heap.size r' v' (dumpM (loadM vs)) t := by rw [ld_dump hA]; exact ⟨hr11.blk, OwnV.base hr11.row hW2, hr11.ne⟩
    exact h8.onl (F := fun k => k = b) (Onl.set (F := fun k => k = b) (Onl.refl _ _) rfl _ _) (fun k hk e => by have := hnr k hk; omega)
  have h4 := h2.rset hj hra (fun k hk => by
    have hk2 := hnr k hk
    rw [hn1 k (Nat.le_trans hb1.size (Nat.le_trans hb2.size hk2)) (Rs.not_ix hr11 hk), if_neg (by omega)]) (Nat.le_trans hW2 hrl)
  exact ⟨_, h4.sx, hx.put hn (by rw [ld_cnt hA]; exact hv) (ld_okM hA)⟩
end Go.Proofs.YtmlacdfdpdkdaaaDoor.Bg
