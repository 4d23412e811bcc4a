import Derived.Test.YtmlacdfdpdkdaaaDoorMxAskNone
import Derived.Test.YtmlacdfdpdkdaaaDoorMxChgNew
import Derived.Test.YtmlacdfdpdkdaaaDoorMxChgInst
import Derived.Test.YtmlacdfdpdkdaaaDoorMxChgPrune
import Derived.Test.YtmlacdfdpdkdaaaDoorMxChgNone
import Derived.Test.YtmlacdfdpdkdaaaDoorMxChgLoad11
import Derived.Test.YtmlacdfdpdkdaaaDoorVLen
import Derived.Test.YtmlacdfdpdkdaaaDoorRvAbove
/- A step of the law, of whatever kind. -/
namespace Go.Proofs.YtmlacdfdpdkdaaaDoor.Bg
open Go.RowKit Go.Sort Go.Proofs.YtmlacdfdpdkdaaaDoor Go.Proofs.YtmlacdfdpdkdaaaDoor.Vs
set_option linter.unusedVariables false

theorem and_one_i64 (o : Int) : ∃ j : Nat, j < 2 ∧ bits BinOp.and IntKind.i64 o 1 = (j : Int) := by
  refine ⟨(o % 2).toNat, by omega, ?_⟩
  show IntKind.i64.wrap (((BitVec.ofInt 64 o &&& BitVec.ofInt 64 1).toNat : Nat) : Int) = _
  rw [BitVec.toNat_and, BitVec.toNat_ofInt, show (BitVec.ofInt 64 1).toNat = 1 from by decide, Nat.and_one_is_mod, IntKind.wrap_i64]
  omega
/-- a step whose lists lie in the world -/
structure Sc.ok (W : World) (s : Sc) : Prop where
  w : RowW W s.wa s.ws
  v : RowV W s.va s.vs
  t : s.t.a ≤ 18446744073709551615
  vs : ∀ e ∈ s.vs, e.2.s.a ≤ 18446744073709551615
theorem asks_all {W w00 w : World} {b m n : Nat} {x : Sv} (h : Sx W w00 b x m) (hb00 : Below w00.heap.size w00 w) (hx : Eqs x n) (hn : n ≤ 1048576) (hm : m ≤ 1073741823) (s : Sc) :
    Calls Tryd.prog 8 #[pt b, .agg s.cells] w fun e w' => e = .returned (.bool true) ∧ Hid (Sx W w' b x (m + 2)) ∧ Hid (Fz w00.heap.size w.heap.size w w') := by
  obtain ⟨j, hj, hb⟩ := and_one_i64 s.o
  by_cases h3 : s.k = 3
  · exact asks_read h hb00 hx hn hm s hj hb h3
  by_cases h4 : s.k = 4
  · exact asks_abv h hb00 hx hn hm s hj hb h4
  by_cases h6 : s.k = 6
  · exact asks_mark h hb00 hx hn hm s hj hb h6
  by_cases h7 : s.k = 7
  · exact asks_len h hb00 hx hn hm s hj hb h7
  by_cases h8 : s.k = 8
  · exact asks_dump h hb00 hx hn hm s hj hb h8
  exact asks_none h hb00 hx hn hm s hj hb h3 h4 h6 h7 h8
theorem chg_all {W w : World} {b m n : Nat} {x : Sv} (hP : PowTab W) (h : Sx W w b x m) (hx : Eqs x n) (s : Sc) (hn : n + s.ws.length + s.vs.length ≤ 1048576) (ho : s.ok W) :
    Calls Tryd.prog 9 #[pt b, .agg s.cells] w fun e w' => e = .returned (.bool true) ∧ Hid (Ch W w' b m (n + s.ws.length + s.vs.length)) := by
  obtain ⟨j, hj, hb⟩ := and_one_i64 s.o
  by_cases h1 : s.k = 1
  · exact chg_new hP h hx s hn ho.w ho.v ho.t ho.vs hj hb h1
  by_cases h2 : s.k = 2
  · exact chg_inst hP h hx s hn ho.w ho.v ho.t ho.vs hj hb h2
  by_cases h5 : s.k = 5
  · exact chg_prune hP h hx s hn ho.w ho.v ho.t ho.vs hj hb h5
  by_cases h9 : s.k = 9
  · by_cases hA : ldE s.vs = 0
    · by_cases hB : ldE s.vs.reverse = 0
      · exact chg_load11 hP h hx s hn ho.w ho.v ho.t ho.vs hj hb h9 hA hB
      · exact chg_load10 hP h hx s hn ho.w ho.v ho.t ho.vs hj hb h9 hA hB
    · by_cases hB : ldE s.vs.reverse = 0
      · exact chg_load01 hP h hx s hn ho.w ho.v ho.t ho.vs hj hb h9 hA hB
      · exact chg_load00 hP h hx s hn ho.w ho.v ho.t ho.vs hj hb h9 hA hB
  by_cases h10 : s.k = 10
  · exact chg_rel hP h hx s hn ho.w ho.v ho.t ho.vs hj hb h10
  exact chg_none hP h hx s hn ho.w ho.v ho.t ho.vs hj hb h1 h2 h5 h9 h10
end Go.Proofs.YtmlacdfdpdkdaaaDoor.Bg
/- The law's beginning: two stores, two of the document's, empty books. -/
namespace Go.Proofs.YtmlacdfdpdkdaaaDoor.Bg
open Go.RowKit Go.Sort Go.Proofs.YtmlacdfdpdkdaaaDoor Go.Proofs.YtmlacdfdpdkdaaaDoor.Vs
set_option linter.unusedVariables false

abbrev sl0 : Value := .slice none 0 0
/-- the scene's object with empty books -/
def Ob (w : World) (b : Nat) (a0 a1 a2 a3 : Value) : Prop := w.heap[b]? = some (.cells #[a0, a1, a2, a3, sl0, sl0, sl0, sl0, sl0, sl0, sl0, sl0] TW (0, 0))
theorem Ob.lt {w : World} {b : Nat} {a0 a1 a2 a3 : Value} (h : Ob w b a0 a1 a2 a3) : b < w.heap.size := (Array.getElem?_eq_some_iff.1 h).1
theorem Ob.later {w w' : World} {b : Nat} {a0 a1 a2 a3 : Value} (h : Ob w b a0 a1 a2 a3) (hb : Below w.heap.size w w') : Ob w' b a0 a1 a2 a3 := (hb.block b h.lt).trans h
theorem ob_set {w : World} {b o : Nat} {cs : Array Value} {ty : TypeId} (h : w.heap[b]? = some (.cells cs ty (0, 0))) (u : Value) : (w.setCell ⟨b, o, none⟩ u).heap[b]? = some (.cells (cs.setIfInBounds o u) ty (0, 0)) := by
  rw [setCell_eq]; simp [mapBlock, Array.getElem?_modify, h, onCells]
theorem Ob.s0 {w : World} {b : Nat} {a0 a1 a2 a3 : Value} (h : Ob w b a0 a1 a2 a3) (u : Value) : Ob (w.setCell ⟨b, 0, none⟩ u) b u a1 a2 a3 := ob_set h u
theorem Ob.s1 {w : World} {b : Nat} {a0 a1 a2 a3 : Value} (h : Ob w b a0 a1 a2 a3) (u : Value) : Ob (w.setCell ⟨b, 1, none⟩ u) b a0 u a2 a3 := ob_set h u
theorem Ob.s2 {w : World} {b : Nat} {a0 a1 a2 a3 : Value} (h : Ob w b a0 a1 a2 a3) (u : Value) : Ob (w.setCell ⟨b, 2, none⟩ u) b a0 a1 u a3 := ob_set h u
theorem Ob.s3 {w : World} {b : Nat} {a0 a1 a2 a3 : Value} (h : Ob w b a0 a1 a2 a3) (u : Value) : Ob (w.setCell ⟨b, 3, none⟩ u) b a0 a1 a2 u := ob_set h u
theorem Ob.free {w : World} {b : Nat} {a0 a1 a2 a3 : Value} (h : Ob w b a0 a1 a2 a3) (o : Nat) : w.frozen? ⟨b, o, none⟩ = false := by
  have h : w.heap[b]? = some _ := h
  simp [World.frozen?, h]
/-- a new store and a new one of the document's -/
structure Pr (w : World) (lo hi : Nat) (p r : Nat) (F : Nat → Prop) : Prop where
  st : Sto F w p [] ⟨0, 0, 0⟩
  rs : Rs w lo r sl0 [] ⟨0, 0, 0⟩
  md : ∃ md, (∀ k, F k → lo ≤ k ∧ k < md) ∧ md ≤ r ∧ r < hi
  le : lo ≤ r
theorem Pr.later {w w' : World} {lo hi p r : Nat} {F : Nat → Prop} (h : Pr w lo hi p r F) (hb : Below w.heap.size w w') : Pr w' lo hi p r F := ⟨h.st.later hb, h.rs.later hb, h.md, h.le⟩
theorem Pr.set {w : World} {lo hi p r b o : Nat} {F : Nat → Prop} (h : Pr w lo hi p r F) (hb : b < lo) (ho : Obj4 TW w b) (u : Value) : Pr (w.setCell ⟨b, o, none⟩ u) lo hi p r F := by
  have ho1 : Onl (fun k => k = b) w (w.setCell ⟨b, o, none⟩ u) := Onl.set (F := fun k => k = b) (Onl.refl _ _) rfl _ _
  obtain ⟨md, h1, h2, h3⟩ := h.md
  refine ⟨Sto.keepK h.st (Kp.of_onl ho1 fun k cs t z hk hc => ?_) (fun k hk => ho1.block k (h.st.lt hk) (fun e => ?_)), h.rs.onl ho1 (fun k hk e => ?_), h.md, h.le⟩
  · obtain ⟨cs', hc'⟩ := ho
    subst hk
    rw [hc'] at hc; cases hc
    exact ixW
  · have := (h1 k hk).1
    have e : k = b := e
    omega
  · have e : k = b := e
    rcases hk with rfl | hk
    · have := h.le; omega
    · cases hk
/-- the two calls of a round -/
theorem pr_made {w w1 w3 w4 : World} {b p' : Nat} {F' : Nat → Prop} {u : Value} {o : Nat} (hb : b < w.heap.size) (ho : Obj4 TW w b) (hs : Sto F' w1 p' [] ⟨0, 0, 0⟩) (hF : ∀ k, F' k → w.heap.size ≤ k) (hb1 : Below w.heap.size w w1) (hb3 : Below (w1.setCell ⟨b, o, none⟩ u).heap.size (w1.setCell ⟨b, o, none⟩ u) w3) (hr : Rs w4 w3.heap.size w3.heap.size sl0 [] ⟨0, 0, 0⟩) (hb4 : Below w3.heap.size w3 w4) : Pr w4 w.heap.size w4.heap.size p' w3.heap.size F' := by
  have hz : (w1.setCell ⟨b, o, none⟩ u).heap.size = w1.heap.size := by simp [World.setCell]
  have h3 : w1.heap.size ≤ w3.heap.size := by rw [← hz]; exact hb3.size
  have ho1 : Onl (fun k => k = b) w1 (w1.setCell ⟨b, o, none⟩ u) := Onl.set (F := fun k => k = b) (Onl.refl _ _) rfl _ _
  have hob1 := ho.keep (hb1.block b hb)
  have hs2 : Sto F' (w1.setCell ⟨b, o, none⟩ u) p' [] ⟨0, 0, 0⟩ := by
    refine Sto.keepK hs (Kp.of_onl ho1 fun k cs t z hk hc => ?_) (fun k hk => ho1.block k (hs.lt hk) (fun e => ?_))
    · obtain ⟨cs', hc'⟩ := hob1
      subst hk
      rw [hc'] at hc; cases hc
      exact ixW
    · have := hF k hk
      have e : k = b := e
      omega
  have h1 := hb1.size
  exact ⟨(hs2.later hb3).later hb4, ⟨hr.blk, OwnV.base hr.row (by omega), hr.ne⟩, ⟨w1.heap.size, fun k hk => ⟨hF k hk, hs.lt hk⟩, h3, hr.lt⟩, by omega⟩
theorem bk_empty {α : Type} {E : El α} {M : Nat → Nat → α} {T : TypeId} {W w : World} {b oo d m : Nat} {c : Nat → Nat} (hd : d < 2) (ho : Obj4 T w b) (h0 : w.cell? ⟨b, oo, none⟩ = some sl0) (h1 : w.cell? ⟨b, oo + 1, none⟩ = some sl0) (h2 : w.cell? ⟨b, oo + 2, none⟩ = some sl0) (h3 : w.cell? ⟨b, oo + 3, none⟩ = some sl0) (hl : W.heap.size ≤ b) (hc : c b = 16) :
    Bq E M T W w b oo d c ⟨sl0, sl0, sl0, sl0, [], [], [], [], [], [], []⟩ m := by
  have hn : OwnL E w W.heap.size sl0 [] := ⟨rfl, .inl ⟨rfl, rfl⟩⟩
  have hg : ∀ g q, sl0.ownBlock = some g → c g = q := fun g q e => by cases e
  exact ⟨⟨hd, ho, h0, h1, h2, h3, hl, hc, hn, fun g e => hg g _ e, hn, fun g e => hg g _ e, hn, fun g e => hg g _ e, hn, fun g e => hg g _ e, rfl, rfl, rfl, rfl, Nat.le_refl _, fun i hi => absurd hi (Nat.not_lt_zero _), fun i hi => absurd hi (Nat.not_lt_zero _), fun i hi => absurd hi (Nat.not_lt_zero _), fun i hi => absurd hi (Nat.not_lt_zero _)⟩, rfl, fun i hi => absurd hi (Nat.not_lt_zero _), fun i hi => absurd hi (Nat.not_lt_zero _), fun i hi => absurd hi (Nat.not_lt_zero _), Nat.zero_le _⟩
theorem ch_begin {W w : World} {b lo0 hi0 lo1 hi1 p0 r0 p1 r1 : Nat} {F0 F1 : Nat → Prop} (hob : Ob w b (pt p0) (pt p1) (pt r0) (pt r1)) (h0 : Pr w lo0 hi0 p0 r0 F0) (h1 : Pr w lo1 hi1 p1 r1 F1) (hb : b < lo0) (h01 : hi0 ≤ lo1) (hW : W.heap.size ≤ b) (hbl : Below W.heap.size W w) : Ch W w b 0 0 := by
  obtain ⟨md0, f0, g0, i0⟩ := h0.md
  obtain ⟨md1, f1, g1, i1⟩ := h1.md
  have l0 := h0.le
  have l1 := h1.le
  obtain ⟨c, h7, hc⟩ := norm (fun k => if k = b then 16 else if k < md0 then 0 else if k < hi0 then 2 else if k < md1 then 1 else 3) w
  have ho4 : Obj4 TW w b := ⟨_, hob⟩
  have hcb : c b = 16 := by rw [hc b (not_ixB hob ixW)]; simp
  have cell : ∀ o u, (#[pt p0, pt p1, pt r0, pt r1, sl0, sl0, sl0, sl0, sl0, sl0, sl0, sl0] : Array Value)[o]? = some u → w.cell? ⟨b, o, none⟩ = some u := fun o u hu => cell_obj hob hu
  refine ⟨⟨fun i => if i = 0 then p0 else p1, fun i => if i = 0 then r0 else r1, fun i => if i = 0 then F0 else F1, fun _ => sl0, fun _ => [], fun _ => [], fun _ => ⟨0, 0, 0⟩, fun _ => ⟨0, 0, 0⟩, ⟨sl0, sl0, sl0, sl0, [], [], [], [], [], [], []⟩, ⟨sl0, sl0, sl0, sl0, [], [], [], [], [], [], []⟩⟩, ⟨c, _, _, ⟨fun j hj => ?_, fun j hj k hk => ?_, fun j hj => ?_, fun j hj k hk => ?_, fun j hj => ?_, fun j hj => ?_, fun j hj => ?_, bk_empty (by omega) ho4 (cell _ _ rfl) (cell _ _ rfl) (cell _ _ rfl) (cell _ _ rfl) hW hcb, bk_empty (by omega) ho4 (cell _ _ rfl) (cell _ _ rfl) (cell _ _ rfl) (cell _ _ rfl) hW hcb, h7, hbl⟩⟩, ⟨rfl, rfl, fun j _ => Nat.le_refl _, fun j _ => OkM.nil⟩⟩
  · match j, hj with
    | 0, _ => exact h0.st
    | 1, _ => exact h1.st
  · match j, hj, hk with
    | 0, _, hk =>
      have hk : F0 k := hk
      have := f0 k hk
      refine ⟨?_, by omega⟩
      rw [hc k (Sto.not_ix h0.st hk), if_neg (by omega), if_pos (by omega)]
    | 1, _, hk =>
      have hk : F1 k := hk
      have := f1 k hk
      refine ⟨?_, by omega⟩
      rw [hc k (Sto.not_ix h1.st hk), if_neg (by omega), if_neg (by omega), if_neg (by omega), if_pos (by omega)]
  · match j, hj with
    | 0, _ => exact ⟨h0.rs.blk, OwnV.base h0.rs.row (by omega), h0.rs.ne⟩
    | 1, _ => exact ⟨h1.rs.blk, OwnV.base h1.rs.row (by omega), h1.rs.ne⟩
  · match j, hj, hk with
    | 0, _, hk =>
      have hk : RsB r0 sl0 k := hk
      rw [hc k (Rs.not_ix h0.rs hk)]
      rcases hk with rfl | hk
      · rw [if_neg (by omega), if_neg (by omega), if_pos (by omega)]
      · cases hk
    | 1, _, hk =>
      have hk : RsB r1 sl0 k := hk
      rw [hc k (Rs.not_ix h1.rs hk)]
      rcases hk with rfl | hk
      · rw [if_neg (by omega), if_neg (by omega), if_neg (by omega), if_neg (by omega)]
      · cases hk
  · match j, hj with
    | 0, _ => show W.heap.size ≤ r0; omega
    | 1, _ => show W.heap.size ≤ r1; omega
  · match j, hj with
    | 0, _ => exact cell 0 _ rfl
    | 1, _ => exact cell 1 _ rfl
  · match j, hj with
    | 0, _ => exact cell 2 _ rfl
    | 1, _ => exact cell 3 _ rfl
abbrev pnil : Value := .pointer none
/-- one pair is made -/
def B1 (W w : World) (b : Nat) : Prop := ∃ p0 r0 F0 lo hi, Ob w b (pt p0) pnil (pt r0) pnil ∧ Pr w lo hi p0 r0 F0 ∧ b < lo ∧ hi ≤ w.heap.size ∧ Below W.heap.size W w
theorem round0 {W wr : World} {b : Nat} (hob : Ob wr b pnil pnil pnil pnil) (hW : W.heap.size ≤ b) (hbl : Below W.heap.size W wr) : ∀ w1, Below wr.heap.size wr w1 → Calls Tryd.prog 4 #[] w1 fun e w' => ∃ p', e = .returned (pt p') ∧ w'.cell? ⟨b, 0, none⟩ = some pnil ∧ w'.frozen? ⟨b, 0, none⟩ = false ∧ Hid (∀ w3, Below (w'.setCell ⟨b, 0, none⟩ (pt p')).heap.size (w'.setCell ⟨b, 0, none⟩ (pt p')) w3 → Calls Tryd.prog 7 #[] w3 fun e w4 => ∃ r', e = .returned (pt r') ∧ w4.cell? ⟨b, 2, none⟩ = some pnil ∧ w4.frozen? ⟨b, 2, none⟩ = false ∧ Hid (B1 W (w4.setCell ⟨b, 2, none⟩ (pt r')) b)) := by
  intro w1 hb1
  refine (stonew_is w1).mono ?_
  rintro e w' ⟨p', F', rfl, hs, hF, hb'⟩
  have o1 := hob.later hb1
  have o2 := o1.later hb'
  refine ⟨p', rfl, cell_obj o2 rfl, o2.free _, fun w3 hb3 => ?_⟩
  refine (rnew_is w3).mono ?_
  rintro e w4 ⟨rfl, hr, hb4⟩
  have o4 := ((o2.s0 (pt p')).later hb3).later hb4
  have hp := pr_made (o := 0) (u := pt p') o1.lt ⟨_, o1⟩ hs hF hb' hb3 hr hb4
  have hz : ∀ (w : World) (o : Nat) (u : Value), (w.setCell ⟨b, o, none⟩ u).heap.size = w.heap.size := fun w o u => by simp [World.setCell]
  refine ⟨_, rfl, cell_obj o4 rfl, o4.free _, p', _, F', _, _, o4.s2 _, hp.set o1.lt ⟨_, o4⟩ _, o1.lt, by rw [hz]; exact Nat.le_refl _, ?_⟩
  have h1 := Below.on (Below.on hbl hb1) hb'
  exact (Below.on (Below.on (h1.setCell hW _) hb3) hb4).setCell hW _
theorem round1 {W wr : World} {b : Nat} (h : B1 W wr b) (hW : W.heap.size ≤ b) : ∀ w1, Below wr.heap.size wr w1 → Calls Tryd.prog 4 #[] w1 fun e w' => ∃ p', e = .returned (pt p') ∧ w'.cell? ⟨b, 1, none⟩ = some pnil ∧ w'.frozen? ⟨b, 1, none⟩ = false ∧ Hid (∀ w3, Below (w'.setCell ⟨b, 1, none⟩ (pt p')).heap.size (w'.setCell ⟨b, 1, none⟩ (pt p')) w3 → Calls Tryd.prog 7 #[] w3 fun e w4 => ∃ r', e = .returned (pt r') ∧ w4.cell? ⟨b, 3, none⟩ = some pnil ∧ w4.frozen? ⟨b, 3, none⟩ = false ∧ Hid (Ch W (w4.setCell ⟨b, 3, none⟩ (pt r')) b 0 0)) := by
  intro w1 hb1
  obtain ⟨p0, r0, F0, lo, hi, hob, hp0, hlo, hhi, hbl⟩ := h
  refine (stonew_is w1).mono ?_
  rintro e w' ⟨p', F', rfl, hs, hF, hb'⟩
  have o1 := hob.later hb1
  have o2 := o1.later hb'
  refine ⟨p', rfl, cell_obj o2 rfl, o2.free _, fun w3 hb3 => ?_⟩
  refine (rnew_is w3).mono ?_
  rintro e w4 ⟨rfl, hr, hb4⟩
  have o4 := ((o2.s1 (pt p')).later hb3).later hb4
  have hp := pr_made (o := 1) (u := pt p') o1.lt ⟨_, o1⟩ hs hF hb' hb3 hr hb4
  have hq := ((((hp0.later hb1).later hb').set (o := 1) hlo ⟨_, o2⟩ (pt p')).later hb3).later hb4
  refine ⟨_, rfl, cell_obj o4 rfl, o4.free _, ch_begin (o4.s3 _) (hq.set hlo ⟨_, o4⟩ _) (hp.set o1.lt ⟨_, o4⟩ _) hlo (Nat.le_trans hhi hb1.size) hW ?_⟩
  have h1 := Below.on (Below.on hbl hb1) hb'
  exact (Below.on (Below.on (h1.setCell hW _) hb3) hb4).setCell hW _
end Go.Proofs.YtmlacdfdpdkdaaaDoor.Bg
/- MvccExact. -/
namespace Go.Proofs.YtmlacdfdpdkdaaaDoor.Bg
open Go.RowKit Go.Sort Go.Proofs.YtmlacdfdpdkdaaaDoor Go.Proofs.YtmlacdfdpdkdaaaDoor.Vs
set_option linter.unusedVariables false

abbrev th : ByteArray := ⟨#[104]⟩
abbrev t1 : ByteArray := ⟨#[49]⟩
abbrev wh : Wr := ⟨th, false, t1⟩
theorem inst_h : instE [] [wh] ⟨1, 0, 0⟩ = 0 := by kernel_rfl
theorem instR_h : instR [] [wh] ⟨1, 0, 0⟩ = [(th, [⟨⟨1, 0, 0⟩, false, t1⟩])] := by
  unfold instR; rw [inst_h]; rfl
theorem read_h : rdE (instR [] [wh] ⟨1, 0, 0⟩) ⟨0, 0, 0⟩ ⟨#[]⟩ ⟨#[]⟩ ⟨1, 0, 0⟩ = 0 ∧ rdL (instR [] [wh] ⟨1, 0, 0⟩) ⟨0, 0, 0⟩ ⟨#[]⟩ ⟨#[]⟩ ⟨1, 0, 0⟩ = [(th, t1)] := by
  rw [instR_h]; constructor <;> kernel_rfl
theorem row_h {w : World} {q : Nat} (h : w.heap[q]? = some (.cells #[.string th, .bool false, .string t1] 28 (0, 0))) : RowW w (some ⟨q, 0, none⟩) [wh] := fun i hi => by
  have hi : i < 1 := hi
  obtain rfl : i = 0 := by omega
  exact ⟨q, 0, rfl, cell_obj h rfl, cell_obj h rfl, cell_obj h rfl⟩
theorem cell_of_below {B : Nat} {w w' : World} {q o : Nat} {x : Value} (hb : Below B w w') (hq : q < B) (h : w.cell? ⟨q, o, none⟩ = some x) : w'.cell? ⟨q, o, none⟩ = some x := (World.cell?_of_block (a := ⟨q, o, none⟩) (hb.block q hq)).trans h
/-- a script -/
def scz : Sc := ⟨0, 0, ⟨0, 0, 0⟩, ⟨#[]⟩, ⟨#[]⟩, none, 0, [], none, 0, []⟩
def nthS (xs : List Sc) (i : Nat) : Sc := (xs[i]?).getD scz
def szS (xs : List Sc) : Nat := (xs.map fun s => s.ws.length + s.vs.length + 1).sum
theorem nthS_mem {xs : List Sc} {i : Nat} (h : i < xs.length) : nthS xs i ∈ xs := by
  rw [nthS, List.getElem?_eq_getElem h]; exact List.getElem_mem h
theorem szS_take {xs : List Sc} {i : Nat} (h : i < xs.length) : szS (xs.take (i + 1)) = szS (xs.take i) + ((nthS xs i).ws.length + (nthS xs i).vs.length + 1) := by
  have e : szS (xs.take i ++ [nthS xs i]) = szS (xs.take i) + ((nthS xs i).ws.length + (nthS xs i).vs.length + 1) := by
    rw [szS, List.map_append, List.sum_append, szS]; rfl
  rw [← e, List.take_add_one, nthS, List.getElem?_eq_getElem h]
  rfl
theorem szS_le (xs : List Sc) (i : Nat) : szS (xs.take i) ≤ szS xs := by
  have h : szS xs = szS (xs.take i) + szS (xs.drop i) := by
    rw [szS, szS, szS, ← List.sum_append, ← List.map_append, List.take_append_drop]
  omega
theorem szS_len : ∀ (xs : List Sc), xs.length ≤ szS xs
  | [] => by simp [szS]
  | x :: xs => by
    have := szS_len xs
    simp only [szS, List.map_cons, List.sum_cons, List.length_cons] at this ⊢
    omega
/-- the script's row -/
def RowSc (w : World) (a : Option Addr) (xs : List Sc) : Prop := ∀ i, i < xs.length → ∃ b off, a = some ⟨b, off, none⟩ ∧ ∀ o u, (nthS xs i).cells[o]? = some u → w.cell? ⟨b, off + i * 9 + o, none⟩ = some u

set_option maxRecDepth 16000 in
set_option maxHeartbeats 16000000 in
theorem law_exact {W : World} {a : Option Addr} {c : Nat} {xs : List Sc} (hP : PowTab W) (hrow : RowSc W a xs) (hok : ∀ s ∈ xs, s.ok W) (hsz : szS xs ≤ 1048576) :
    Calls Tryd.prog 3 #[.slice a xs.length c] W fun e w' => e = .returned (.bool true) ∧ Below W.heap.size W w' := by
  have HROW := hid hrow
  have HOK := hid hok
  have HSZ := hid hsz
  have HP := hid hP
  have hm20 := Nat.le_trans (szS_len xs) hsz
  obtain ⟨m, hm⟩ : ∃ m, m = xs.length := ⟨_, rfl⟩
  have HM := hid hm
  rw [← hm] at hm20 ⊢
  have NW := hid (stonew_is W)
  clear hrow hok hsz hm hP
  go_enter Tryd.func3, Tryd.ntmps3
  go_wp2_with fail
  refine NW.out.mono ?_
  rintro e w1 ⟨p, F, rfl, hs1, hF1, hb1⟩
  have HS1 := hid hs1
  have HB1 := hid hb1
  have HF1 := hid hF1
  obtain ⟨w2, hw2⟩ : ∃ w2, w2 = w1.alloc (.cells #[.string th, .bool false, .string t1] 28) := ⟨_, rfl⟩
  have HW2 := hid hw2
  have IN : Hid (Calls Tryd.prog 5 #[pt p, .slice (some ⟨w1.heap.size, 0, none⟩) 1 1, sv ⟨1, 0, 0⟩] w2 fun e w' => e = .returned (.int .i64 0) ∧ Hid ((∃ F', Sto F' w' p (instR [] [wh] ⟨1, 0, 0⟩) ⟨0, 0, 0⟩) ∧ Below W.heap.size W w')) := by
    have hk2 : w2.heap[w1.heap.size]? = some (.cells #[.string th, .bool false, .string t1] 28 (0, 0)) := by rw [hw2]; exact World.alloc_heap_new _ _
    have hb2 : Below w1.heap.size w1 w2 := by rw [hw2]; exact Below.al (Below.refl _ _) _
    refine (install_is (c := 1) (ws := [wh]) ⟨1, 0, 0⟩ (hs1.later hb2) (row_h hk2) (fun b off e hf => ?_) (by decide) (by decide)).mono ?_
    · have e : w1.heap.size = b := by injection e with e; injection e
      have := hs1.lt hf
      omega
    · rintro e w' ⟨rfl, F', h1, h2, h3⟩
      have hbw := Below.on hb1 hb2
      exact ⟨by rw [inst_h], ⟨F', h1⟩, hbw.trans (h3.below hF1 hbw.size)⟩
  clear NW hs1 hb1 hw2 hF1
  go_wp2_with fail
  rw [← HW2.out]
  refine IN.out.mono ?_
  rintro e w3 ⟨rfl, h3⟩
  have RD : Hid (Calls Tryd.prog 6 #[pt p, .agg #[.string ⟨#[]⟩, .string ⟨#[]⟩], sv ⟨1, 0, 0⟩] w3 fun e w' => ∃ q k, e = .returned (.tuple #[.slice (some ⟨q, 0, none⟩) 1 k, .int .i64 0]) ∧ w'.cell? ⟨q, 0, none⟩ = some (.string th) ∧ w'.cell? ⟨q, 1, none⟩ = some (.string t1) ∧ Hid (Below W.heap.size W w')) := by
    obtain ⟨⟨F', hs⟩, hb⟩ := h3.out
    refine (read_is hs ⟨#[]⟩ ⟨#[]⟩ ⟨1, 0, 0⟩ (by rw [instR_h]; decide)).mono ?_
    rintro e w' ⟨v, rfl, ho, hb'⟩
    rw [read_h.1]
    rw [read_h.2] at ho
    obtain ⟨_, ⟨e, h0⟩ | ⟨g, cap, cur, e, _, hg, _, _, _, ht⟩⟩ := ho
    · cases h0
    · refine ⟨g, cap, by rw [e]; rfl, cell_obj hg ?_, cell_obj hg ?_, Below.on hb hb'⟩
      · have : (cur.toList.take 2)[0]? = some (.string th) := by rw [show cur.toList.take 2 = _ from ht]; rfl
        simpa [List.getElem?_take] using this
      · have : (cur.toList.take 2)[1]? = some (.string t1) := by rw [show cur.toList.take 2 = _ from ht]; rfl
        simpa [List.getElem?_take] using this
  clear IN
  go_wp2_with fail
  refine RD.out.mono ?_
  rintro e w4 ⟨q, k, rfl, k0, k1, HB4⟩
  obtain ⟨w5, hw5⟩ : ∃ w5, w5 = w4.alloc (.cells #[.pointer none, .pointer none, .pointer none, .pointer none, sl0, sl0, sl0, sl0, sl0, sl0, sl0, sl0] TW) := ⟨_, rfl⟩
  have HW5 := hid hw5
  obtain ⟨b, hb⟩ : ∃ b, b = w4.heap.size := ⟨_, rfl⟩
  have HBB := hid hb
  have HOB : Hid (Ob w5 b pnil pnil pnil pnil ∧ Below W.heap.size W w5) := by
    refine ⟨?_, by rw [hw5]; exact Below.al HB4.out _⟩
    rw [hb, hw5]; exact World.alloc_heap_new _ _
  have HWb : Hid (W.heap.size ≤ b) := by rw [hb]; exact HB4.out.size
  clear RD hw5 hb
  go_wp2_with fail
  rw [← HW5.out, ← HBB.out]
  clear HW5 HBB HW2 HS1 HF1 HB1 k0 k1
  go_loopg [7] 2 (fun g s7 wr => (g = 2 ∧ s7 = .int .i64 0 ∧ Hid (Ob wr b pnil pnil pnil pnil ∧ Below W.heap.size W wr)) ∨ (g = 1 ∧ s7 = .int .i64 1 ∧ Hid (B1 W wr b)) ∨ (g = 0 ∧ s7 = .int .i64 2 ∧ Hid (Ch W wr b 0 0)))
  case atStart => exact .inl ⟨rfl, rfl, HOB.out⟩
  case round =>
    clear HOB
    rcases hrel with ⟨rfl, rfl, H0⟩ | ⟨rfl, rfl, H1⟩ | ⟨rfl, rfl, H2⟩
    · have N0 := hid (round0 H0.out.1 HWb.out H0.out.2)
      go_wp2_with fail
      go_region_with ((go_at_call 4; refine (N0.out _ (by (repeat (first | with_reducible exact Below.refl _ _ | with_reducible assumption | with_reducible refine Below.drew ?_ | with_reducible refine Below.al ?_ _ | with_reducible refine Below.setCell ?_ (by first | exact Nat.le_refl _ | (simp; omega) | (simp; done)) _ | with_reducible refine Below.on ?_ (by assumption))))).mono ?_; rintro e w6 ⟨p', rfl, u0, u1, HK⟩))
      all_goals (try go_wp2_with fail)
      all_goals go_region_with ((go_at_call 7; refine (HK.out _ (by (repeat (first | with_reducible exact Below.refl _ _ | with_reducible assumption | with_reducible refine Below.drew ?_ | with_reducible refine Below.al ?_ _ | with_reducible refine Below.setCell ?_ (by first | exact Nat.le_refl _ | (simp; omega) | (simp; done)) _ | with_reducible refine Below.on ?_ (by assumption))))).mono ?_; rintro e w8 ⟨r', rfl, u2, u3, HC⟩))
      all_goals (try go_wp2_with fail)
      all_goals go_roundg 1
      all_goals first | omega | exact .inr (.inl ⟨rfl, rfl, HC.out⟩)
    · have N1 := hid (round1 H1.out HWb.out)
      go_wp2_with fail
      go_region_with ((go_at_call 4; refine (N1.out _ (by (repeat (first | with_reducible exact Below.refl _ _ | with_reducible assumption | with_reducible refine Below.drew ?_ | with_reducible refine Below.al ?_ _ | with_reducible refine Below.setCell ?_ (by first | exact Nat.le_refl _ | (simp; omega) | (simp; done)) _ | with_reducible refine Below.on ?_ (by assumption))))).mono ?_; rintro e w6 ⟨p', rfl, u0, u1, HK⟩))
      all_goals (try go_wp2_with fail)
      all_goals go_region_with ((go_at_call 7; refine (HK.out _ (by (repeat (first | with_reducible exact Below.refl _ _ | with_reducible assumption | with_reducible refine Below.drew ?_ | with_reducible refine Below.al ?_ _ | with_reducible refine Below.setCell ?_ (by first | exact Nat.le_refl _ | (simp; omega) | (simp; done)) _ | with_reducible refine Below.on ?_ (by assumption))))).mono ?_; rintro e w8 ⟨r', rfl, u2, u3, HC⟩))
      all_goals (try go_wp2_with fail)
      all_goals go_roundg 0
      all_goals first | omega | exact .inr (.inr ⟨rfl, rfl, HC.out⟩)
    · have HCH : Hid (Ch W wr b (2 * 0) (szS (xs.take 0))) := H2.out
      clear H2
      go_wp2_with fail
      go_loopg [8] m (fun g s8 ws => ∃ i : Nat, i ≤ m ∧ g = m - i ∧ s8 = .int .i64 i ∧ Hid (Ch W ws b (2 * i) (szS (xs.take i))))
      case atStart => exact ⟨0, by omega, by omega, rfl, HCH.out⟩
      case round =>
        obtain ⟨i, hi, rfl, rfl, HI⟩ := hrel
        clear HCH
        by_cases hlt : i < m
        · have hlt' : i < xs.length := by rw [← HM.out]; exact hlt
          obtain ⟨bs, off, rfl, hcs⟩ := HROW.out i hlt'
          obtain ⟨t, ht⟩ : ∃ t, t = nthS xs i := ⟨_, rfl⟩
          have HT := hid ht
          rw [← ht] at hcs
          have HBW : Hid (Below W.heap.size W wr) := by obtain ⟨x, h1, _⟩ := HI.out; exact h1.bl
          have hbs : bs < W.heap.size := World.block_lt_of_cell? _ _ (hcs 0 _ rfl)
          have d0 : wr.cell? ⟨bs, off + i * 9, none⟩ = some (.int .i64 t.k) := cell_of_below HBW.out hbs (hcs 0 _ rfl)
          have d1 : wr.cell? ⟨bs, off + i * 9 + 1, none⟩ = some (.int .i64 t.o) := cell_of_below HBW.out hbs (hcs 1 _ rfl)
          have d2 : wr.cell? ⟨bs, off + i * 9 + 2, none⟩ = some (.int .u64 t.t.a) := cell_of_below HBW.out hbs (hcs 2 _ rfl)
          have d3 : wr.cell? ⟨bs, off + i * 9 + 3, none⟩ = some (.int .u32 t.t.b) := cell_of_below HBW.out hbs (hcs 3 _ rfl)
          have d4 : wr.cell? ⟨bs, off + i * 9 + 4, none⟩ = some (.int .u32 t.t.c) := cell_of_below HBW.out hbs (hcs 4 _ rfl)
          have d5 : wr.cell? ⟨bs, off + i * 9 + 5, none⟩ = some (.string t.lo) := cell_of_below HBW.out hbs (hcs 5 _ rfl)
          have d6 : wr.cell? ⟨bs, off + i * 9 + 6, none⟩ = some (.string t.hi) := cell_of_below HBW.out hbs (hcs 6 _ rfl)
          have d7 : wr.cell? ⟨bs, off + i * 9 + 7, none⟩ = some (.slice t.wa t.ws.length t.wc) := cell_of_below HBW.out hbs (hcs 7 _ rfl)
          have d8 : wr.cell? ⟨bs, off + i * 9 + 8, none⟩ = some (.slice t.va t.vs.length t.vc) := cell_of_below HBW.out hbs (hcs 8 _ rfl)
          obtain ⟨x, hsx, hex⟩ := HI.out
          have HSX := hid hsx
          have HEX := hid hex
          have hse := szS_take hlt'
          have hsl := szS_le xs (i + 1)
          have hsz := HSZ.out
          rw [← ht] at hse
          obtain ⟨n, hn⟩ : ∃ n, n = szS (xs.take i) := ⟨_, rfl⟩
          have HN := hid hn
          rw [← hn] at hse HEX
          obtain ⟨wa, hwa⟩ : ∃ wa, wa = wr.alloc (.cells t.cells 58) := ⟨_, rfl⟩
          obtain ⟨bx, hbx⟩ : ∃ bx, bx = wr.heap.size := ⟨_, rfl⟩
          have hba : Below wr.heap.size wr wa := by rw [hwa]; exact Below.al (Below.refl _ _) _
          have HKA : Hid (wa.heap[bx]? = some (.cells t.cells 58 (0, 0)) ∧ bx < wa.heap.size ∧ wr.heap.size ≤ bx) := by
            have h9 : wa.heap[bx]? = some (.cells t.cells 58 (0, 0)) := by rw [hwa, hbx]; exact World.alloc_heap_new _ _
            exact ⟨h9, (Array.getElem?_eq_some_iff.1 h9).1, by omega⟩
          have AS := hid (asks_all HSX.out hba HEX.out (by omega) (by omega) t)
          have HNL : Hid (n + t.ws.length + t.vs.length ≤ 1048576) := by show _ ≤ _; omega
          have HEND : Hid (n + t.ws.length + t.vs.length ≤ szS (xs.take (i + 1))) := by show _ ≤ _; omega
          have HWA := hid hwa
          have HBX := hid hbx
          have hI : (i : Int) < (m : Int) := by omega
          clear hsx hex hse hsl hsz hn hwa hbx hba ht hcs
          go_wp2_with fail
          rw [← HWA.out, ← HBX.out]
          refine AS.out.mono ?_
          rintro e w6 ⟨rfl, HX6, HF6⟩
          have hk6 : w6.heap[bx]? = some (.cells t.cells 58 (0, 0)) := (HF6.out bx HKA.out.2.2 HKA.out.2.1).trans HKA.out.1
          have z0 : w6.cell? ⟨bx, 0, none⟩ = some (.int .i64 t.k) := cell_obj hk6 rfl
          have z1 : w6.cell? ⟨bx, 1, none⟩ = some (.int .i64 t.o) := cell_obj hk6 rfl
          have z2 : w6.cell? ⟨bx, 2, none⟩ = some (.int .u64 t.t.a) := cell_obj hk6 rfl
          have z3 : w6.cell? ⟨bx, 3, none⟩ = some (.int .u32 t.t.b) := cell_obj hk6 rfl
          have z4 : w6.cell? ⟨bx, 4, none⟩ = some (.int .u32 t.t.c) := cell_obj hk6 rfl
          have z5 : w6.cell? ⟨bx, 5, none⟩ = some (.string t.lo) := cell_obj hk6 rfl
          have z6 : w6.cell? ⟨bx, 6, none⟩ = some (.string t.hi) := cell_obj hk6 rfl
          have z7 : w6.cell? ⟨bx, 7, none⟩ = some (.slice t.wa t.ws.length t.wc) := cell_obj hk6 rfl
          have z8 : w6.cell? ⟨bx, 8, none⟩ = some (.slice t.va t.vs.length t.vc) := cell_obj hk6 rfl
          have CG := hid (chg_all HP.out HX6.out HEX.out t HNL.out (by rw [HT.out]; exact HOK.out _ (nthS_mem hlt')))
          clear hk6 AS d0 d1 d2 d3 d4 d5 d6 d7 d8
          go_wp2_with fail
          refine CG.out.mono ?_
          rintro e w7 ⟨rfl, HC7⟩
          obtain ⟨x7, hs7, he7⟩ := HC7.out
          have HE7 := hid he7
          have WH := hid (hs7.whole HP.out (by omega))
          clear CG hs7 he7 HC7 z0 z1 z2 z3 z4 z5 z6 z7 z8
          go_wp2_with fail
          refine WH.out.mono ?_
          rintro e w8 ⟨rfl, h8⟩
          have HR : Hid (Ch W w8 b (2 * (i + 1)) (szS (xs.take (i + 1)))) := ⟨x7, h8.out, HE7.out.mono HEND.out⟩
          clear WH
          go_wp2_with fail
          go_roundg (m - (i + 1))
          case measure => omega
          case rel => exact ⟨i + 1, by omega, rfl, by go_num, HR.out⟩
        · obtain rfl : m = i := by omega
          have ST : Hid (Calls Tryd.prog 11 #[.pointer (some ⟨b, 4, none⟩)] wr fun e w' => e = .returned (.bool true) ∧ Below W.heap.size W w') := by
            obtain ⟨x, h1, h2⟩ := HI.out
            refine (h1.settle HP.out (by omega)).mono ?_
            rintro e w' ⟨rfl, h3⟩
            exact ⟨rfl, h3.out.bl⟩
          clear hlt hi
          go_wp2_with fail
          refine ST.out.mono ?_
          rintro e w9 ⟨rfl, hb9⟩
          have HB9 := hid hb9
          clear hb9
          go_wp2_with fail
          go_ret
          exact ⟨rfl, HB9.out⟩
end Go.Proofs.YtmlacdfdpdkdaaaDoor.Bg
