import Derived.Test.YtfafkohghgliaabDoorTuVo
import Derived.Test.YtfafkohghgliaabDoorTuSeq
import Derived.Test.YtfafkohghgliaabDoorTuRefP
import Derived.Maps.AppendAt
/- The program's Parse. -/
namespace Go.Proofs.YtfafkohghgliaabDoor.Tu
open Go.RowKit Go.Sort Go.Shelf Go.Proofs.YtfafkohghgliaabDoor Go.Proofs.YtfafkohghgliaabDoor.Rt Go.Proofs.YtfafkohghgliaabDoor.Gt
set_option linter.unusedVariables false
set_option linter.unusedSectionVars false
variable [DecidableEq Vl]
set_option linter.unusedSimpArgs false
set_option maxRecDepth 100000
attribute [local go_sem] Oper.semAt_some

/-! the words that have been heard -/
theorem parF_snoc {a : List Nat} {ws : List (List Nat)} {t : List Vl} {x : Vl} (h : parF ws = some t) (ha : hearL a = some x) : parF (ws ++ [a]) = some (t ++ [x]) := by
  induction ws generalizing t with
  | nil =>
    injection h with h; subst h
    show (hearL a).bind _ = _
    rw [ha]; rfl
  | cons w r ih =>
    obtain ⟨v, hv, h⟩ := Option.bind_eq_some_iff.1 h
    obtain ⟨p, hp, rfl⟩ := Option.map_eq_some_iff.1 h
    show (hearL w).bind _ = _
    rw [hv]
    show (parF (r ++ [a])).map _ = _
    rw [ih hp]; rfl
theorem parF_bad {a : List Nat} {ws : List (List Nat)} (h : a ∈ ws) (ha : hearL a = none) : parF ws = none := by
  induction ws with
  | nil => cases h
  | cons w r ih =>
    show (hearL w).bind _ = _
    rcases List.mem_cons.1 h with rfl | h
    · rw [ha]; rfl
    · rw [ih h]
      cases hearL w <;> rfl
theorem nth_take {ws : List (List Nat)} {i : Nat} (h : i < ws.length) : ws.take (i + 1) = ws.take i ++ [nthW ws i] := by
  rw [List.take_succ_eq_append_getElem h]; simp [nthW, h]
theorem nth_mem {ws : List (List Nat)} {i : Nat} (h : i < ws.length) : nthW ws i ∈ ws := by simp [nthW, h]
/-- SplitSeq makes the iterator -/
theorem splitSeq_is (b : ByteArray) (w : World) : Calls Tryd.prog 35 #[.string b, .string ⟨#[32]⟩] w fun e w' => e = .returned (.func (.func SPL1) #[] #[.pointer (some ⟨w.heap.size + 1, 0, none⟩), .pointer (some ⟨w.heap.size, 0, none⟩), .pointer (some ⟨w.heap.size + 2, 0, none⟩)]) ∧ w' = ((w.alloc (.cells #[.string b] 9)).alloc (.cells #[.string ⟨#[32]⟩] 9)).alloc (.cells #[.int .i64 0] 3) := by
  have H2 : ∀ w, Hid (Calls Tryd.prog 58 #[.string b, .string ⟨#[32]⟩, .int .i64 0] w fun e w' => e = .returned (.func (.func SPL1) #[] #[.pointer (some ⟨w.heap.size + 1, 0, none⟩), .pointer (some ⟨w.heap.size, 0, none⟩), .pointer (some ⟨w.heap.size + 2, 0, none⟩)]) ∧ w' = ((w.alloc (.cells #[.string b] 9)).alloc (.cells #[.string ⟨#[32]⟩] 9)).alloc (.cells #[.int .i64 0] 3)) := fun w => by
    refine hid ?_
    go_enter Tryd.func58, Tryd.ntmps58
    go_wp2_with fail
    go_ret
    exact ⟨rfl, rfl⟩
  go_enter Tryd.func35, Tryd.ntmps35
  go_wp2_with (go_at_call 58; refine (H2 _).out.mono ?_; rintro e w2 ⟨rfl, rfl⟩)
  go_ret
  exact ⟨rfl, rfl⟩
/-- between two rounds: the two results, the row so far -/
structure Pi (w : World) (B : Nat) (vs : List Vl) (v : Value) (W : World) : Prop where
  r0 : W.heap[w.heap.size]? = some (.cells #[.slice none 0 0] 22 (0, 0))
  r1 : W.heap[w.heap.size + 1]? = some (.cells #[.int .i64 0] 25 (0, 0))
  tb : W.heap[w.heap.size + 2]? = some (.cells #[v] 22 (0, 0))
  own : OwnV W B v vs
  bl : Below w.heap.size w W
  sz : B ≤ W.heap.size
def PI (w : World) (B : Nat) (ws : List (List Nat)) (i : Nat) (W : World) : Prop := ∃ vs v, parF (ws.take i) = some vs ∧ vs.length = i ∧ Pi w B vs v W
def PX (w : World) (ws : List (List Nat)) (i : Nat) (W : World) : Prop := parF ws = none ∧ W.heap[w.heap.size]? = some (.cells #[.slice none 0 0] 22 (0, 0)) ∧ W.heap[w.heap.size + 1]? = some (.cells #[.int .i64 250] 25 (0, 0)) ∧ Below w.heap.size w W
theorem stays {w X Y : World} {B k : Nat} {row : Option Nat} {o : Obj} (hg : X.grownBy Y row) (hrow : row = none ∨ row = some (w.heap.size + 3) ∨ ∃ r o, row = some r ∧ B ≤ r ∧ X.heap[r]? = some o ∧ o.isCells = false) (hB : w.heap.size + 6 ≤ B) (hk : k < w.heap.size + 3) (h : X.heap[k]? = some o) : Y.heap[k]? = some o := by
  rw [hg.block _ (Array.getElem?_eq_some_iff.1 h).1 (fun e => by
    rcases hrow with hr | hr | ⟨r, _, hr, h1, _⟩ <;> rw [hr] at e <;> cases e <;> omega)]
  exact h
theorem stays_b {w X Y : World} {B : Nat} {row : Option Nat} (hg : X.grownBy Y row) (hrow : row = none ∨ row = some (w.heap.size + 3) ∨ ∃ r o, row = some r ∧ B ≤ r ∧ X.heap[r]? = some o ∧ o.isCells = false) (hB : w.heap.size + 6 ≤ B) (hb : Below w.heap.size w X) : Below w.heap.size w Y :=
  Below.grown hb hg hb.size (fun g e => by
    rcases hrow with hr | hr | ⟨r, _, hr, h1, _⟩ <;> rw [hr] at e <;> cases e <;> omega)
theorem PI.own {w : World} {B : Nat} {ws : List (List Nat)} (hB : w.heap.size + 6 ≤ B) : Iw (w.heap.size + 3) B (PI w B ws) := fun s X Y row ⟨vs, v, h1, h2, h⟩ hg hrow => by
  refine ⟨vs, v, h1, h2, stays hg hrow hB (by omega) h.r0, stays hg hrow hB (by omega) h.r1, stays hg hrow hB (by omega) h.tb, ?_, stays_b hg hrow hB h.bl, Nat.le_trans h.sz hg.size⟩
  refine owns_keep h.own fun g hgv => ?_
  obtain ⟨hB2, hlt⟩ := World.ownsRow.lt h.own g hgv
  refine hg.block _ hlt (fun e => ?_)
  rcases hrow with hr | hr | ⟨r, o, hr, h3, h4, h5⟩
  · rw [hr] at e; cases e
  · rw [hr] at e; cases e; omega
  · rw [hr] at e; cases e
    obtain ⟨_, ⟨hv, _⟩ | ⟨g', cap, cur, hv, _, hc, _⟩⟩ := h.own
    · rw [hv] at hgv; cases hgv
    · rw [hv] at hgv; cases hgv
      rw [hc] at h4; cases h4; cases h5
theorem PX.own {w : World} {B : Nat} {ws : List (List Nat)} (hB : w.heap.size + 6 ≤ B) : Iw (w.heap.size + 3) B (PX w ws) := fun s X Y row ⟨h1, h2, h3, h4⟩ hg hrow =>
  ⟨h1, stays hg hrow hB (by omega) h2, stays hg hrow hB (by omega) h3, stays_b hg hrow hB h4⟩
theorem emptyP_no {r : List Nat} (h8 : B8 r) (h : r ≠ []) : ((ofNats r).toList == (⟨#[]⟩ : ByteArray).toList) = false ∧ (ofNats r).toList.isEmpty = false := by
  have e : (⟨#[]⟩ : ByteArray) = ofNats [] := rfl
  refine ⟨?_, ?_⟩
  · rw [e, beq_nats h8 B8.nil]
    exact decide_eq_false h
  · rw [toL]
    cases r with
    | nil => exact absurd rfl h
    | cons a b => rfl
/-- the world ahead of the loop -/
abbrev six (w : World) (b : ByteArray) : World := (((((w.alloc (.cells #[.slice none 0 0] 22)).alloc (.cells #[.int .i64 0] 25)).alloc (.cells #[.slice none 0 0] 22)).alloc (.cells #[.string b] 9)).alloc (.cells #[.string ⟨#[32]⟩] 9)).alloc (.cells #[.int .i64 0] 3)
theorem six_is (w : World) {l : List Nat} {b : ByteArray} (hb : b = ofNats l) : Pi w (six w b).heap.size [] (.slice none 0 0) (six w b) ∧ Bx3 (six w b) (w.heap.size + 3) l ∧ (six w b).heap.size = w.heap.size + 6 := by
  subst hb
  have hs : (six w (ofNats l)).heap.size = w.heap.size + 6 := by simp [six]
  have up : ∀ (x : World) (o : Obj) (k : Nat) (ob : Obj), x.heap[k]? = some ob → (x.alloc o).heap[k]? = some ob := fun x o k ob h => (Below.heap_alloc _ _ _ (Array.getElem?_eq_some_iff.1 h).1).trans h
  have nw : ∀ (x : World) (o : Obj) (k : Nat), x.heap.size = k → (x.alloc o).heap[k]? = some o := fun x o k h => by subst h; exact World.alloc_heap_new x o
  refine ⟨⟨?_, ?_, ?_, OwnV.nil _ _, ?_, Nat.le_refl _⟩, ⟨?_, ?_, ?_⟩, hs⟩
  · exact up _ _ _ _ (up _ _ _ _ (up _ _ _ _ (up _ _ _ _ (up _ _ _ _ (nw _ _ _ rfl)))))
  · exact up _ _ _ _ (up _ _ _ _ (up _ _ _ _ (up _ _ _ _ (nw _ _ _ (by simp)))))
  · exact up _ _ _ _ (up _ _ _ _ (up _ _ _ _ (nw _ _ _ (by simp))))
  · exact Below.al (Below.al (Below.al (Below.al (Below.al (Below.al (Below.refl _ _) _) _) _) _) _) _
  · exact up _ _ _ _ (up _ _ _ _ (nw _ _ _ (by simp)))
  · exact up _ _ _ _ (nw _ _ _ (by simp))
  · exact nw _ _ _ (by simp)
/-- what an element's cells are behind a new block -/
theorem newV_at (W : World) (x : Vl) : ∀ j u, x.cs[j]? = some u → (W.alloc (.cells #[.int .i64 x.kd, .bool x.fl, .int .i64 x.n, .string (ofNats x.s)] 32)).cell? ((⟨W.heap.size, 0, none⟩ : Addr).add j) = some u := fun j u hj => by
  obtain ⟨c0, c1, c2, c3⟩ := newV W x 32
  rw [Addr.add_lit, Nat.zero_add]
  match j, hj with
  | 0, hj => simp [Vl.cs] at hj; subst hj; exact c0
  | 1, hj => simp [Vl.cs] at hj; subst hj; exact c1
  | 2, hj => simp [Vl.cs] at hj; subst hj; exact c2
  | 3, hj => simp [Vl.cs] at hj; subst hj; exact c3
  | j + 4, hj => simp [Vl.cs] at hj
theorem cs_one (x : Vl) : ∀ u ∈ x.cs, u.oneCell' = true := by
  intro u hu; simp [Vl.cs] at hu; rcases hu with rfl | rfl | rfl | rfl <;> rfl
/-- one round more: what was in the way before lies as it lay -/
theorem Pi.more {w W X Y : World} {B : Nat} {vs : List Vl} {v v' : Value} {y : Vl} (hP : Pi w B vs v W) (hB : w.heap.size + 6 ≤ B) (hb : Below W.heap.size W X) (hg : X.grownBy Y v.ownBlock) (ho : OwnV Y B v' (vs ++ [y])) :
    KeepsFrom B W (Y.setCell ⟨w.heap.size + 2, 0, none⟩ v') ∧ Kb (w.heap.size + 3) W (Y.setCell ⟨w.heap.size + 2, 0, none⟩ v') ∧ Pi w B (vs ++ [y]) v' (Y.setCell ⟨w.heap.size + 2, 0, none⟩ v') := by
  have hsz := hP.sz
  have old : ∀ k, k < B → k ≠ w.heap.size + 2 → (Y.setCell ⟨w.heap.size + 2, 0, none⟩ v').heap[k]? = W.heap[k]? := fun k hk hne => by
    rw [Below.heap_setCell _ _ _ _ hne, hg.block k (by have := hb.size; omega) (fun e => by
      obtain ⟨h1, _⟩ := World.ownsRow.lt hP.own k e.symm; omega), hb.block k (by omega)]
  have hKF : KeepsFrom B W (Y.setCell ⟨w.heap.size + 2, 0, none⟩ v') := by
    refine ⟨by simpa using Nat.le_trans hb.size hg.size, fun k o hk ho' hc => ?_⟩
    have hlt := (Array.getElem?_eq_some_iff.1 ho').1
    rw [Below.heap_setCell _ _ _ _ (show k ≠ w.heap.size + 2 by omega), hg.block k (by have := hb.size; omega) (fun e => by
      obtain ⟨_, ⟨hv, _⟩ | ⟨g', cap, cur, hv, _, hcc, _⟩⟩ := hP.own
      · rw [hv] at e; cases e
      · rw [hv] at e; cases e
        rw [ho'] at hcc; cases hcc; cases hc), hb.block k hlt, ho']
  refine ⟨hKF, fun k h1 h2 => old k (by omega) (by omega), ⟨?_, ?_, ?_, ?_, ?_, Nat.le_trans hsz hKF.size⟩⟩
  · rw [old _ (by omega) (by omega)]; exact hP.r0
  · rw [old _ (by omega) (by omega)]; exact hP.r1
  · have hT : Y.heap[w.heap.size + 2]? = some (.cells #[v] 22 (0, 0)) := by
      rw [hg.block _ (by have := hb.size; omega) (fun e => by obtain ⟨h1, _⟩ := World.ownsRow.lt hP.own _ e.symm; omega), hb.block _ (by omega)]; exact hP.tb
    have := heap_setCell_same Y (w.heap.size + 2) 0 _ _ v' hT
    simpa using this
  · refine owns_keep ho fun g hgv => ?_
    obtain ⟨h1, _⟩ := World.ownsRow.lt ho g hgv
    exact Below.heap_setCell _ _ _ _ (by show g ≠ w.heap.size + 2; omega)
  · refine Below.setCell (p := ⟨w.heap.size + 2, 0, none⟩) ?_ (by show w.heap.size ≤ w.heap.size + 2; omega) _
    exact Below.grown (Below.on hP.bl hb) hg (Nat.le_trans hP.bl.size hb.size) (fun g e => by obtain ⟨h1, _⟩ := World.ownsRow.lt hP.own g e; omega)
/-- a round that ends it -/
theorem Pi.bad {w W X : World} {B : Nat} {vs : List Vl} {v : Value} {ws : List (List Nat)} (hP : Pi w B vs v W) (hB : w.heap.size + 6 ≤ B) (hn : parF ws = none) (hb : Below W.heap.size W X) :
    KeepsFrom B W ((X.setCell ⟨w.heap.size, 0, none⟩ (.slice none 0 0)).setCell ⟨w.heap.size + 1, 0, none⟩ (.int .i64 250)) ∧ ∀ i, PX w ws i ((X.setCell ⟨w.heap.size, 0, none⟩ (.slice none 0 0)).setCell ⟨w.heap.size + 1, 0, none⟩ (.int .i64 250)) := by
  have hsz := hP.sz
  have x0 : X.heap[w.heap.size]? = some (.cells #[.slice none 0 0] 22 (0, 0)) := (hb.block _ (by omega)).trans hP.r0
  have x1 : X.heap[w.heap.size + 1]? = some (.cells #[.int .i64 0] 25 (0, 0)) := (hb.block _ (by omega)).trans hP.r1
  refine ⟨⟨by simpa using hb.size, fun k o hk ho' hc => ?_⟩, fun i => ⟨hn, ?_, ?_, ?_⟩⟩
  · have hlt := (Array.getElem?_eq_some_iff.1 ho').1
    rw [Below.heap_setCell _ _ _ _ (show k ≠ w.heap.size + 1 by omega), Below.heap_setCell _ _ _ _ (show k ≠ w.heap.size by omega), hb.block k hlt, ho']
  · rw [Below.heap_setCell _ _ _ _ (show w.heap.size ≠ w.heap.size + 1 by omega)]
    have := heap_setCell_same X w.heap.size 0 _ _ (.slice none 0 0) x0
    simpa using this
  · have y1 : (X.setCell ⟨w.heap.size, 0, none⟩ (.slice none 0 0)).heap[w.heap.size + 1]? = some (.cells #[.int .i64 0] 25 (0, 0)) := (Below.heap_setCell _ _ _ _ (show w.heap.size + 1 ≠ w.heap.size by omega)).trans x1
    have := heap_setCell_same _ (w.heap.size + 1) 0 _ _ (.int .i64 250) y1
    simpa using this
  · exact ((Below.on hP.bl hb).setCell (p := ⟨w.heap.size, 0, none⟩) (Nat.le_refl _) _).setCell (p := ⟨w.heap.size + 1, 0, none⟩) (Nat.le_succ _) _
set_option maxHeartbeats 2000000 in
theorem parse_ne {l : List Nat} (h8 : B8 l) (hl : l.length ≤ 67108864) (h0 : l ≠ []) {w : World} (hv : Vars w) : Calls Tryd.prog 23 #[.string (ofNats l)] w (Pe l w) := by
  refine (callsIn_wide (n := 5)).1 ?_
  obtain ⟨i0, hi0, hz0, hz1, hz2⟩ := info_ofT infoVl
  obtain ⟨hq1, hq2⟩ := emptyP_no h8 h0
  have HPT : Hid (parT l = parF (fld l)) := by show _ = _; unfold parT; rw [if_neg h0]
  have hfl : (fld l).length ≤ l.length + 1 := by have := fld_joinN l; have := joinN_count (fld l); omega
  have hwd : ∀ i, i < (fld l).length → B8 (nthW (fld l) i) ∧ (nthW (fld l) i).length ≤ 67108864 := fun i hi => by
    have hm := nth_mem hi
    refine ⟨fun x hx => h8 x ((fld_mem l _ hm).2 x hx), ?_⟩
    have h1 := fld_joinN l
    have h2 : (nthW (fld l) i).length + 1 ≤ joinN (fld l) := by
      have : ∀ (ls : List (List Nat)) (a : List Nat), a ∈ ls → a.length + 1 ≤ joinN ls := by
        intro ls a ha
        induction ls with
        | nil => cases ha
        | cons x r ih =>
          show _ ≤ x.length + 1 + joinN r
          rcases List.mem_cons.1 ha with rfl | ha
          · omega
          · have := ih ha; omega
      exact this _ _ hm
    omega
  have HWD := hid hwd
  have HV := hid hv
  obtain ⟨b, hb⟩ : ∃ b, b = ofNats l := ⟨_, rfl⟩
  obtain ⟨hP0, hX0, hs0⟩ := six_is w hb
  rw [← hb] at hq1 hq2 ⊢
  have H8 := hid h8
  clear hb hwd hv h8
  refine callsIn_of_wp_marks Tryd.func23 rfl trivial ?_ rfl
  simp only [Tryd.ntmps23, List.size_toArray, List.length_cons, List.length_nil, Nat.reduceAdd, Nat.reduceSub, Array.replicate_succ, Array.replicate_zero, List.push_toArray, List.append_toArray, List.nil_append, List.cons_append]
  gi_wp2_with ((try refine ⟨trivial, ?_⟩); gi_at_call 35; refine (callsIn_wide.2 (splitSeq_is b _)).mono ?_; rintro e w2 ⟨rfl, rfl⟩)
  rw [show w.heap.size + 1 + 1 + 1 + 1 = w.heap.size + 4 from rfl, show w.heap.size + 1 + 1 + 1 + 2 = w.heap.size + 5 from rfl, show w.heap.size + 1 + 1 + 1 = w.heap.size + 3 from rfl, show w.heap.size + 1 + 1 = w.heap.size + 2 from rfl]
  obtain ⟨w0, hw0⟩ : ∃ w0, w0 = six w b := ⟨_, rfl⟩
  rw [← hw0] at hP0 hX0 hs0
  have e0 : (((((w.alloc (.cells #[.slice none 0 0] 22)).alloc (.cells #[.int .i64 0] 25)).alloc (.cells #[.slice none 0 0] 22)).alloc (.cells #[.string b] 9)).alloc (.cells #[.string ⟨#[32]⟩] 9)).alloc (.cells #[.int .i64 0] 3) = w0 := hw0.symm
  rw [e0]
  clear e0 hw0
  refine range_own rfl (by decide) (gf := SPL1) (lb := #[.pointer (some ⟨w.heap.size + 4, 0, none⟩), .pointer (some ⟨w.heap.size + 3, 0, none⟩), .pointer (some ⟨w.heap.size + 5, 0, none⟩)]) rfl trivial (enters_of Tryd.func80 (by kernel_rfl) rfl)
    (N := (fld l).length) (enc := fun i => .string (ofNats (nthW (fld l) i))) (Bs := w.heap.size + 3) (by omega)
    (fun L J Jx W hW hJ hJx hY h00 => seq_in 4 (by decide) L (w.heap.size + 3) l H8.out hl J Jx hJ hY W (hX0.kept (fun k h1 h2 => hW.block k (by omega))) h00)
    (PI w w0.heap.size (fld l)) (PX w (fld l)) (PI.own (by omega)) (PX.own (by omega)) ⟨[], .slice none 0 0, rfl, rfl, hP0⟩
    (fun i => { tmps := #[.string b, undef, .pointer (some ⟨w.heap.size, 0, none⟩), .pointer (some ⟨w.heap.size + 1, 0, none⟩), .pointer (some ⟨w.heap.size + 2, 0, none⟩), .string (ofNats (nthW (fld l) i)), undef, undef, .string b, .bool false, .string b, .func (.func SPL1) #[] #[.pointer (some ⟨w.heap.size + 4, 0, none⟩), .pointer (some ⟨w.heap.size + 3, 0, none⟩), .pointer (some ⟨w.heap.size + 5, 0, none⟩)], .string (ofNats (nthW (fld l) i)), undef, undef, undef, undef, undef, undef, undef, undef, undef, undef, undef, undef], defers := [] }) ?assign ?body ?done ?stop
  case assign =>
    intro L i W K hK
    gi_wp2
    exact hK
  case body =>
    rintro L i W hL ⟨vs, v, hpar, hvl, hP⟩ hlt
    obtain ⟨a8, al⟩ := HWD.out i hlt
    have hn := nth_take hlt
    have hmem := nth_mem hlt
    obtain ⟨a, ha⟩ : ∃ a, a = nthW (fld l) i := ⟨_, rfl⟩
    rw [← ha] at a8 al hn hmem ⊢
    have HVO : ∀ W', Below W.heap.size W W' → Calls Tryd.prog 36 #[.string (ofNats a)] W' (Vo a W') := fun W' hb => valueOf_is a8 al (HV.out.later (Below.on hP.bl hb))
    obtain ⟨z, hz⟩ : ∃ z, z = ofNats a := ⟨_, rfl⟩
    rw [← hz] at HVO ⊢
    have HP := hid hP
    have hBs : w.heap.size + 6 ≤ w0.heap.size := by omega
    cases hh : hearL a with
    | none =>
      have HC : ∀ W', Below W.heap.size W W' → Hid (Calls Tryd.prog 36 #[.string z] W' fun e W'' => ∃ x : Vl, e = .returned (.tuple #[x.val, .bool false]) ∧ Below W'.heap.size W' W'') := fun W' hb => hid ((HVO W' hb).mono fun e W'' ⟨x, ok, he, hx, hb2⟩ => by
        cases ok with
        | false => exact ⟨x, he, hb2⟩
        | true => rw [hh] at hx; cases hx)
      have HN := hid (parF_bad hmem hh)
      clear HVO hh hz a8 al hn hmem ha hP hpar hvl
      gi_wp2_with ((try refine ⟨trivial, ?_⟩); gi_at_call 36; refine (CallsIn.inRound L (callsIn_wide.2 (HC _ (Below.refl _ _)).out)).mono ?_; rintro e W2 ⟨⟨xk, xf, xn, xs⟩, rfl, hb2⟩; have hb3 := Below.al hb2 (.cells #[.int .i64 xk, .bool xf, .int .i64 xn, .string (ofNats xs)] 32); have g0 := (hb3.block _ (by have := HP.out.sz; omega)).trans HP.out.r0; have g1 := (hb3.block _ (by have := HP.out.sz; omega)).trans HP.out.r1; have c0 := Lib.cell_of_heap g0 0; have c1 := Lib.cell_of_heap g1 0; have f0 := Lib.frozen_of_heap g0 0; have f1 := Lib.frozen_of_heap g1 0; simp at c0 c1; have HB3 := hid hb3; clear hb2 hb3 g0 g1)
      obtain ⟨k1, k2⟩ := HP.out.bad hBs HN.out HB3.out
      exact ⟨k1, k2 _⟩
    | some y =>
      have HC : ∀ W', Below W.heap.size W W' → Hid (Calls Tryd.prog 36 #[.string z] W' fun e W'' => e = .returned (.tuple #[y.val, .bool true]) ∧ Below W'.heap.size W' W'') := fun W' hb => hid ((HVO W' hb).mono fun e W'' ⟨x, ok, he, hx, hb2⟩ => by
        cases ok with
        | false => rw [hh] at hx; cases hx
        | true => rw [hh] at hx; injection hx with hx; subst hx; exact ⟨he, hb2⟩)
      have HPA : Hid (parF ((fld l).take (i + 1)) = some (vs ++ [y])) := by show _ = _; rw [hn]; exact parF_snoc hpar hh
      obtain ⟨va, vc, hvs⟩ := hP.own.slice
      subst hvs
      have hvn : vs.length ≤ 67108865 := by omega
      have HVL := hid hvl
      clear HVO hh hz a8 al hn hmem ha hP hpar hvl
      obtain ⟨yk, yf, yn, ys⟩ := y
      gi_wp2_with (first
        | ((try refine ⟨trivial, ?_⟩); gi_at_call 36; refine (CallsIn.inRound L (callsIn_wide.2 (HC _ (Below.refl _ _)).out)).mono ?_; rintro e W2 ⟨rfl, hb2⟩; have hb3 := Below.al hb2 (.cells #[.int .i64 yk, .bool yf, .int .i64 yn, .string (ofNats ys)] 32); have g2 := (hb3.block _ (by have := HP.out.sz; omega)).trans HP.out.tb; have c2 := Lib.cell_of_heap g2 0; have HB3 := hid hb3; have HB4 := hid (Below.al hb3 (.cells #[.int .i64 yk, .bool yf, .int .i64 yn, .string (ofNats ys)] 32)); simp at c2; have hnew : ∀ j u, (Vl.cs ⟨yk, yf, yn, ys⟩)[j]? = some u → ((W2.alloc (.cells #[.int .i64 yk, .bool yf, .int .i64 yn, .string (ofNats ys)] 32)).alloc (.cells #[.int .i64 yk, .bool yf, .int .i64 yn, .string (ofNats ys)] 32)).cell? ((⟨W2.heap.size + 1, 0, none⟩ : Addr).add j) = some u := (fun j u hj => by have h := newV_at (W2.alloc (.cells #[.int .i64 yk, .bool yf, .int .i64 yn, .string (ofNats ys)] 32)) ⟨yk, yf, yn, ys⟩ j u hj; rw [World.size_alloc] at h; exact h); clear hb2 hb3 g2)
        | (gi_at_builtin; refine wpListIn_append_own _ rfl _ _ 22 rfl w0.heap.size 32 i0 (vlv 0 false 0 ⟨#[]⟩) 4 40 Tryd.underlying22 hi0 hz0 hz1 hz2 rfl (by decide) _ vs.length (flatV vs) rfl (HP.out.own.later HB4.out) ⟨W2.heap.size + 1, 0, none⟩ 1 1 (Vl.cs ⟨yk, yf, yn, ys⟩) rfl rfl hnew (cs_one _) (by unfold maxLen; omega) (by omega) (by have := HP.out.sz; have := HB4.out.size; omega) ?_; intro v' w4 hown' hgrow _; obtain ⟨g', cap', rfl⟩ := ownsRow_succ hown'; have gT := (hgrow.block _ (by have := HP.out.sz; have := HB4.out.size; omega) (fun e => by obtain ⟨h1, _⟩ := World.ownsRow.lt HP.out.own _ e.symm; omega)).trans ((HB4.out.block _ (by have := HP.out.sz; omega)).trans HP.out.tb); have c3 := Lib.cell_of_heap gT 0; have f3 := Lib.frozen_of_heap gT 0; simp at c3; have ho : OwnV w4 w0.heap.size (.slice (some ⟨g', 0, none⟩) (vs.length + 1) cap') (vs ++ [⟨yk, yf, yn, ys⟩]) := (by show w4.ownsRow w0.heap.size _ 4 _ (vs ++ [(⟨yk, yf, yn, ys⟩ : Vl)]).length (flatV (vs ++ [⟨yk, yf, yn, ys⟩])); rw [flatV_snoc, List.length_append]; exact hown'); have HM := hid (HP.out.more hBs HB4.out hgrow ho); clear hown' hgrow gT ho))
      obtain ⟨k1, k2, k3⟩ := HM.out
      exact ⟨k1, k2, _, _, HPA.out, by rw [List.length_append, HVL.out]; rfl, k3⟩
  case done =>
    rintro D W hD ⟨vs, v, hpar, hvl, hP⟩ hK
    rw [List.take_length] at hpar
    have HD : Hid (parT l = some vs) := by show _ = _; rw [HPT.out, hpar]
    obtain ⟨va, vc, hvs⟩ := hP.own.slice
    subst hvs
    have c0 := Lib.cell_of_heap hP.r0 0
    have c1 := Lib.cell_of_heap hP.r1 0
    have c2 := Lib.cell_of_heap hP.tb 0
    have f0 := Lib.frozen_of_heap hP.r0 0
    have f1 := Lib.frozen_of_heap hP.r1 0
    simp at c0 c1 c2
    have HP := hid hP
    have HK := hid hK
    clear hP hpar hvl hK
    gi_wp2
    obtain ⟨Z, hZ⟩ : ∃ Z, Z = (W.setCell ⟨w.heap.size, 0, none⟩ (.slice va vs.length vc)).setCell ⟨w.heap.size + 1, 0, none⟩ (.int .i64 0) := ⟨_, rfl⟩
    have hDs : w.heap.size + 6 ≤ D := by omega
    have zo : ∀ k, k ≠ w.heap.size → k ≠ w.heap.size + 1 → Z.heap[k]? = W.heap[k]? := fun k h1 h2 => by rw [hZ, Below.heap_setCell _ _ _ _ h2, Below.heap_setCell _ _ _ _ h1]
    have zk : Z.heap[D]? = some (.deferred (some [])) := (zo D (by omega) (by omega)).trans HK.out
    have z0 : Z.heap[w.heap.size]? = some (.cells #[.slice va vs.length vc] 22 (0, 0)) := by
      rw [hZ, Below.heap_setCell _ _ _ _ (show w.heap.size ≠ w.heap.size + 1 by omega)]
      have := heap_setCell_same W w.heap.size 0 _ _ (.slice va vs.length vc) HP.out.r0
      simpa using this
    have z1 : Z.heap[w.heap.size + 1]? = some (.cells #[.int .i64 0] 25 (0, 0)) := by
      rw [hZ]
      have y1 : (W.setCell ⟨w.heap.size, 0, none⟩ (.slice va vs.length vc)).heap[w.heap.size + 1]? = some (.cells #[.int .i64 0] 25 (0, 0)) := (Below.heap_setCell _ _ _ _ (show w.heap.size + 1 ≠ w.heap.size by omega)).trans HP.out.r1
      have := heap_setCell_same _ (w.heap.size + 1) 0 _ _ (.int .i64 0) y1
      simpa using this
    have zb : Below w.heap.size w Z := by
      rw [hZ]
      exact (HP.out.bl.setCell (p := ⟨w.heap.size, 0, none⟩) (Nat.le_refl _) _).setCell (p := ⟨w.heap.size + 1, 0, none⟩) (Nat.le_succ _) _
    have zw : OwnV Z w0.heap.size (.slice va vs.length vc) vs := owns_keep HP.out.own fun g hgv => by
      obtain ⟨h1, _⟩ := World.ownsRow.lt HP.out.own g hgv
      exact zo g (by omega) (by omega)
    rw [← hZ]
    clear hZ c0 c1 c2 f0 f1
    refine ⟨by simp, .inl ⟨_, _, rfl, run_takeDeferred zk, ?_⟩⟩
    have y0 : (Z.putObj D (.deferred none)).heap[w.heap.size]? = some (.cells #[.slice va vs.length vc] 22 (0, 0)) := (World.putObj_heap_other (by omega)).trans z0
    have y1 : (Z.putObj D (.deferred none)).heap[w.heap.size + 1]? = some (.cells #[.int .i64 0] 25 (0, 0)) := (World.putObj_heap_other (by omega)).trans z1
    have d0 := Lib.cell_of_heap y0 0
    have d1 := Lib.cell_of_heap y1 0
    simp at d0 d1
    refine ⟨.tuple #[.slice va vs.length vc, .int .i64 0], by simp [results, Tryd.results23, go_sem, d0, d1], .slice va vs.length vc, ?_, ?_, Below.grown zb (grownBy_putObj' Z D _) zb.size (fun g e => by cases e; omega)⟩
    · rw [HD.out]; rfl
    · rw [HD.out]
      refine OwnV.base (B := w0.heap.size) ?_ (by omega)
      refine owns_keep zw fun g hgv => World.putObj_heap_other (fun e => ?_)
      obtain ⟨_, ⟨hv, _⟩ | ⟨g', cap, cur, hv, _, hc, _⟩⟩ := zw
      · rw [hv] at hgv; cases hgv
      · rw [hv] at hgv; cases hgv
        have e' : g' = D := e
        rw [e', zk] at hc; cases hc
  case stop =>
    rintro D i W hD hi ⟨hn, h1, h2, hb⟩ hK
    have HD : Hid (parT l = none) := by show _ = _; rw [HPT.out, hn]
    have HK := hid (show _ ∧ _ ∧ _ ∧ _ from ⟨hK, h1, h2, hb⟩)
    clear hn hb hK h1 h2
    gi_wp2
    have hDs : w.heap.size + 6 ≤ D := by omega
    refine ⟨by simp, .inl ⟨_, _, rfl, run_takeDeferred HK.out.1, ?_⟩⟩
    have y0 : (W.putObj D (.deferred none)).heap[w.heap.size]? = some (.cells #[.slice none 0 0] 22 (0, 0)) := (World.putObj_heap_other (by omega)).trans HK.out.2.1
    have y1 : (W.putObj D (.deferred none)).heap[w.heap.size + 1]? = some (.cells #[.int .i64 250] 25 (0, 0)) := (World.putObj_heap_other (by omega)).trans HK.out.2.2.1
    have d0 := Lib.cell_of_heap y0 0
    have d1 := Lib.cell_of_heap y1 0
    simp at d0 d1
    refine ⟨.tuple #[.slice none 0 0, .int .i64 250], by simp [results, Tryd.results23, go_sem, d0, d1], .slice none 0 0, ?_, ?_, Below.grown HK.out.2.2.2 (grownBy_putObj' W D _) HK.out.2.2.2.size (fun g e => by cases e; omega)⟩
    · rw [HD.out]; rfl
    · rw [HD.out]; exact OwnV.nil _ _
set_option maxHeartbeats 1000000 in
theorem parse_is {l : List Nat} (h8 : B8 l) (hl : l.length ≤ 67108864) {w : World} (hv : Vars w) : Calls Tryd.prog 23 #[.string (ofNats l)] w (Pe l w) := by
  by_cases h0 : l = []
  · subst h0
    have hq : ((ofNats []).toList == (⟨#[]⟩ : ByteArray).toList) = true ∧ (ofNats []).toList.isEmpty = true := ⟨(beq_nats B8.nil B8.nil).trans (by simp), by rw [toL]; rfl⟩
    obtain ⟨hq1, hq2⟩ := hq
    have HD : Hid (parT [] = some []) := rfl
    obtain ⟨b, hb⟩ : ∃ b, b = ofNats [] := ⟨_, rfl⟩
    rw [← hb] at hq1 hq2 ⊢
    clear hb
    go_enter Tryd.func23, Tryd.ntmps23
    go_wp2_with fail
    refine bodyPost_ret (v := .tuple #[.slice none 0 0, .int .i64 0]) (by simp [results, Tryd.results23, go_sem]) rfl ⟨.slice none 0 0, ?_, ?_, ?_⟩
    · rw [HD.out]; rfl
    · rw [HD.out]; exact OwnV.nil _ _
    · (repeat (first | exact Below.refl _ _ | assumption | refine Below.drew ?_ | refine Below.al ?_ _ | refine Below.setCell ?_ (by first | exact Nat.le_refl _ | (simp; omega) | (simp; done)) _ | refine Below.on ?_ (by assumption)))
  · exact parse_ne h8 hl h0 hv
end Go.Proofs.YtfafkohghgliaabDoor.Tu
