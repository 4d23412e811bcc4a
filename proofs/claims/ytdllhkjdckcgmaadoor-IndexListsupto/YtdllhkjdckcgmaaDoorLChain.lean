import Derived.Test.YtdllhkjdckcgmaaDoorLStep
import Derived.Test.YtdllhkjdckcgmaaDoorLMarked
import Derived.Test.YtdllhkjdckcgmaaDoorLStill
namespace Go.Proofs.YtdllhkjdckcgmaaDoor
open Go.RowKit Go.Sort
set_option linter.unusedVariables false

/-- a new pair takes the place of one of two -/
theorem two_put {w w' : World} {B L : Nat} {a b : List Ch} (h : Two w B L a b) (hB : B ≤ w.heap.size) {x0 d0 : Nat} {v0 : Value} {x1 d1 : Nat} {v1 : Value} (h0 : PairAt w B L 0 x0 d0 v0 a) (h1 : PairAt w B L 2 x1 d1 v1 b) (ha : ∀ k, Foot x0 d0 v0 k → ¬ Foot x1 d1 v1 k)
    {x' d' : Nat} {v' : Value} {l' : List Ch} (hlt : LT w' L) (hp : PairAt w' B L 0 x' d' v' l') (hm : Moved L 0 x0 d0 v0 x' d' v' w w') : Two w' B L l' b ∧ Below B w w' := by
  have hLl := h.lt.lt
  refine ⟨⟨hlt, h.low, x', d', v', x1, d1, v1, hp, h1.other hm h.lt (by omega) (fun k hk hk' => ha k hk' hk), ?_⟩, ?_⟩
  · intro k hk hk'
    rcases hm.foot k hk with hk | hk
    · exact ha k hk hk'
    · have := h1.foot_lt hk'; omega
  · exact hm.onl.below (fun k hk => hk.elim (h0.bx k) (fun e => by rw [e]; exact h.low)) hB
/-- the first key is laid into both indexes at the first place -/
theorem lists_first {w : World} {B L : Nat} (h : Two w B L [] []) (hB : B ≤ w.heap.size) (key : ByteArray) (i : Int) :
    ∃ x d, w.cell? ⟨L, 0, none⟩ = some (pt x) ∧ Hid (Calls Tryd.prog 5 #[pt x, .string key, .int .i64 i] w fun e w1 => e = .returned (.bool true) ∧ w1.cell? ⟨L, 1, none⟩ = some (pt d) ∧
      Hid (Calls Tryd.prog 6 #[pt d, .string key, .int .i64 i] w1 fun e w2 => e = .returned (.bool true) ∧ Hid (∃ a, a.length ≤ 1 ∧ Two w2 B L a []) ∧ Hid (Below B w w2))) := by
  obtain ⟨x0, d0, v0, x1, d1, v1, h0, h1, ha⟩ := h.two
  refine ⟨x0, d0, h0.cx, (set_is h0.xi key i (by have := ixL_len []; simp at this; rw [this]; decide)).mono ?_⟩
  rintro e w1 ⟨rfl, hx, ho⟩
  have hnF := LT.not_foot h.lt h0
  have hx1 : Xi w1 x0 (ixL ([] ++ [⟨key, i, false⟩])) := by rw [ixL_one]; exact hx
  refine ⟨by rw [ixL_get]; rfl, (ho.mono (fun k e => Or.inl e) : Onl (Foot x0 d0 v0) w w1).cell hnF h0.cd, ?_⟩
  have hri1 : Ri w1 d0 v0 [] := h0.ri.keep ho (fun k hk e => h0.xi.ne_ri h0.ri (e ▸ hk))
  refine (refset_is hri1 key i (by decide)).mono ?_
  rintro e w2 ⟨v', rfl, hr, ho2, hv⟩
  obtain ⟨y1, y2, y3⟩ := both h.lt h0 (Below.refl _ _) hB (fun k hk => h0.foot_lt hk) h.lt.lt hx1 ho hr ho2 hv
  obtain ⟨z1, z2⟩ := two_put h hB h0 h1 ha y1 y2 y3
  exact ⟨rfl, ⟨_, by simp, z1⟩, z2⟩
/-- changed and asked, one behind the other -/
theorem lists_chain {w : World} {B L o n q : Nat} {a b : List Ch} (h : Two w B L a b) (ga : a.length ≤ n) (gb : b.length ≤ n) (ho : o = 0 ∨ o = 2) {op : Ao} (hq : OpAt w q op) (hB : B ≤ w.heap.size) (hn : n ≤ 900000) (hs : op.key.size ≤ 1048576) :
    Calls Tryd.prog 7 #[.pointer (some ⟨L, o, none⟩), opV op] w fun e w' => e = .returned (.bool true) ∧ OpAt w' q op ∧
      Hid (Calls Tryd.prog 8 #[.pointer (some ⟨L, o, none⟩), opV op] w' fun e w2 => e = .returned (.bool true) ∧ Hid (StepL op q B L (n + 1) w w2)) := by
  refine (lists_changed h ga gb ho hq hB (by omega)).mono ?_
  rintro e w' ⟨he, hst⟩
  refine ⟨he, hst.box, ?_⟩
  obtain ⟨a', b', ht', ha', hb'⟩ := hst.two
  refine (lists_asked ht' ha' hb' ho op (by omega) hs).mono ?_
  rintro e2 w2 ⟨he2, hb2⟩
  exact ⟨he2, hst.box.later hb2, ⟨a', b', ht'.later hb2, ha', hb'⟩, hst.below.trans (hb2.mono (Nat.le_trans hB hst.below.size)), hst.keep.trans (KpL.of_below hb2)⟩
/-- what both indexes tell -/
theorem lists_keys {w : World} {B L o n : Nat} {a b : List Ch} (h : Two w B L a b) (ga : a.length ≤ n) (gb : b.length ≤ n) (ho : o = 0 ∨ o = 2) (op : Ao) (hn : n ≤ 900000) :
    ∃ (x d m : Nat) (T : List ByteArray), w.cell? ⟨L, o, none⟩ = some (pt x) ∧ w.cell? ⟨L, o + 1, none⟩ = some (pt d) ∧ Hid (m = T.length) ∧ m ≤ n ∧
      Hid (∀ W', Below w.heap.size w W' → Calls Tryd.prog 9 #[pt x, .agg #[.string op.key, .string op.hi]] W' fun e w' => ∃ ka kc, e = .returned (.slice ka m kc) ∧ Hid (OwnT w' W'.heap.size (.slice ka m kc) T) ∧ Below W'.heap.size W' w') ∧
      Hid (∀ W', Below w.heap.size w W' → Calls Tryd.prog 12 #[pt d, .agg #[.string op.key, .string op.hi]] W' fun e w' => ∃ ka kc, e = .returned (.slice ka m kc) ∧ Hid (RowT w' ka T) ∧ Below W'.heap.size W' w') := by
  obtain ⟨x, d, v, l, hp, hl⟩ := h.at ho
  have hl' : l.length ≤ n := by rcases hl with rfl | rfl <;> assumption
  have hlx := ixL_len l
  refine ⟨x, d, _, ks (rangeX (ixL l) op.key op.hi), hp.cx, hp.cd, rfl, ?_, fun W' hb => ?_, fun W' hb => ?_⟩
  · rw [List.length_map]; exact Nat.le_trans (List.length_filter_le _ _) (by omega)
  · refine (keys_is (hp.xi.later hb) op.key op.hi (by omega)).mono ?_
    rintro e w' ⟨v, he, hrow, hb'⟩
    have ho' : OwnT w' W'.heap.size v (ks (rangeX (ixL l) op.key op.hi)) := by unfold OwnT; rw [List.length_map, ks_txs]; exact hrow
    obtain ⟨ka, kc, rfl, _⟩ := ho'.slice
    exact ⟨ka, kc, he, ho', hb'⟩
  · exact (refkeys_is (hp.ri.later hb) op.key op.hi (by omega) rfl).mono fun e w' ⟨ka, kc, he, hr, hb'⟩ => ⟨ka, kc, he, hr, hb'⟩

/-- the book: rows of lists, each alike to what must stand in it -/
structure Bk (B : Nat) (w : World) (v : Value) (l : List En2) : Prop where
  own : OwnW2 w B v l
  ent : ∀ e ∈ l, Ent w e
theorem Bk.later {B : Nat} {w w' : World} {v : Value} {l : List En2} (h : Bk B w v l) (hb : Below w.heap.size w w') : Bk B w' v l := ⟨h.own.later hb, fun e he => (h.ent e he).later hb⟩
theorem Bk.kpl {B : Nat} {w w' : World} {v : Value} {l : List En2} (h : Bk B w v l) (hk : KpL w w') : Bk B w' v l := ⟨hk.own h.own (.inr rfl), fun e he => hk.ent (h.ent e he)⟩
/-- texts stay while the book grows -/
theorem OwnT.by_book {B B' : Nat} {w w' : World} {v u : Value} {l : List En2} {T : List ByteArray} (h : OwnW2 w B v l) (hg : w.grownBy w' v.ownBlock) (ht : OwnT w B' u T) : OwnT w' B' u T := World.ownsRow.kept ht hg (rows_apart ht h (by decide))
theorem Bk.grow {B : Nat} {w w' : World} {v v' : Value} {l : List En2} {e : En2} (h : Bk B w v l) (hg : w.grownBy w' v.ownBlock) (ho : OwnW2 w' B v' (l ++ [e])) (he : Ent w e) : Bk B w' v' (l ++ [e]) := by
  refine ⟨ho, fun x hx => ?_⟩
  have hx' : Ent w x := by
    rcases List.mem_append.1 hx with hx | hx
    · exact h.ent x hx
    · rw [List.mem_singleton.1 hx]; exact he
  obtain ⟨T, hT, h1, h2⟩ := hx'
  exact ⟨T, hT, h1.by_book h.own hg, h2.by_book h.own hg⟩
theorem Bk.off {B B' : Nat} {w w' : World} {v b : Value} {l : List En2} {T : List ByteArray} (h : Bk B w v l) (hb : OwnT w B' b T) (hg : w.grownBy w' b.ownBlock) (ho : ∀ e ∈ l, Off b.ownBlock e) : Bk B w' v l :=
  ⟨World.ownsRow.kept h.own hg (rows_apart h.own hb (by decide)), fun e he => (h.ent e he).kept hg (ho e he)⟩
theorem off_of {w : World} {B B' : Nat} {v b : Value} {T U : List ByteArray} (hv : OwnT w B v T) (hlt : ∀ j k, v.ownBlock = some j → b.ownBlock = some k → j ≠ k) : v.ownBlock = none ∨ v.ownBlock ≠ b.ownBlock := by
  cases hj : v.ownBlock with
  | none => exact .inl rfl
  | some j => exact .inr fun e => hlt j j hj e.symm rfl

end Go.Proofs.YtdllhkjdckcgmaaDoor
