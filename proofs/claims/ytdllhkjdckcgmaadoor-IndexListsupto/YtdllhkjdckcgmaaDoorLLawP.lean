import Derived.Test.YtdllhkjdckcgmaaDoorLChain
namespace Go.Proofs.YtdllhkjdckcgmaaDoor
open Go.RowKit Go.Sort
set_option linter.unusedVariables false

theorem own_block {w : World} {B t size n : Nat} {v : Value} {xs : List Value} (h : w.ownsRow B t size v n xs) (g : Nat) (hg : v.ownBlock = some g) : ∃ cur, w.heap[g]? = some (.cells cur t (0, 0)) := by
  rcases h.2 with ⟨rfl, _⟩ | ⟨g', cap, cur, rfl, _, hgg, _⟩
  · simp [Value.ownBlock] at hg
  · have e1 : g' = g := by simpa [Value.ownBlock] using hg
    subst e1
    exact ⟨cur, hgg⟩
theorem PairAt.grown {w w' : World} {B L o x d : Nat} {v : Value} {log : List Ch} {row : Option Nat} {t : TypeId} (h : PairAt w B L o x d v log) (hL : LT w L) (hg : w.grownBy w' row) (hr : ∀ g, row = some g → ∃ cur, w.heap[g]? = some (.cells cur t (0, 0))) (ht : t = 9 ∨ t = 44) : PairAt w' B L o x d v log := by
  have ht' : t = 9 ∨ t = 44 ∨ t = 33 := ht.imp id .inl
  have ho : Onl (fun k => row = some k) w w' := ⟨hg.os, hg.tape, hg.output, hg.size, fun k hk hn => hg.block k hk (fun e => hn e.symm)⟩
  have hnL : ¬ row = some L := fun e => by
    obtain ⟨cur, hc⟩ := hr L e
    exact LT.not_type hc ht' hL rfl
  have hnF : ∀ k, Foot x d v k → ¬ row = some k := fun k hk e => by
    obtain ⟨cur, hc⟩ := hr k e
    exact h.not_foot hc ht' hk
  have hk : Kp w w' := Kp.of_onl ho fun b cs t' z hb hc hx => by
    obtain ⟨cur, hcur⟩ := hr b hb
    rw [hcur] at hc
    injection hc with hc
    injection hc with _ e _
    subst e
    rcases ht with rfl | rfl
    · exact not_ixt rfl hx
    · exact not_ixt rfl hx
  exact ⟨ho.cell hnL h.cx, ho.cell hnL h.cd, h.xi.keep hk (ho.block x h.xi.lt (hnF x (.inl rfl))), h.ri.keep ho (fun k hk' => hnF k (.inr hk')), h.bx⟩
theorem Two.grown {w w' : World} {B L : Nat} {a b : List Ch} {row : Option Nat} {t : TypeId} (h : Two w B L a b) (hg : w.grownBy w' row) (hr : ∀ g, row = some g → ∃ cur, w.heap[g]? = some (.cells cur t (0, 0))) (ht : t = 9 ∨ t = 44) : Two w' B L a b := by
  obtain ⟨x0, d0, v0, x1, d1, v1, h0, h1, ha⟩ := h.two
  have ht' : t = 9 ∨ t = 44 ∨ t = 33 := ht.imp id .inl
  refine ⟨h.lt.keep (hg.block L h.lt.lt fun e => ?_), h.low, x0, d0, v0, x1, d1, v1, h0.grown h.lt hg hr ht, h1.grown h.lt hg hr ht, ha⟩
  obtain ⟨cur, hc⟩ := hr L e.symm
  exact LT.not_type hc ht' h.lt rfl
theorem OwnT.base {w : World} {B B' : Nat} {v : Value} {T : List ByteArray} (h : OwnT w B v T) (hB : B' ≤ B) : OwnT w B' v T := ⟨h.1, h.2.imp id fun ⟨g, cap, cur, e, hb, r⟩ => ⟨g, cap, cur, e, Nat.le_trans hB hb, r⟩⟩
theorem apart_blocks {v b : Value} (h : ∀ j k, v.ownBlock = some j → b.ownBlock = some k → j ≠ k) : v.ownBlock = none ∨ v.ownBlock ≠ b.ownBlock := by
  cases hj : v.ownBlock with
  | none => exact .inl rfl
  | some j => exact .inr fun e => h j j hj e.symm rfl
abbrev Twos (W w : World) (L k : Nat) : Prop := ∃ a b, Two w W.heap.size L a b ∧ a.length ≤ k + 1 ∧ b.length ≤ k + 1
theorem Twos.later {W w w' : World} {L k : Nat} (h : Twos W w L k) (hb : Below w.heap.size w w') : Twos W w' L k := by
  obtain ⟨a, b, ht, ha, hb'⟩ := h
  exact ⟨a, b, ht.later hb, ha, hb'⟩
theorem Twos.grown {W w w' : World} {L k : Nat} {row : Option Nat} {t : TypeId} (h : Twos W w L k) (hg : w.grownBy w' row) (hr : ∀ g, row = some g → ∃ cur, w.heap[g]? = some (.cells cur t (0, 0))) (ht : t = 9 ∨ t = 44) : Twos W w' L k := by
  obtain ⟨a, b, h2, ha, hb'⟩ := h
  exact ⟨a, b, h2.grown hg hr ht, ha, hb'⟩
/-- a list was told twice, the first is in the book -/
structure Aft (W w : World) (L k : Nat) (v b : Value) (l : List En2) (T : List ByteArray) : Prop where
  two : Twos W w L k
  book : Bk W.heap.size w v l
  off : ∀ e ∈ l, Off b.ownBlock e
  own : OwnT w W.heap.size b T
  below : Below W.heap.size W w
theorem aft_of {W w6 w7 w8 w10 w11 : World} {L k B7 B8 B10 : Nat} {v v11 va vb vk : Value} {bk : List En2} {T : List ByteArray} {o : Obj} (h2 : Twos W w6 L k) (hbk : Bk W.heap.size w6 v bk) (hW : Below W.heap.size W w6)
    (h67 : Below w6.heap.size w6 w7) (oa : OwnT w7 B7 va T) (h78 : Below w7.heap.size w7 w8) (ob : OwnT w8 B8 vb T) (hB8 : w7.heap.size ≤ B8) (h810 : Below w8.heap.size w8 w10) (ok : OwnT w10 B10 vk T) (hB10 : w8.heap.size ≤ B10) (hT : T.length ≤ 900000)
    (hg : (w10.alloc o).grownBy w11 v.ownBlock) (ho : OwnW2 w11 W.heap.size v11 (bk ++ [(va, vk)])) : Aft W w11 L k v11 vb (bk ++ [(va, vk)]) T := by
  have hA : Below w10.heap.size w10 (w10.alloc o) := Below.al (Below.refl _ _) _
  have h8A := Below.on h810 hA
  have h7A := Below.on h78 h8A
  have h6A := Below.on h67 h7A
  have hbA := hbk.later h6A
  have s67 := h67.size
  have s78 := h78.size
  have sW := hW.size
  have heA : Ent (w10.alloc o) (va, vk) := ⟨T, by omega, oa.zero.later h7A, ok.zero.later hA⟩
  refine ⟨(h2.later h6A).grown hg (own_block hbA.own) (.inr rfl), hbA.grow hg ho heA, fun e he => ?_, (ob.base (by omega)).later h8A |>.by_book hbA.own hg, grown_below hg (Below.on hW h6A) (Nat.le_refl _) fun j hj => (World.ownsRow.lt hbA.own j hj).1⟩
  have hvb : ∀ j, vb.ownBlock = some j → B8 ≤ j ∧ j < w8.heap.size := fun j hj => World.ownsRow.lt ob j hj
  rcases List.mem_append.1 he with he | he
  · obtain ⟨U, _, u1, u2⟩ := hbk.ent e he
    exact ⟨apart_blocks fun i j hi hj => by have h1 := (World.ownsRow.lt u1 i hi).2; have h2 := (hvb j hj).1; omega, apart_blocks fun i j hi hj => by have h1 := (World.ownsRow.lt u2 i hi).2; have h2 := (hvb j hj).1; omega⟩
  · rw [List.mem_singleton.1 he]
    exact ⟨apart_blocks fun i j hi hj => by have h1 := (World.ownsRow.lt oa i hi).2; have h2 := (hvb j hj).1; omega, apart_blocks fun i j hi hj => by have h1 := (World.ownsRow.lt ok i hi).1; have h2 := (hvb j hj).2; omega⟩
/-- the marked lists join the book one by one -/
structure Lp (W w : World) (L k : Nat) (v : Value) (l es : List En2) (g9 c9 : Nat) : Prop where
  two : Twos W w L k
  book : Bk W.heap.size w v l
  row : OwnW2 w 0 (.slice (some ⟨g9, 0, none⟩) es.length c9) es
  ents : ∀ e ∈ es, Ent w e
  apart : v.ownBlock ≠ some g9
  below : Below W.heap.size W w
theorem lp_of {W w11 w12 : World} {L k g9 c9 : Nat} {v b : Value} {l es : List En2} {T : List ByteArray} (h : Aft W w11 L k v b l T) (hg : w11.grownBy w12 b.ownBlock) (ho : OwnW2 w12 w11.heap.size (.slice (some ⟨g9, 0, none⟩) es.length c9) es) (he : ∀ e ∈ es, Ent w12 e) : Lp W w12 L k v l es g9 c9 := by
  refine ⟨h.two.grown hg (own_block h.own) (.inl rfl), h.book.off h.own hg h.off, ⟨ho.1, ho.2.imp id fun ⟨g, cap, cur, e, hb, r⟩ => ⟨g, cap, cur, e, Nat.zero_le _, r⟩⟩, he, fun e => ?_, grown_below hg h.below (Nat.le_refl _) fun j hj => (World.ownsRow.lt h.own j hj).1⟩
  have h1 := (World.ownsRow.lt h.book.own g9 e).2
  have h2 := (World.ownsRow.lt ho g9 rfl).1
  omega
theorem Lp.step {W w w' : World} {L k g9 c9 : Nat} {v v' : Value} {l es : List En2} {e : En2} {o : Obj} (h : Lp W w L k v l es g9 c9) (hg : (w.alloc o).grownBy w' v.ownBlock) (ho : OwnW2 w' W.heap.size v' (l ++ [e])) (he : e ∈ es) (hn : v'.ownBlock = v.ownBlock ∨ ∃ k, v'.ownBlock = some k ∧ (w.alloc o).heap.size ≤ k) : Lp W w' L k v' (l ++ [e]) es g9 c9 := by
  have hA : Below w.heap.size w (w.alloc o) := Below.al (Below.refl _ _) _
  have hbA := h.book.later hA
  refine ⟨(h.two.later hA).grown hg (own_block hbA.own) (.inr rfl), hbA.grow hg ho ((h.ents e he).later hA), World.ownsRow.kept (h.row.later hA) hg (.inr fun e => h.apart (by rw [← e]; rfl)), fun x hx => ?_, fun e => ?_, grown_below hg (Below.on h.below hA) (Nat.le_refl _) fun j hj => (World.ownsRow.lt hbA.own j hj).1⟩
  · obtain ⟨U, hU, u1, u2⟩ := (h.ents x hx).later hA
    exact ⟨U, hU, u1.by_book hbA.own hg, u2.by_book hbA.own hg⟩
  · rcases hn with hn | ⟨j, hn, hj⟩
    · exact h.apart (hn.symm.trans e)
    · rw [hn] at e
      injection e with e
      have h1 := (World.ownsRow.lt (h.row.later hA) g9 rfl).2
      omega

end Go.Proofs.YtdllhkjdckcgmaaDoor
