import Derived.Test.YtmloaddbmkonoabKRefTick
import Derived.Test.YtmloaddbmkonoabKRefObs
import Derived.Test.YtmloaddbmkonoabKRefApp
import Derived.Test.YtmloaddbmkonoabKRefOpen
namespace Go.Proofs.Ytmloaddbmkonoab
open Go.RowKit Go.Sort
set_option linter.unusedVariables false

/-- the program's clock and the document's agree -/
structure Agr (m : Nat) (c : Ck) (x : Rd) : Prop where
  ok : c.ok
  node : x.node = c.node
  win : x.win = c.win
  rd : ∃ n, x.rs.length = n + 1 ∧ x.rs.getD n 0 = c.rd
  l : maxSt zst x.ss = c.l
  ce : maxL 0 x.ls = c.ceil
  m2 : x.rs.length ≤ m
  m3 : x.ss.length ≤ m
  m4 : x.ls.length ≤ m

theorem Agr.more {m : Nat} {c : Ck} {x : Rd} (h : Agr m c x) : Agr (m + 1) c x :=
  ⟨h.ok, h.node, h.win, h.rd, h.l, h.ce, by have := h.m2; omega, by have := h.m3; omega, by have := h.m4; omega⟩
theorem Agr.read {m : Nat} {c : Ck} {x : Rd} (h : Agr m c x) {v : Int} (hv : U64 v) (g k : Nat) : Agr (m + 1) { c with rd := v } { x with g2 := g, k2 := k, rs := x.rs ++ [v] } :=
  ⟨⟨h.ok.win, h.ok.ceil, h.ok.node, hv, h.ok.l⟩, h.node, h.win, ⟨x.rs.length, by simp, by simp⟩, h.l, h.ce, by have := h.m2; simp; omega, by have := h.m3; dsimp only; omega, by have := h.m4; dsimp only; omega⟩
theorem Agr.reserve {m : Nat} {c : Ck} {x : Rd} (h : Agr m c x) {v : Int} (hv : U64 v) (g k : Nat) : Agr (m + 1) { c with ceil := maxI c.ceil v } { x with g4 := g, k4 := k, ls := x.ls ++ [v] } := by
  refine ⟨⟨h.ok.win, ?_, h.ok.node, h.ok.rd, h.ok.l⟩, h.node, h.win, h.rd, h.l, ?_, by have := h.m2; dsimp only; omega, by have := h.m3; dsimp only; omega, by have := h.m4; simp; omega⟩
  · show U64 (maxI c.ceil v)
    unfold maxI
    split
    · exact hv
    · exact h.ok.ceil
  · show maxL 0 (x.ls ++ [v]) = maxI c.ceil v
    rw [maxL_snoc, h.ce]; rfl
theorem Agr.obs {m : Nat} {c : Ck} {x : Rd} (h : Agr m c x) {s : St} (hs : s.ok) (ht : ¬ s.w = 18446744073709551615) (g k : Nat) : Agr (m + 1) (obsC c s) { x with g3 := g, k3 := k, ss := x.ss ++ [s] } := by
  have e : obsC c s = { c with l := if c.l.less s then s else c.l } := by unfold obsC; rw [if_neg ht]
  have ok := obsC_ok h.ok hs
  rw [e] at ok ⊢
  refine ⟨ok, h.node, h.win, h.rd, ?_, h.ce, by have := h.m2; dsimp only; omega, by have := h.m3; simp; omega, by have := h.m4; dsimp only; omega⟩
  show maxSt zst (x.ss ++ [s]) = _
  rw [maxSt_snoc, h.l]
theorem Agr.tick {m : Nat} {c : Ck} {x : Rd} (h : Agr m c x) {W L N : Int} (hx : tickN c = ⟨W, L, N, 0⟩) (g k : Nat) : Agr (m + 1) (tickC c) { x with g3 := g, k3 := k, ss := x.ss ++ [⟨W, L, N⟩] } := by
  have ok := tickC_ok h.ok
  rcases tickN_cases c h.ok with ⟨e, -⟩ | ⟨-, -, -, -, hl, -⟩
  · rw [e] at hx; injection hx with _ _ _ q; cases q
  · rw [hx] at hl
    have e := tickC_yes hx rfl
    rw [e] at ok ⊢
    refine ⟨ok, h.node, h.win, h.rd, ?_, h.ce, by have := h.m2; dsimp only; omega, by have := h.m3; simp; omega, by have := h.m4; dsimp only; omega⟩
    show maxSt zst (x.ss ++ [⟨W, L, N⟩]) = _
    rw [maxSt_snoc, h.l]
    have hl' : c.l.less ⟨W, L, N⟩ = true := hl
    rw [hl']; rfl

/-- a place: the program's clock at p, the document's -/
structure Pr where
  p : Nat
  c : Ck
  x : Rd
def Pr.has (q : Pr) (k : Nat) : Prop := k = q.p ∨ q.x.has k
structure PairOk (w : World) (B m : Nat) (q : Pr) : Prop where
  ck : ClockAt w q.p q.c
  rf : RefAt w B q.x
  np : ¬ q.x.has q.p
  bp : B ≤ q.p
  agr : Agr m q.c q.x
theorem PairOk.has_lt {w : World} {B m : Nat} {q : Pr} (h : PairOk w B m q) : ∀ k, q.has k → B ≤ k ∧ k < w.heap.size := by
  rintro k (rfl | hk)
  · exact ⟨h.bp, h.ck.lt⟩
  · exact h.rf.has_lt k hk
theorem PairOk.keep {w w' : World} {B m : Nat} {q : Pr} {F : Nat → Prop} (h : PairOk w B m q) (ho : Onl F w w') (hF : ∀ k, q.has k → ¬ F k) : PairOk w' B m q :=
  ⟨h.ck.keep ho (hF _ (.inl rfl)), h.rf.keep ho (fun k hk => hF k (.inr hk)), h.np, h.bp, h.agr⟩
theorem PairOk.more {w : World} {B m : Nat} {q : Pr} (h : PairOk w B m q) : PairOk w B (m + 1) q := ⟨h.ck, h.rf, h.np, h.bp, h.agr.more⟩

theorem BoxAt.keep {w w' : World} {N : Nat} {vs : List Value} {F : Nat → Prop} (h : BoxAt w N vs) (ho : Onl F w w') (hF : ¬ F N) : BoxAt w' N vs := fun i v e => ho.cell hF (h i v e)

/-- within told: two cells at A, the box of the step, the two clocks -/
structure TA (w W : World) (A off N p B : Nat) (vs : List Value) (c : Ck) (x : Rd) (F : Nat → Prop) : Prop where
  onl : Onl F w W
  ca : W.cell? ⟨A, off, none⟩ = some (.pointer (some ⟨p, 0, none⟩))
  cd : W.cell? ⟨A, off + 1, none⟩ = some (.pointer (some ⟨x.d, 0, none⟩))
  box : BoxAt W N vs
  ck : ClockAt W p c
  rf : RefAt W B x
  np : ¬ x.has p
  ap : A ≠ p
  ax : ¬ x.has A
  nN : N < W.heap.size
  pN : N ≠ p
  xN : ¬ x.has N
  fx : ∀ k, x.has k → F k ∨ w.heap.size ≤ k
  fp : F p
theorem TA.later {w W W' : World} {A off N p B : Nat} {vs : List Value} {c : Ck} {x : Rd} {F : Nat → Prop} (R : TA w W A off N p B vs c x F) (hb : Below W.heap.size W W') : TA w W' A off N p B vs c x F :=
  ⟨R.onl.on hb, cell_later hb R.ca, cell_later hb R.cd, R.box.later hb, R.ck.later hb, R.rf.later hb, R.np, R.ap, R.ax, Nat.lt_of_lt_of_le R.nN hb.size, R.pN, R.xN, R.fx, R.fp⟩
theorem TA.onC {w W W' : World} {A off N p B : Nat} {vs : List Value} {c c' : Ck} {x : Rd} {F : Nat → Prop} (R : TA w W A off N p B vs c x F) (ho : Only p W W') (h : ClockAt W' p c') : TA w W' A off N p B vs c' x F :=
  ⟨R.onl.trans (Onl.of_only ho R.fp), ho.cell R.ap R.ca, ho.cell R.ap R.cd, R.box.only ho R.pN, h, R.rf.keep (F := fun k => k = p) (Onl.of_only ho rfl) (fun k hk e => R.np (e ▸ hk)), R.np, R.ap, R.ax, Nat.lt_of_lt_of_le R.nN ho.size, R.pN, R.xN, R.fx, R.fp⟩
theorem TA.onR {w W W' : World} {A off N p B : Nat} {vs : List Value} {c : Ck} {x x' : Rd} {F : Nat → Prop} (R : TA w W A off N p B vs c x F) (ho : Onl x.has W W') (h : RefAt W' B x') (hd : x'.d = x.d) (hx : ∀ k, x'.has k → x.has k ∨ W.heap.size ≤ k) : TA w W' A off N p B vs c x' F := by
  have hA : A < W.heap.size := World.block_lt_of_cell? _ _ R.ca
  have hp := R.ck.lt
  have hN := R.nN
  refine ⟨R.onl.fresh ho R.fx, ho.cell R.ax R.ca, ?_, R.box.keep ho R.xN, R.ck.keep ho R.np, h, fun hk => ?_, R.ap, fun hk => ?_, Nat.lt_of_lt_of_le R.nN ho.size, R.pN, fun hk => ?_, fun k hk => ?_, R.fp⟩
  · rw [hd]; exact ho.cell R.ax R.cd
  · rcases hx _ hk with h1 | h1
    · exact R.np h1
    · omega
  · rcases hx _ hk with h1 | h1
    · exact R.ax h1
    · omega
  · rcases hx _ hk with h1 | h1
    · exact R.xN h1
    · omega
  · rcases hx k hk with h1 | h1
    · exact R.fx k h1
    · exact .inr (Nat.le_trans R.onl.size h1)

def ToldPost (w w' : World) (B m : Nat) (q : Pr) : Prop := Onl q.has w w' ∧ ∃ q' : Pr, PairOk w' B (m + 1) q' ∧ (∀ k, q'.has k → q.has k ∨ w.heap.size ≤ k) ∧ q'.p = q.p ∧ q'.x.d = q.x.d

theorem TA.post {w W : World} {A off N B m : Nat} {vs : List Value} {c : Ck} {x : Rd} {q : Pr} (R : TA w W A off N q.p B vs c x q.has) (ha : Agr (m + 1) c x) (hd : x.d = q.x.d) (hB : B ≤ q.p) : ToldPost w W B m q :=
  ⟨R.onl, ⟨q.p, c, x⟩, ⟨R.ck, R.rf, R.np, hB, ha⟩, fun k hk => by
    rcases hk with h | h
    · exact .inl (.inl h)
    · exact R.fx k h, rfl, hd⟩

theorem TA.start {w : World} {A off B m : Nat} {q : Pr} (h : PairOk w B m q) (ha : w.cell? ⟨A, off, none⟩ = some (.pointer (some ⟨q.p, 0, none⟩))) (hd : w.cell? ⟨A, off + 1, none⟩ = some (.pointer (some ⟨q.x.d, 0, none⟩))) (hA : ¬ q.has A) (vs : List Value) (T : TypeId) :
    TA w (w.alloc (.cells vs.toArray T)) A off w.heap.size q.p B vs q.c q.x q.has := by
  have hb := al_below w (.cells vs.toArray T)
  have hl := h.has_lt
  exact ⟨Onl.of_below hb, cell_later hb ha, cell_later hb hd, box_at w vs T, h.ck.later hb, h.rf.later hb, h.np, fun e => hA (.inl e), fun e => hA (.inr e), by simp, fun e => by have := (hl _ (.inl rfl)).2; omega, fun e => by have := (hl _ (.inr e)).2; omega, fun k hk => .inl (.inr hk), .inl rfl⟩

theorem has2 {x : Rd} {W : World} {g k : Nat} {rs : List Int} (h : g = x.g2 ∨ W.heap.size ≤ g) : ∀ i, Rd.has { x with g2 := g, k2 := k, rs := rs } i → x.has i ∨ W.heap.size ≤ i := by
  rintro i (e | e | e | e)
  · exact .inl (.inl e)
  · dsimp only at e
    subst e
    exact h.imp (fun e => .inr (.inl e)) id
  · exact .inl (.inr (.inr (.inl e)))
  · exact .inl (.inr (.inr (.inr e)))
theorem has3 {x : Rd} {W : World} {g k : Nat} {ss : List St} (h : g = x.g3 ∨ W.heap.size ≤ g) : ∀ i, Rd.has { x with g3 := g, k3 := k, ss := ss } i → x.has i ∨ W.heap.size ≤ i := by
  rintro i (e | e | e | e)
  · exact .inl (.inl e)
  · exact .inl (.inr (.inl e))
  · dsimp only at e
    subst e
    exact h.imp (fun e => .inr (.inr (.inl e))) id
  · exact .inl (.inr (.inr (.inr e)))
theorem has4 {x : Rd} {W : World} {g k : Nat} {ls : List Int} (h : g = x.g4 ∨ W.heap.size ≤ g) : ∀ i, Rd.has { x with g4 := g, k4 := k, ls := ls } i → x.has i ∨ W.heap.size ≤ i := by
  rintro i (e | e | e | e)
  · exact .inl (.inl e)
  · exact .inl (.inr (.inl e))
  · exact .inl (.inr (.inr (.inl e)))
  · dsimp only at e
    subst e
    exact h.imp (fun e => .inr (.inr (.inr e))) id

end Go.Proofs.Ytmloaddbmkonoab
