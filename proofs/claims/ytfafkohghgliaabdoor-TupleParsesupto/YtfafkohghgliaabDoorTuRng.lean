import Derived.RangeFuncNested
import Derived.RangeFuncBound
import Derived.RangeFuncCalls
import Derived.RangeFuncLeaves
import Derived.RangeFuncBox
import Derived.Shelf.Abstract
import Derived.Shelf.RegionOpen
import Derived.OwnWalkIn
import Derived.TacticsInMore
import Derived.LoopNIn
import Derived.LoopIn
import Derived.Sort.LoopGhostIn
import Derived.Test.YtfafkohghgliaabDoorTuOwn
/- A range over an iterator that keeps a text of its own in a cell, which it turns between two rounds. -/
namespace Go.Proofs.YtfafkohghgliaabDoor.Tu
open Go.RowKit Go.Sort Go.Shelf Go.Proofs.YtfafkohghgliaabDoor
set_option linter.unusedVariables false

/-- what an iterator with three boxes from Bs on leaves as it is: it turns the first of them alone -/
def Ab (Bs : Nat) (J : Nat → World → Prop) : Prop := ∀ s X Y row, J s X → X.grownBy Y row → (row = none ∨ row = some Bs) → J s Y
theorem grown_of {w w' : World} (h : Below w.heap.size w w') : w.grownBy w' none := ⟨h.os, h.tape, h.output, h.size, fun k hk _ => h.block k hk⟩
theorem al_grown (w : World) (o : Obj) : w.grownBy (w.alloc o) none := grown_of (Below.al (Below.refl _ _) _)
/-- the three boxes are as they were -/
def Kb (Bs : Nat) (X Y : World) : Prop := ∀ k, Bs ≤ k → k < Bs + 3 → Y.heap[k]? = X.heap[k]?
theorem Kb.trans {Bs : Nat} {X Y Z : World} (h : Kb Bs X Y) (k : Kb Bs Y Z) : Kb Bs X Z := fun j h1 h2 => (k j h1 h2).trans (h j h1 h2)
theorem Kb.put {Bs l : Nat} (W : World) (o : Obj) (hl : Bs + 3 ≤ l) : Kb Bs W (W.putObj l o) := fun k _ h2 => World.putObj_heap_other (by omega)
/-- what the loop's caller keeps of its own -/
def Iw (Bs B : Nat) (I : Nat → World → Prop) : Prop := ∀ s X Y row, I s X → X.grownBy Y row → (row = none ∨ row = some Bs ∨ ∃ r o, row = some r ∧ B ≤ r ∧ X.heap[r]? = some o ∧ o.isCells = false) → I s Y
theorem Iw.put {Bs B l s : Nat} {I : Nat → World → Prop} (h : Iw Bs B I) {W : World} {o : Obj} (o' : Obj) (hi : I s W) (hB : B ≤ l) (hl : W.heap[l]? = some o) (ho : o.isCells = false) : I s (W.putObj l o') :=
  h s W _ (some l) hi (grownBy_putObj' W l o') (.inr (.inr ⟨l, o, rfl, hB, hl, ho⟩))
/-- how a round ends -/
def Rp (B Bs : Nat) (I Ir : Nat → World → Prop) (i : Nat) (W : World) : Exit → Act → World → Prop
  | .normal, _, W' => KeepsFrom B W W' ∧ Kb Bs W W' ∧ I (i + 1) W'
  | .ret, _, W' => KeepsFrom B W W' ∧ Ir (i + 1) W'
  | _, _, _ => False
/-- the iterator's word -/
def Sw3 (F : Fence) (n : Nat) (P : Program) (gf : Nat) (lb : Array Value) (N : Nat) (enc : Nat → Value) (Bs : Nat) (w : World) : Prop :=
  ∀ (l : Nat) (J Jx : Nat → World → Prop) (W : World), Below w.heap.size w W → Ab Bs J → Ab Bs Jx →
    (∀ i W1, J i W1 → i < N → YieldAt F (n - 1) P l #[enc i] W1 fun e W' => (e = .returned (.bool true) ∧ J (i + 1) W' ∧ Kb Bs W1 W') ∨ (e = .returned (.bool false) ∧ Jx (i + 1) W')) →
    J 0 W → CallsIn F n P gf (#[.func (.yield l) #[] #[]] ++ lb) W fun e W' => (∃ v, e = .returned v) ∧ (J N W' ∨ ∃ i, i < N ∧ Jx (i + 1) W')
set_option maxHeartbeats 1000000 in
theorem range_own {F : Fence} {n : Nat} {P : Program} {g : Operand} {p : Tmp} {assign body : Code} {Q : Exit → Act → World → Prop} {a : Act} {w : World}
    (hro : F.round = none) (h1 : 1 ≤ n) {gf : Nat} {lb : Array Value} (hg : a.eval g = .func (.func gf) #[] lb) (hFg : F.fn gf) (eg : ∀ args w, (callFunc gf args).run P w = .ok (.enter gf args) w)
    {N : Nat} {enc : Nat → Value} {Bs : Nat} (hBs : Bs + 3 ≤ w.heap.size) (hseq : Sw3 F (n - 1) P gf lb N enc Bs w)
    (I Ir : Nat → World → Prop) (hI : Iw Bs w.heap.size I) (hIr : Iw Bs w.heap.size Ir) (h0 : I 0 w) (a₁ : Nat → Act)
    (hassign : ∀ (l i : Nat) (W : World) (K : Act → World → Prop), K (a₁ i) W → assign.wpIn (F.inRound l) (n - 1 - 1) P (Exit.then K (fun _ _ _ => False)) { tmps := ((#[p] : Array Tmp).zip #[enc i]).foldl (fun t (q, v) => t.setIfInBounds q v) a.tmps, defers := [] } W)
    (hbody : ∀ (l i : Nat) (W : World), w.heap.size ≤ l → I i W → i < N → body.wpIn (F.inRound l) (n - 1 - 1) P (Rp w.heap.size Bs I Ir i W) (a₁ i) W)
    (hdone : ∀ (D : Nat) (W : World), w.heap.size ≤ D → I N W → W.heap[D]? = some (.deferred (some [])) → Q .normal { a with defers := { target := .collected D, args := #[] } :: a.defers } W)
    (hstop : ∀ (D i : Nat) (W : World), w.heap.size ≤ D → i < N → Ir (i + 1) W → W.heap[D]? = some (.deferred (some [])) → Code.ret.wpIn F n P Q { a with defers := { target := .collected D, args := #[] } :: a.defers } W) :
    (Code.rangeFunc g #[p] assign body).wpIn F n P Q a w := by
  refine wpIn_rangeFunc fun fn hfn => ?_
  rw [hro]
  -- the loop's record, and the world in which the iterator is called: a block for what is deferred, a block for the record
  let rec_ (st : LoopState) (pe : Option Code) : Loop := { state := st, pending := pe, fn, tmps := a.tmps, params := #[p], assign, body, defers := w.heap.size }
  obtain ⟨R, hR⟩ : ∃ R : LoopState → Option Code → Loop, R = rec_ := ⟨_, rfl⟩
  obtain ⟨V, hV⟩ : ∃ V, V = (w.alloc (.deferred (some []))).alloc (.loop (R .ready none)) := ⟨_, rfl⟩
  obtain ⟨L, hL⟩ : ∃ L, L = w.heap.size + 1 := ⟨_, rfl⟩
  have vL : V.heap[L]? = some (.loop (R .ready none)) := by
    have h := World.alloc_heap_new (w.alloc (.deferred (some []))) (.loop (R .ready none))
    rw [World.size_alloc] at h
    rw [hV, hL]; exact h
  have vD : V.heap[w.heap.size]? = some (.deferred (some [])) := by
    rw [hV]; exact (Below.heap_alloc _ _ _ (by simp)).trans (World.alloc_heap_new w _)
  have vI : I 0 V := by
    rw [hV]
    exact hI _ _ _ none (hI _ _ _ none h0 (al_grown w _) (.inl rfl)) (al_grown _ _) (.inl rfl)
  have vB : Below w.heap.size w V := by rw [hV]; exact Below.al (Below.al (Below.refl _ _) _) _
  refine ⟨L, [{ target := .collected w.heap.size, args := #[] }], V, { target := .fn (.func gf) lb, args := #[.func (.yield L) #[] #[]] }, V, gf, #[.func (.yield L) #[] #[]] ++ lb, V, ?_, ?_, ?_, ?_, fun _ => h1, ?_⟩
  · rw [hV, hR, hL]; exact run_enterLoop_outer _ _ _ _ _
  · simp only [resolve, hg]; simp [go_sem]
  · intro f' hf'; simp [Target.leads] at hf'; subst hf'; exact hFg
  · simp [invoke, go_sem, eg]
  -- a turn of what the iterator or the book-keeping turns leaves both blocks
  have stay : ∀ {X Y : World} {row : Option Nat} {k : Nat} {o : Obj}, X.grownBy Y row → (row = none ∨ row = some Bs) → w.heap.size ≤ k → X.heap[k]? = some o → Y.heap[k]? = some o := fun hg' hrow hk hx => by
    rw [hg'.block _ (Array.getElem?_eq_some_iff.1 hx).1 (fun e => by rcases hrow with h | h <;> rw [h] at e <;> cases e; omega)]; exact hx
  refine (hseq L (fun i W => I i W ∧ W.heap[L]? = some (.loop (R .ready none)) ∧ W.heap[w.heap.size]? = some (.deferred (some [])))
    (fun i W => Ir i W ∧ W.heap[L]? = some (.loop (R .done (some .ret))) ∧ W.heap[w.heap.size]? = some (.deferred (some []))) V vB
    (fun s X Y row hs hg' hrow => ⟨hI s X Y row hs.1 hg' (hrow.elim .inl (fun e => .inr (.inl e))), stay hg' hrow (by omega) hs.2.1, stay hg' hrow (Nat.le_refl _) hs.2.2⟩)
    (fun s X Y row hs hg' hrow => ⟨hIr s X Y row hs.1 hg' (hrow.elim .inl (fun e => .inr (.inl e))), stay hg' hrow (by omega) hs.2.1, stay hg' hrow (Nat.le_refl _) hs.2.2⟩)
    ?_ ⟨vI, vL, vD⟩).mono ?_
  · -- one round
    rintro i W ⟨hi, hl, hk⟩ hlen
    have hlt : L < W.heap.size := (Array.getElem?_eq_some_iff.1 hl).1
    have hy := run_yield (P := P) (args := #[enc i]) hl (by rw [hR]; rfl)
    rw [hR] at hy
    refine ⟨fn, _, assign, body, hy, roundIn_of_wpIn hfn (hassign L i W _ ?_)⟩
    clear hy
    refine ⟨_, run_beginRound hl (by rw [hR]), ?_⟩
    obtain ⟨X, hX⟩ : ∃ X, X = W.putObj L (.loop { R .ready none with state := .busy }) := ⟨_, rfl⟩
    have xl : X.heap[L]? = some (.loop { R .ready none with state := .busy }) := by rw [hX]; exact World.putObj_heap_same hlt
    have xk : X.heap[w.heap.size]? = some (.deferred (some [])) := by rw [hX]; exact (World.putObj_heap_other (by omega)).trans hk
    have xi : I i X := by rw [hX]; exact hI.put _ hi (by omega) hl rfl
    have xb : Kb Bs W X := by rw [hX]; exact Kb.put _ _ (by omega)
    rw [← hX]
    refine wpIn_mono (hbody L i X (by omega) xi hlen) ?_
    have fin : ∀ (jump : Option Code) (Y : World), KeepsFrom w.heap.size X Y →
        (Instr.endRound L jump).run P Y = .ok (.bool jump.isNone) (Y.putObj L (.loop (R (if jump.isNone then .ready else .done) jump))) ∧ Y.heap[L]? = some (.loop { R .ready none with state := .busy }) ∧
        (Y.putObj L (.loop (R (if jump.isNone then .ready else .done) jump))).heap[L]? = some (.loop (R (if jump.isNone then .ready else .done) jump)) ∧
        (Y.putObj L (.loop (R (if jump.isNone then .ready else .done) jump))).heap[w.heap.size]? = some (.deferred (some [])) := fun jump Y hkf => by
      have yl := hkf.same _ _ (by omega) xl rfl
      have h := run_endRound (P := P) jump yl
      rw [hR] at h ⊢
      exact ⟨h, by rw [hR] at yl; exact yl, World.putObj_heap_same (Array.getElem?_eq_some_iff.1 yl).1, (World.putObj_heap_other (by omega)).trans (hkf.same _ _ (Nat.le_refl _) xk rfl)⟩
    rintro e a3 Y hp
    cases e with
    | normal =>
      obtain ⟨hkf, hkb, hi3⟩ := hp
      obtain ⟨hr, yl, zl, zk⟩ := fin none Y hkf
      exact ⟨_, _, hr, .inl ⟨rfl, ⟨hI.put _ hi3 (by omega) yl rfl, zl, zk⟩, (xb.trans hkb).trans (Kb.put _ _ (by omega))⟩⟩
    | ret =>
      obtain ⟨hkf, hi3⟩ := hp
      obtain ⟨hr, yl, zl, zk⟩ := fin (some .ret) Y hkf
      exact ⟨_, _, hr, .inr ⟨rfl, hIr.put _ hi3 (by omega) yl rfl, zl, zk⟩⟩
    | exit id => exact hp.elim
    | goto t => exact hp.elim
    | panic ch => exact hp.elim
    | outgrown => exact hp.elim
  · -- behind the iterator
    rintro e W2 ⟨⟨v, rfl⟩, (⟨hi, hl, hk⟩ | ⟨i, hlt, hi, hl, hk⟩)⟩
    · refine ⟨none, _, by have h := run_endLoop (P := P) hl (by rw [hR]; simp [rec_]); rw [hR] at h; exact h, hdone _ _ (Nat.le_refl _) (hI.put _ hi (by omega) hl rfl) ((World.putObj_heap_other (by omega)).trans hk)⟩
    · refine ⟨some .ret, _, by have h := run_endLoop (P := P) hl (by rw [hR]; simp [rec_]); rw [hR] at h; exact h, hstop _ i _ (Nat.le_refl _) hlt (hIr.put _ hi (by omega) hl rfl) ((World.putObj_heap_other (by omega)).trans hk)⟩
end Go.Proofs.YtfafkohghgliaabDoor.Tu
