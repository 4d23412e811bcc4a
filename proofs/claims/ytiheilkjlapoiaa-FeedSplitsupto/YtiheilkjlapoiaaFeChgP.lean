import Derived.Test.YtiheilkjlapoiaaFeCommits
import Derived.Test.YtiheilkjlapoiaaFeWrites
import Derived.Test.YtiheilkjlapoiaaFeByTxn
/- What Changes tells, in plain words; the list that grows in a box. -/
namespace Go.Proofs.Ytiheilkjlapoiaa.Lg
open Go.RowKit Go.Sort Go.Shelf Go.Lib Lk
set_option linter.unusedVariables false

/-- a stamp -/
structure Sm where
  w : Int
  l : Int
  n : Int
abbrev smv (s : Sm) : Value := .agg #[.int .u64 s.w, .int .u32 s.l, .int .u32 s.n]
/-- a version -/
structure Vr where
  key : ByteArray
  w : Int
  l : Int
  n : Int
  del : Bool
  val : ByteArray
abbrev vcs (v : Vr) : List Value := [.string v.key, .int .u64 v.w, .int .u32 v.l, .int .u32 v.n, .bool v.del, .string v.val]
abbrev Vr.zero : Vr := ⟨noT, 0, 0, 0, false, noT⟩
theorem vcs_len (v : Vr) : (vcs v).length = 6 := rfl
theorem vcs_one (v : Vr) : ∀ x ∈ vcs v, x.oneCell' = true := by
  intro x hx
  simp only [List.mem_cons, List.not_mem_nil, or_false] at hx
  rcases hx with rfl | rfl | rfl | rfl | rfl | rfl <;> rfl
theorem infoVr : (Try.prog.info? 47).map (fun i => (i.zero, i.size, i.bytes)) = some (some (.agg (vcs Vr.zero).toArray), 6, 56) := by kernel_rfl
/-- a write of a commit, as a version -/
def ver (e : En) (x : Wr) : Vr := ⟨x.key, e.w, e.l, e.n, x.del, x.val⟩
def vers (evs : List Ev) (e : En) : List Vr := (srtW (laidW e.id evs)).map (ver e)
def belo (e : En) (s : Sm) : Bool := lessB e.w e.l e.n s.w s.l s.n
/-- what has been told of these commits, in turn -/
def told (evs : List Ev) (fr : Sm) (pre : List En) : List Vr := (pre.filter fun e => !belo e fr).flatMap (vers evs)
theorem told_snoc (evs : List Ev) (fr : Sm) (pre : List En) (e : En) : told evs fr (pre ++ [e]) = if belo e fr = true then told evs fr pre else told evs fr pre ++ vers evs e := by
  unfold told
  rw [List.filter_append]
  by_cases h : belo e fr = true
  · simp [h]
  · simp [h]
theorem layW_ofT (t : Ix) (evs : List Ev) : laidW t (ofT t evs) = laidW t evs := by
  have : ∀ (evs : List Ev) (ps : List (ByteArray × Wr)), (ofT t evs).foldl (layW t) ps = evs.foldl (layW t) ps := by
    intro evs
    induction evs with
    | nil => intro ps; rfl
    | cons e evs ih =>
      intro ps
      by_cases h : sameI e.id t = true
      · have e1 : ofT t (e :: evs) = e :: ofT t evs := by simp [ofT, h]
        rw [e1, List.foldl_cons, List.foldl_cons, ih]
      · have e1 : ofT t (e :: evs) = ofT t evs := by simp [ofT, h]
        have e2 : layW t ps e = ps := by
          rw [layW_if, if_neg]
          simp [h]
        rw [e1, List.foldl_cons, e2, ih]
  exact this evs []
theorem vers_len (evs : List Ev) (e : En) : (vers evs e).length ≤ evs.length := by
  unfold vers srtW
  rw [List.length_map, List.length_map, List.length_mergeSort, List.length_map]
  exact laidW_len _ _
theorem told_len (evs : List Ev) (fr : Sm) (pre : List En) : (told evs fr pre).length ≤ pre.length * evs.length := by
  induction pre with
  | nil => simp [told]
  | cons e pre ih =>
    have h := vers_len evs e
    have h1 : (told evs fr (e :: pre)).length ≤ (vers evs e).length + (told evs fr pre).length := by
      unfold told
      rw [List.filter_cons]
      split
      · simp
      · simp
    rw [List.length_cons, Nat.add_mul]
    omega
/-- between the rounds: the list in its box, what lay before the loop is as it was -/
def ChI (w5 : World) (Bl : Nat) (T : List Vr) (W : World) : Prop :=
  (∃ v, Boxed W Bl 44 v ∧ W.ownsRow w5.heap.size 47 6 v T.length (T.flatMap vcs) ∧ True) ∧ Onl (fun b => b = Bl) w5 W
theorem onl_ownFrom {β : Type} {w5 : World} {Bl : Nat} : OwnFrom w5.heap.size (fun (_ : β) W => Onl (fun b => b = Bl) w5 W) := fun s W W' row hs hg hr =>
  ⟨hg.os.trans hs.os, hg.tape.trans hs.tape, hg.output.trans hs.output, Nat.le_trans hs.size hg.size, fun k hk hn => (hg.block k (Nat.lt_of_lt_of_le hk hs.size) (fun e => by have := (hr k e.symm).1; omega)).trans (hs.block k hk hn)⟩
theorem chI_own {β : Type} {w5 : World} {Bl : Nat} (T : β → List Vr) : OwnFrom w5.heap.size (fun (s : β) W => ChI w5 Bl (T s) W) :=
  OwnFrom.and (Own.from (holdsRow_own w5.heap.size Bl 44 47 6 (fun s : β => (T s).length) (fun s => (T s).flatMap vcs) (fun _ _ => True)) _) onl_ownFrom
/-- a world in which nothing that lay there has changed -/
theorem ChI.later {w5 W W' : World} {Bl : Nat} {T : List Vr} (h : ChI w5 Bl T W) (hb : Below W.heap.size W W') : ChI w5 Bl T W' :=
  (chI_own (β := Unit) (fun _ => T)) () W W' none h (below_grown hb) (fun r e => by cases e)
theorem ko_below {W W' : World} (hb : Below W.heap.size W W') : KeepsOthers W W' := KeepsOthers.of_grownBy (below_grown hb) (fun j o e => by cases e)
/-- blocks of this type stay -/
def KeepT (T : TypeId) (W W' : World) : Prop := ∀ (g : Nat) (cs : Array Value) (z : Nat × Nat), W.heap[g]? = some (Obj.cells cs T z) → W'.heap[g]? = W.heap[g]?
theorem keepT_below {T : TypeId} {A B : World} (h : Below A.heap.size A B) : KeepT T A B := fun g cs z hg => h.block g (Array.getElem?_eq_some_iff.1 hg).1
theorem keepT_t {T : TypeId} {A B C : World} (h : KeepT T A B) (k : KeepT T B C) : KeepT T A C := fun g cs z hg => by
  have h1 := h g cs z hg
  rw [k g cs z (h1.trans hg), h1]
theorem owns_keepT {w w' : World} {B n size : Nat} {T : TypeId} {v : Value} {xs : List Value} (h : w.ownsRow B T size v n xs) (hk : KeepT T w w') : w'.ownsRow B T size v n xs := owns_same h fun g cs _ hc => hk g cs _ hc
/-- the list grows -/
theorem ChI.app {w5 W w1 : World} {Bl : Nat} {v v' : Value} {k m : Nat} {xs ys : List Value} {tmp : Obj}
    (hv : Boxed W Bl 44 v) (hrow : W.ownsRow w5.heap.size 47 6 v k xs) (hO : Onl (fun b => b = Bl) w5 W)
    (hown' : w1.ownsRow w5.heap.size 47 6 v' m ys) (hgrow : (W.alloc tmp).grownBy w1 v.ownBlock) :
    Boxed w1 Bl 44 v ∧ Boxed (w1.setCell ⟨Bl, 0, none⟩ v') Bl 44 v' ∧ (w1.setCell ⟨Bl, 0, none⟩ v').ownsRow w5.heap.size 47 6 v' m ys ∧
      KeepsOthers W (w1.setCell ⟨Bl, 0, none⟩ v') ∧ Onl (fun b => b = Bl) w5 (w1.setCell ⟨Bl, 0, none⟩ v') ∧ (∀ T : TypeId, T ≠ 44 → T ≠ 47 → KeepT T W (w1.setCell ⟨Bl, 0, none⟩ v')) := by
  have hv1 : Boxed w1 Bl 44 v := (hv.alloc tmp).kept hgrow (hv.not_row (by decide) hrow)
  have hg2 := grownBy_setCell' w1 Bl v'
  have hrc : ∀ (j : Nat) (o : Obj), v.ownBlock = some j → W.heap[j]? = some o → ∃ cs, o = .cells cs 47 (0, 0) := fun j o hj ho => by
    obtain ⟨_, ⟨e, _⟩ | ⟨g, cap, cur, e, _, hh, _⟩⟩ := hrow
    · rw [e] at hj; cases hj
    · rw [e] at hj
      injection hj with hj
      simp only at hj
      rw [← hj, hh] at ho
      injection ho with ho
      exact ⟨cur, ho.symm⟩
  have hrl : ∀ j, v.ownBlock = some j → w5.heap.size ≤ j ∧ j < W.heap.size := fun j hj => hrow.lt j hj
  refine ⟨hv1, hv1.set v', hown'.kept hg2 (.inr (hv1.not_row (by decide) hown').symm), ?_, ?_, ?_⟩
  · refine ((KeepsOthers.alloc W tmp).trans (KeepsOthers.of_grownBy hgrow fun j o ej hj => ?_)).trans (KeepsOthers.setCell _ _ _)
    have hlt := (hrl j ej).2
    rw [(MapKept.heap_alloc _ _).2 _ hlt] at hj
    obtain ⟨cs, rfl⟩ := hrc j o ej hj
    rfl
  · refine ⟨hg2.os.trans (hgrow.os.trans hO.os), hg2.tape.trans (hgrow.tape.trans hO.tape), hg2.output.trans (hgrow.output.trans hO.output), ?_, fun b hb hn => ?_⟩
    · have h1 := hO.size; have h2 := hgrow.size; have h3 := hg2.size
      simp only [World.size_alloc] at h2
      omega
    · have hbW : b < W.heap.size := Nat.lt_of_lt_of_le hb hO.size
      have hb1 : b < w1.heap.size := by have h2 := hgrow.size; simp only [World.size_alloc] at h2; omega
      rw [hg2.block b hb1 (fun e => hn (by injection e))]
      rw [hgrow.block b (by simp; omega) (fun e => by have := (hrl b e.symm).1; omega)]
      rw [(MapKept.heap_alloc _ _).2 _ hbW]
      exact hO.block b hb hn
  · intro T hT1 hT2 g cs z hg
    have hgW := (Array.getElem?_eq_some_iff.1 hg).1
    have hne : g ≠ Bl := by
      rintro rfl
      rw [show W.heap[g]? = _ from hv] at hg
      injection hg with hg
      injection hg with _ h2
      exact hT1 h2.symm
    have hne2 : v.ownBlock ≠ some g := fun e => by
      obtain ⟨cs', h'⟩ := hrc g _ e hg
      injection h' with _ h2
      exact hT2 h2
    rw [hg2.block g (by have h2 := hgrow.size; simp only [World.size_alloc] at h2; omega) (fun e => hne (by injection e))]
    rw [hgrow.block g (by simp; omega) (fun e => hne2 e.symm)]
    exact (MapKept.heap_alloc _ _).2 _ hgW
end Go.Proofs.Ytiheilkjlapoiaa.Lg
