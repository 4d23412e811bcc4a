import Derived.Test.YtpnbgdbkiokooaaDoorFlRow
/- The document's flight: its object. -/
namespace Go.Proofs.YtpnbgdbkiokooaaDoor.Fl
open Go.RowKit Go.Sort Go.Proofs.YtpnbgdbkiokooaaDoor
set_option linter.unusedVariables false

/-- the document's flight at p -/
structure Rf (w : World) (B p : Nat) (v : Value) (xs : List ByteArray) : Prop where
  cell : w.cell? ⟨p, 0, none⟩ = some v
  ty : ∃ cs, w.heap[p]? = some (.cells cs 57 (0, 0))
  row : RowF w B v xs
  low : B ≤ p
theorem Rf.lt {w : World} {B p : Nat} {v : Value} {xs : List ByteArray} (h : Rf w B p v xs) : p < w.heap.size := by
  obtain ⟨cs, hc⟩ := h.ty
  exact (Array.getElem?_eq_some_iff.1 hc).1
theorem Rf.its {w : World} {B p : Nat} {v : Value} {xs : List ByteArray} (h : Rf w B p v xs) {k : Nat} (hk : ItF p v k) : B ≤ k ∧ k < w.heap.size := by
  rcases hk with rfl | hk
  · exact ⟨h.low, h.lt⟩
  · exact h.row.lt k hk
theorem Rf.loose {w : World} {B p : Nat} {v : Value} {xs : List ByteArray} (h : Rf w B p v xs) : Loose w p := fun o => by
  obtain ⟨cs, hc⟩ := h.ty
  simp [World.frozen?, hc]
theorem Rf.apart {w : World} {B p : Nat} {v : Value} {xs : List ByteArray} (h : Rf w B p v xs) {g : Nat} (hg : TyS w g) : g ≠ p := by
  rintro rfl
  obtain ⟨cs, hc⟩ := h.ty
  obtain ⟨cur, hg⟩ := hg
  rw [hc] at hg
  injection hg with hg
  injection hg with _ e _
  exact absurd e (by decide)
theorem Rf.keep {w w' : World} {B p : Nat} {v : Value} {xs : List ByteArray} (h : Rf w B p v xs) (hb : ∀ k, ItF p v k → w'.heap[k]? = w.heap[k]?) : Rf w' B p v xs :=
  ⟨(World.cell?_of_block (a := ⟨p, 0, none⟩) (hb p (.inl rfl))).trans h.cell, by
    obtain ⟨cs, hc⟩ := h.ty
    exact ⟨cs, (hb p (.inl rfl)).trans hc⟩, h.row.keep fun g hg => hb g (.inr hg), h.low⟩
theorem Rf.later {w w' : World} {B p : Nat} {v : Value} {xs : List ByteArray} (h : Rf w B p v xs) (hb : Below w.heap.size w w') : Rf w' B p v xs := h.keep fun k hk => hb.block k (h.its hk).2
theorem Rf.onl {w w' : World} {F : Nat → Prop} {B p : Nat} {v : Value} {xs : List ByteArray} (h : Rf w B p v xs) (ho : Onl F w w') (hF : ∀ k, ItF p v k → ¬ F k) : Rf w' B p v xs := h.keep fun k hk => ho.block k (h.its hk).2 (hF k hk)
/-- what a call leaves -/
structure Mw (w w' : World) (B p : Nat) (v v' : Value) (xs : List ByteArray) : Prop where
  fl : Rf w' B p v' xs
  onl : Onl (ItF p v) w w'
  new : ∀ k, v'.ownBlock = some k → v.ownBlock = some k ∨ w.heap.size ≤ k
theorem Mw.below {w w' : World} {B p : Nat} {v v' : Value} {xs ys : List ByteArray} (h : Mw w w' B p v v' ys) (hf : Rf w B p v xs) (hB : B ≤ w.heap.size) : Below B w w' := h.onl.below (fun k hk => (hf.its hk).1) hB
theorem Mw.refl {w w' : World} {B p : Nat} {v : Value} {xs : List ByteArray} (hf : Rf w B p v xs) (hb : Below w.heap.size w w') : Mw w w' B p v v xs := ⟨hf.later hb, Onl.of_below hb, fun k e => .inl e⟩
theorem Mw.trans {w w1 w2 : World} {B p : Nat} {v v1 v2 : Value} {xs ys : List ByteArray} (h : Mw w w1 B p v v1 xs) (k : Mw w1 w2 B p v1 v2 ys) : Mw w w2 B p v v2 ys :=
  ⟨k.fl, h.onl.fresh k.onl fun i hi => by
    rcases hi with rfl | hi
    · exact .inl (.inl rfl)
    · exact (h.new i hi).imp .inr id, fun j e => by
    rcases k.new j e with e | e
    · exact h.new j e
    · exact .inr (Nat.le_trans h.onl.size e)⟩
/-- a store into the flight's cell -/
theorem Rf.put {w w' : World} {B p : Nat} {v v' : Value} {xs ys : List ByteArray} (h : Rf w B p v xs) (hg : w.grownBy w' v.ownBlock) (hr : RowF w' B v' ys) (hn : ∀ k, v'.ownBlock = some k → v.ownBlock = some k ∨ w.heap.size ≤ k) : Mw w (w'.setCell ⟨p, 0, none⟩ v') B p v v' ys := by
  have hp : w'.heap[p]? = w.heap[p]? := hg.block p h.lt (fun e => (h.apart (h.row.ty p e.symm)) rfl)
  obtain ⟨cs, hc⟩ := h.ty
  have hc' := hp.trans hc
  have hlt : 0 < cs.size := by
    have := h.cell
    simp only [World.cell?, hc] at this
    exact (Array.getElem?_eq_some_iff.1 this).1
  have hh : (w'.setCell ⟨p, 0, none⟩ v').heap[p]? = some (.cells (cs.setIfInBounds 0 v') 57 (0, 0)) := by
    rw [setCell_eq]; simp [mapBlock, Array.getElem?_modify, hc', onCells]
  have hrow : RowF (w'.setCell ⟨p, 0, none⟩ v') B v' ys := hr.keep fun g hgb => Below.heap_setCell _ _ _ _ (fun e => by
    have e : g = p := e
    obtain ⟨cur, ht⟩ := hr.ty g hgb
    rw [e, hc'] at ht
    injection ht with ht
    injection ht with _ e2 _
    exact absurd e2 (by decide))
  refine ⟨⟨?_, ⟨_, hh⟩, hrow, h.low⟩, ?_, hn⟩
  · exact cell_obj hh (by simp [hlt])
  · exact Onl.set ((grown_onl hg).mono fun k e => .inr e) (.inl rfl) 0 v'
end Go.Proofs.YtpnbgdbkiokooaaDoor.Fl
