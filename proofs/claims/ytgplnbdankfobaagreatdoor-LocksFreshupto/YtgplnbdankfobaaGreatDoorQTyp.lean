import Derived.Test.YtgplnbdankfobaaGreatDoorQHold
/- Lists lie in blocks of their types. -/
namespace Go.Proofs.YtgplnbdankfobaaGreatDoor.Lk
open Go.RowKit Go.Sort
set_option linter.unusedVariables false

theorem cells_ne {w : World} {b : Nat} {x y : Array Value} {t u : TypeId} {z z' : Nat × Nat} (h : w.heap[b]? = some (.cells x t z)) (h' : w.heap[b]? = some (.cells y u z')) : t = u := by
  rw [h] at h'
  injection h' with h'
  injection h'
/-- the lists lie in blocks of their types -/
def Hv.typ (W : World) (v : Hv) : Prop := (∀ ad, v.ra = some ad → ∃ cur, W.heap[ad.block]? = some (.cells cur 34 (0, 0))) ∧ (∀ ad, v.wa = some ad → ∃ cur, W.heap[ad.block]? = some (.cells cur 64 (0, 0)))
theorem Hv.fresh.typ {B : Nat} {W : World} {v : Hv} (h : v.fresh B W) : v.typ W := ⟨fun ad e => own_obj h.r (by rw [e]; rfl), fun ad e => own_obj h.w (by rw [e]; rfl)⟩
/-- blocks that are no lists -/
def Foreign (w : World) (F : Nat → Prop) : Prop := ∀ b, F b → (∀ cur, w.heap[b]? ≠ some (.cells cur 34 (0, 0))) ∧ (∀ cur, w.heap[b]? ≠ some (.cells cur 64 (0, 0)))
theorem Hv.typ.onl {F : Nat → Prop} {w w' : World} {v : Hv} (h : v.typ w) (ho : Onl F w w') (hF : Foreign w F) : v.typ w' := by
  refine ⟨fun ad e => ?_, fun ad e => ?_⟩
  · obtain ⟨cur, hc⟩ := h.1 ad e
    exact ⟨cur, (ho.block _ (Array.getElem?_eq_some_iff.1 hc).1 (fun k => (hF _ k).1 cur hc)).trans hc⟩
  · obtain ⟨cur, hc⟩ := h.2 ad e
    exact ⟨cur, (ho.block _ (Array.getElem?_eq_some_iff.1 hc).1 (fun k => (hF _ k).2 cur hc)).trans hc⟩
theorem Hv.typ.later {w w' : World} {v : Hv} (h : v.typ w) (hb : Below w.heap.size w w') : v.typ w' := h.onl (F := fun _ => False) (Onl.of_below hb) (fun b e => e.elim)
theorem Hv.ok.typ_onl {F : Nat → Prop} {w w' : World} {v : Hv} (h : v.ok w) (ht : v.typ w) (ho : Onl F w w') (hF : Foreign w F) : v.ok w' := by
  refine ⟨fun i hi => ?_, fun i hi => ?_, h.rl, h.wl⟩
  · obtain ⟨b, off, e, h0, h1⟩ := h.r i hi
    obtain ⟨cur, hc⟩ := ht.1 _ e
    have hn : ¬ F b := fun k => (hF _ k).1 cur hc
    exact ⟨b, off, e, ho.cell hn h0, ho.cell hn h1⟩
  · obtain ⟨b, off, e, h0, h1, h2⟩ := h.w i hi
    obtain ⟨cur, hc⟩ := ht.2 _ e
    have hn : ¬ F b := fun k => (hF _ k).2 cur hc
    exact ⟨b, off, e, ho.cell hn h0, ho.cell hn h1, ho.cell hn h2⟩
/-- a block that is no list's -/
def NoRow (t : TypeId) : Prop := t ≠ 34 ∧ t ≠ 64
theorem TbO.foreignO {w : World} {p oo : Nat} {ty : TypeId} {m1 m2 : Option Nat} {V : List Hv} {I : It} (T : TbO w p oo ty m1 m2 V I) (hn : NoRow ty) : Foreign w (Its p m1 m2) := fun b hb => by
  rcases hb with rfl | rfl | rfl
  · obtain ⟨cs, hk⟩ := T.blk
    exact ⟨fun cur' h' => hn.1 (cells_ne hk h'), fun cur' h' => hn.2 (cells_ne hk h')⟩
  · obtain ⟨es, clock, hb, _⟩ := T.held.at
    exact ⟨fun cur h' => (by rw [hb] at h'; cases h'), fun cur h' => (by rw [hb] at h'; cases h')⟩
  · obtain ⟨es, clock, hb, _⟩ := T.ints.at
    exact ⟨fun cur h' => (by rw [hb] at h'; cases h'), fun cur h' => (by rw [hb] at h'; cases h')⟩
/-- a table stays while other blocks, and other cells of its object, change -/
theorem TbO.keepC {F : Nat → Prop} {w w' : World} {p oo : Nat} {ty : TypeId} {m1 m2 : Option Nat} {V : List Hv} {I : It} (T : TbO w p oo ty m1 m2 V I) (hty : ∀ v ∈ V, v.typ w) (ho : Onl F w w') (hF : Foreign w F) (hm : ∀ b, m1 = some b ∨ m2 = some b → ¬ F b)
    (hp : ∀ cs, w.heap[p]? = some (.cells cs ty (0, 0)) → ∃ cs', w'.heap[p]? = some (.cells cs' ty (0, 0)) ∧ cs'[oo]? = cs[oo]? ∧ cs'[oo + 1]? = cs[oo + 1]?) (hb : Bare w' p) : TbO w' p oo ty m1 m2 V I := by
  obtain ⟨cs, hc, x0, x1⟩ := T.obj
  obtain ⟨cs', hc', e0, e1⟩ := hp cs hc
  exact ⟨⟨cs', hc', e0.trans x0, e1.trans x1⟩, hb, T.held.same fun b e => ho.block b (T.held.lt b e) (hm b (.inl e)), T.ints.same fun b e => ho.block b (T.ints.lt b e) (hm b (.inr e)), fun v hv => (T.rows v hv).typ_onl (hty v hv) ho hF, T.ok, T.nil, T.ne⟩
end Go.Proofs.YtgplnbdankfobaaGreatDoor.Lk
