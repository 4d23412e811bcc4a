import Derived.Test.YtgplnbdankfobaaGreatDoorQKeys
import Derived.Test.YtgplnbdankfobaaGreatDoorQWithin
import Derived.Test.YtgplnbdankfobaaGreatDoorDPart
/- The table: what it holds and where. -/
namespace Go.Proofs.YtgplnbdankfobaaGreatDoor.Lk
open Go.RowKit Go.Sort
set_option linter.unusedVariables false

theorem cell_of_obj {w : World} {b o : Nat} {cs : Array Value} {t : TypeId} {z : Nat × Nat} {v : Value} (h : w.heap[b]? = some (.cells cs t z)) (hv : cs[o]? = some v) : w.cell? ⟨b, o, none⟩ = some v := by
  simp [World.cell?, h, hv]
/-- what is held, and where its lists lie -/
structure Hv where
  h : Hd
  ra : Option Addr
  rc : Nat
  wa : Option Addr
  wc : Nat
abbrev Hv.val (v : Hv) : Value := .agg #[.int .u32 v.h.id.1, .int .u32 v.h.id.2, .int .u32 v.h.home, .int .u64 v.h.w, .int .u32 v.h.l, .int .u32 v.h.n, .slice v.ra v.h.rs.length v.rc, .slice v.wa v.h.ws.length v.wc]
structure Hv.ok (W : World) (v : Hv) : Prop where
  r : Row2 W v.ra v.h.rs
  w : RowW W v.wa v.h.ws
  rl : v.h.rs.length + 1 ≤ 4398046511104
  wl : v.h.ws.length + 1 ≤ 3518437208883
theorem Hv.ok.later {w w' : World} {v : Hv} (h : v.ok w) (hb : Below w.heap.size w w') : v.ok w' := ⟨h.r.later hb, h.w.later hb, h.rl, h.wl⟩

/-- blocks in which no text stands -/
def Bare (w : World) (b : Nat) : Prop := ∀ o s, w.cell? ⟨b, o, none⟩ ≠ some (.string s)
theorem row2_onl {w w' : World} {F : Nat → Prop} {a : Option Addr} {xs : List T2} (h : Row2 w a xs) (ho : Onl F w w') (hF : ∀ b, F b → Bare w b) : Row2 w' a xs := fun i hi => by
  obtain ⟨b, off, e, h0, h1⟩ := h i hi
  have hn : ¬ F b := fun hf => hF b hf _ _ h0
  exact ⟨b, off, e, ho.cell hn h0, ho.cell hn h1⟩
theorem rowW_onl {w w' : World} {F : Nat → Prop} {a : Option Addr} {xs : List Wr} (h : RowW w a xs) (ho : Onl F w w') (hF : ∀ b, F b → Bare w b) : RowW w' a xs := fun i hi => by
  obtain ⟨b, off, e, h0, h1, h2⟩ := h i hi
  have hn : ¬ F b := fun hf => hF b hf _ _ h0
  exact ⟨b, off, e, ho.cell hn h0, ho.cell hn h1, ho.cell hn h2⟩
theorem Hv.ok.onl {w w' : World} {F : Nat → Prop} {v : Hv} (h : v.ok w) (ho : Onl F w w') (hF : ∀ b, F b → Bare w b) : v.ok w' := ⟨row2_onl h.r ho hF, rowW_onl h.w ho hF, h.rl, h.wl⟩

abbrev prs (V : List Hv) : List (Ix × Hv) := V.map fun v => (v.h.id, v)
/-- a table at p, oo in an object of type ty, with its maps -/
structure TbO (W : World) (p oo : Nat) (ty : TypeId) (m1 m2 : Option Nat) (V : List Hv) (I : It) : Prop where
  obj : ∃ cs, W.heap[p]? = some (.cells cs ty (0, 0)) ∧ cs[oo]? = some (.map m1) ∧ cs[oo + 1]? = some (.map m2)
  bar : Bare W p
  held : MapO ixv Hv.val W m1 (prs V)
  ints : MapO Value.string ixv W m2 I
  rows : ∀ v ∈ V, v.ok W
  ok : Ok (V.map Hv.h) I
  nil : m1 = none ↔ m2 = none
  ne : ∀ b, m1 = some b → m2 ≠ some b
/-- a table that lies in a block of its own -/
abbrev Tb (W : World) (p : Nat) (m1 m2 : Option Nat) (V : List Hv) (I : It) : Prop := TbO W p 0 57 m1 m2 V I
/-- its blocks -/
def Its (p : Nat) (m1 m2 : Option Nat) (b : Nat) : Prop := b = p ∨ m1 = some b ∨ m2 = some b
section
variable {w w' : World} {p oo : Nat} {ty : TypeId} {m1 m2 : Option Nat} {V : List Hv} {I : It}
theorem TbO.blk (h : TbO w p oo ty m1 m2 V I) : ∃ cs, w.heap[p]? = some (.cells cs ty (0, 0)) := by obtain ⟨cs, hc, _⟩ := h.obj; exact ⟨cs, hc⟩
theorem TbO.c0 (h : TbO w p oo ty m1 m2 V I) : w.cell? ⟨p, oo, none⟩ = some (.map m1) := by obtain ⟨cs, hc, x0, x1⟩ := h.obj; exact cell_of_obj hc x0
theorem TbO.c1 (h : TbO w p oo ty m1 m2 V I) : w.cell? ⟨p, oo + 1, none⟩ = some (.map m2) := by obtain ⟨cs, hc, x0, x1⟩ := h.obj; exact cell_of_obj hc x1
theorem TbO.loose (h : TbO w p oo ty m1 m2 V I) (j : Nat) : w.frozen? ⟨p, j, none⟩ = false := by obtain ⟨cs, hc, _⟩ := h.obj; simp [World.frozen?, hc]
theorem TbO.lt (h : TbO w p oo ty m1 m2 V I) : p < w.heap.size := by obtain ⟨cs, hc, _⟩ := h.obj; exact (Array.getElem?_eq_some_iff.1 hc).1
theorem bare_same {b : Nat} (h : Bare w b) (e : w'.heap[b]? = w.heap[b]?) : Bare w' b := fun o s hc => h o s (by simp only [World.cell?, e] at hc ⊢; exact hc)
theorem TbO.objs (h : TbO w p oo ty m1 m2 V I) (e : w'.heap[p]? = w.heap[p]?) : (∃ cs, w'.heap[p]? = some (.cells cs ty (0, 0)) ∧ cs[oo]? = some (.map m1) ∧ cs[oo + 1]? = some (.map m2)) ∧ Bare w' p := by
  obtain ⟨cs, hc, x⟩ := h.obj
  exact ⟨⟨cs, e.trans hc, x⟩, bare_same h.bar e⟩
theorem TbO.later (h : TbO w p oo ty m1 m2 V I) (hb : Below w.heap.size w w') : TbO w' p oo ty m1 m2 V I :=
  ⟨(h.objs (hb.block p h.lt)).1, (h.objs (hb.block p h.lt)).2, h.held.later hb, h.ints.later hb, fun v hv => (h.rows v hv).later hb, h.ok, h.nil, h.ne⟩
theorem map_bare {es : Array MapEntry} {clock b : Nat} (h : w.heap[b]? = some (.map es clock)) : Bare w b := fun o s hc => by
  simp [World.cell?, h] at hc
theorem TbO.bare (h : TbO w p oo ty m1 m2 V I) {b : Nat} (hb : Its p m1 m2 b) : Bare w b := by
  rcases hb with rfl | rfl | rfl
  · exact h.bar
  · obtain ⟨es, clock, hb, _⟩ := h.held.at
    exact map_bare hb
  · obtain ⟨es, clock, hb, _⟩ := h.ints.at
    exact map_bare hb
/-- a cell that is no text is written -/
theorem bare_set {b o : Nat} {v : Value} (h : Bare w b) (hv : ∀ s, v ≠ .string s) : Bare (w.setCell ⟨b, o, none⟩ v) b := fun o' s hc => by
  by_cases e : o' = o
  · subst e
    cases hb : w.heap[b]? with
    | none =>
      have : (w.setCell ⟨b, o', none⟩ v).heap[b]? = none := by
        rw [Array.getElem?_eq_none_iff] at hb ⊢; simpa using hb
      simp [World.cell?, this] at hc
    | some ob =>
      cases ob with
      | cells cs t z =>
        simp only [World.cell?, heap_put v hb] at hc
        by_cases hl : o' < cs.size
        · simp [hl] at hc; exact hv s hc
        · simp [hl] at hc
      | _ =>
        refine h o' s ?_
        obtain ⟨hlt, hk⟩ := Array.getElem?_eq_some_iff.1 hb
        have e : (w.setCell ⟨b, o', none⟩ v).heap[b]? = w.heap[b]? := by
          show (w.heap.modify b _)[b]? = _
          rw [Array.getElem?_eq_getElem (by rw [Array.size_modify]; exact hlt), Array.getElem_modify_self, hk, hb]
        simp only [World.cell?, e] at hc ⊢; exact hc
  · have hne : (⟨b, o, none⟩ : Addr) ≠ ⟨b, o', none⟩ := fun k => by injection k with _ k _; exact e k.symm
    rw [World.cell?_setCell_other (h := hne)] at hc
    exact h o' s hc
end
end Go.Proofs.YtgplnbdankfobaaGreatDoor.Lk
