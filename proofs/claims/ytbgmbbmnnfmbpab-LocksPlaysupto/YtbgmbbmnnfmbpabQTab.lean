import Derived.Test.YtbgmbbmnnfmbpabQKeys
import Derived.Test.YtbgmbbmnnfmbpabQWithin
/- The table: what it holds and where. -/
namespace Go.Proofs.Ytbgmbbmnnfmbpab.Lk
open Go.RowKit Go.Sort
set_option linter.unusedVariables false

theorem cell_of_obj {w : World} {b o : Nat} {cs : Array Value} {t : TypeId} {z : Nat × Nat} {v : Value} (h : w.heap[b]? = some (.cells cs t z)) (hv : cs[o]? = some v) : w.cell? ⟨b, o, none⟩ = some v := by
  simp [World.cell?, h, hv]
/-- what is held, and where its lists lie -/
structure Hv where
  h : Hd
  ra : Option Addr
  rc : Nat
  wa : Option Addr
  wc : Nat
abbrev Hv.val (v : Hv) : Value := .agg #[.int .u32 v.h.id.1, .int .u32 v.h.id.2, .int .u32 v.h.home, .int .u64 v.h.w, .int .u32 v.h.l, .int .u32 v.h.n, .slice v.ra v.h.rs.length v.rc, .slice v.wa v.h.ws.length v.wc]
structure Hv.ok (W : World) (v : Hv) : Prop where
  r : Row2 W v.ra v.h.rs
  w : RowW W v.wa v.h.ws
  rl : v.h.rs.length + 1 ≤ 4398046511104
  wl : v.h.ws.length + 1 ≤ 3518437208883
theorem Hv.ok.later {w w' : World} {v : Hv} (h : v.ok w) (hb : Below w.heap.size w w') : v.ok w' := ⟨h.r.later hb, h.w.later hb, h.rl, h.wl⟩

/-- blocks in which no text stands -/
def Bare (w : World) (b : Nat) : Prop := ∀ o s, w.cell? ⟨b, o, none⟩ ≠ some (.string s)
theorem row2_onl {w w' : World} {F : Nat → Prop} {a : Option Addr} {xs : List T2} (h : Row2 w a xs) (ho : Onl F w w') (hF : ∀ b, F b → Bare w b) : Row2 w' a xs := fun i hi => by
  obtain ⟨b, off, e, h0, h1⟩ := h i hi
  have hn : ¬ F b := fun hf => hF b hf _ _ h0
  exact ⟨b, off, e, ho.cell hn h0, ho.cell hn h1⟩
theorem rowW_onl {w w' : World} {F : Nat → Prop} {a : Option Addr} {xs : List Wr} (h : RowW w a xs) (ho : Onl F w w') (hF : ∀ b, F b → Bare w b) : RowW w' a xs := fun i hi => by
  obtain ⟨b, off, e, h0, h1, h2⟩ := h i hi
  have hn : ¬ F b := fun hf => hF b hf _ _ h0
  exact ⟨b, off, e, ho.cell hn h0, ho.cell hn h1, ho.cell hn h2⟩
theorem Hv.ok.onl {w w' : World} {F : Nat → Prop} {v : Hv} (h : v.ok w) (ho : Onl F w w') (hF : ∀ b, F b → Bare w b) : v.ok w' := ⟨row2_onl h.r ho hF, rowW_onl h.w ho hF, h.rl, h.wl⟩

abbrev prs (V : List Hv) : List (Ix × Hv) := V.map fun v => (v.h.id, v)
/-- a table at p, with its maps -/
structure Tb (W : World) (p : Nat) (m1 m2 : Option Nat) (V : List Hv) (I : It) : Prop where
  blk : W.heap[p]? = some (.cells #[.map m1, .map m2] 49)
  held : MapO ixv Hv.val W m1 (prs V)
  ints : MapO Value.string ixv W m2 I
  rows : ∀ v ∈ V, v.ok W
  ok : Ok (V.map Hv.h) I
  nil : m1 = none ↔ m2 = none
  ne : ∀ b, m1 = some b → m2 ≠ some b
/-- its blocks -/
def Its (p : Nat) (m1 m2 : Option Nat) (b : Nat) : Prop := b = p ∨ m1 = some b ∨ m2 = some b
section
variable {w w' : World} {p : Nat} {m1 m2 : Option Nat} {V : List Hv} {I : It}
theorem Tb.c0 (h : Tb w p m1 m2 V I) : w.cell? ⟨p, 0, none⟩ = some (.map m1) := cell_of_obj h.blk rfl
theorem Tb.c1 (h : Tb w p m1 m2 V I) : w.cell? ⟨p, 1, none⟩ = some (.map m2) := cell_of_obj h.blk rfl
theorem Tb.lt (h : Tb w p m1 m2 V I) : p < w.heap.size := (Array.getElem?_eq_some_iff.1 h.blk).1
theorem Tb.later (h : Tb w p m1 m2 V I) (hb : Below w.heap.size w w') : Tb w' p m1 m2 V I :=
  ⟨(hb.block p h.lt).trans h.blk, h.held.later hb, h.ints.later hb, fun v hv => (h.rows v hv).later hb, h.ok, h.nil, h.ne⟩
theorem map_bare {es : Array MapEntry} {clock b : Nat} (h : w.heap[b]? = some (.map es clock)) : Bare w b := fun o s hc => by
  simp [World.cell?, h] at hc
theorem Tb.bare (h : Tb w p m1 m2 V I) {b : Nat} (hb : Its p m1 m2 b) : Bare w b := by
  rcases hb with rfl | rfl | rfl
  · intro o s hc
    simp only [World.cell?, h.blk] at hc
    match o, hc with
    | 0, hc => simp at hc
    | 1, hc => simp at hc
    | o + 2, hc => simp at hc
  · obtain ⟨es, clock, hb, _⟩ := h.held.at
    exact map_bare hb
  · obtain ⟨es, clock, hb, _⟩ := h.ints.at
    exact map_bare hb
end
end Go.Proofs.Ytbgmbbmnnfmbpab.Lk
