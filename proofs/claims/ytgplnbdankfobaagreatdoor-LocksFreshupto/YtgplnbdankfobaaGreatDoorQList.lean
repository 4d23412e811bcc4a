import Derived.Test.YtgplnbdankfobaaGreatDoorQNew
import Derived.Test.YtgplnbdankfobaaGreatDoorQAll
/- Rows of what is held: read, compared. -/
namespace Go.Proofs.YtgplnbdankfobaaGreatDoor.Lk
open Go.RowKit Go.Sort
set_option linter.unusedVariables false

def nthH (U : List Hv) (i : Nat) : Hv := (U[i]?).getD Hv.zero
/-- the element at i of a row -/
theorem ownH_at {B n : Nat} {w : World} {a : Option Addr} {c : Nat} {U : List Hv} (h : OwnH B w (.slice a n c) n U) (hn : U.length = n) {i : Nat} (hi : i < n) :
    ∃ g, a = some ⟨g, 0, none⟩ ∧ ∀ o v, (hcs (nthH U i))[o]? = some v → w.cell? ⟨g, i * 8 + o, none⟩ = some v := by
  obtain ⟨g, rfl, _, hc⟩ := own_cells h (by omega)
  letI : Inhabited Hv := ⟨Hv.zero⟩
  refine ⟨g, rfl, fun o v ho => hc _ _ ?_⟩
  have hol : o < 8 := by have := (List.getElem?_eq_some_iff.1 ho).1; simpa using this
  rw [fm_get (k := 8) hcs_len U i o (by omega) hol, ← ho]
  have : U[i]! = nthH U i := by simp [nthH, getElem!_pos, show i < U.length by omega]
  rw [this]
/-- a row and what its lists hold -/
structure RowH (B : Nat) (w : World) (a : Option Addr) (n c : Nat) (U : List Hv) : Prop where
  own : OwnH B w (.slice a n c) n U
  len : U.length = n
  ok : ∀ u ∈ U, u.ok w
theorem RowH.later {B : Nat} {w w' : World} {a : Option Addr} {n c : Nat} {U : List Hv} (h : RowH B w a n c U) (hb : Below w.heap.size w w') : RowH B w' a n c U :=
  ⟨owns_keep h.own fun g hg => hb.block g (h.own.lt g hg).2, h.len, fun u hu => (h.ok u hu).later hb⟩
theorem nthH_mem {U : List Hv} {i : Nat} (h : i < U.length) : nthH U i ∈ U := by
  have : nthH U i = U[i] := by simp [nthH, h]
  rw [this]; exact List.getElem_mem h
theorem nthH_ext {U V : List Hv} (hl : U.length = V.length) (h : ∀ j, j < U.length → (nthH U j).h = (nthH V j).h) : U.map Hv.h = V.map Hv.h := by
  apply List.ext_getElem (by simpa using hl)
  intro j h1 h2
  have h1' : j < U.length := by simpa using h1
  have h2' : j < V.length := by simpa using h2
  have := h j h1'
  simpa [nthH, h1', h2'] using this
end Go.Proofs.YtgplnbdankfobaaGreatDoor.Lk
