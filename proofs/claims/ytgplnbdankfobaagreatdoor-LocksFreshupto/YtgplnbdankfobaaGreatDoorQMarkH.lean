import Derived.Test.YtgplnbdankfobaaGreatDoorQMarkP
/- mark: the rows themselves, written over. -/
namespace Go.Proofs.YtgplnbdankfobaaGreatDoor.Lk
open Go.RowKit Go.Sort
set_option linter.unusedVariables false

/-- a Held with nothing but its home, stored -/
abbrev hld (w : World) (g o : Nat) (m : Int) : World := (((((((w.setCell ⟨g, o, none⟩ (.int .u32 0)).setCell ⟨g, o + 1, none⟩ (.int .u32 0)).setCell ⟨g, o + 2, none⟩ (.int .u32 m)).setCell ⟨g, o + 3, none⟩ (.int .u64 0)).setCell ⟨g, o + 4, none⟩ (.int .u32 0)).setCell ⟨g, o + 5, none⟩ (.int .u32 0)).setCell ⟨g, o + 6, none⟩ (.slice none 0 0)).setCell ⟨g, o + 7, none⟩ (.slice none 0 0)
abbrev hldL (hs : List Value) (o : Nat) (m : Int) : List Value := (((((((hs.set o (.int .u32 0)).set (o + 1) (.int .u32 0)).set (o + 2) (.int .u32 m)).set (o + 3) (.int .u64 0)).set (o + 4) (.int .u32 0)).set (o + 5) (.int .u32 0)).set (o + 6) (.slice none 0 0)).set (o + 7) (.slice none 0 0)
theorem hldL_at {hs : List Value} {q n : Nat} {m : Int} (hl : hs.length = n * 8) (hq : q < n) : (hldL hs (q * 8) m)[q * 8 + 2]? = some (.int .u32 m) := by
  have h2 : q * 8 + 2 < hs.length := by omega
  simp only [hldL, List.getElem?_set, List.length_set]
  simp
  omega
theorem hldL_not {hs : List Value} {q j : Nat} {m : Int} (h : j ≠ q) : (hldL hs (q * 8) m)[j * 8 + 2]? = hs[j * 8 + 2]? := by
  simp only [hldL, List.getElem?_set, List.length_set]
  rw [if_neg (by omega), if_neg (by omega), if_neg (by omega), if_neg (by omega), if_neg (by omega), if_neg (by omega), if_neg (by omega), if_neg (by omega)]
theorem own_loose {w : World} {B n size g c : Nat} {e : TypeId} {xs : List Value} (h : w.ownsRow B e size (.slice (some ⟨g, 0, none⟩) n c) n xs) : ∀ o, w.frozen? ⟨g, o, none⟩ = false := by
  intro o
  rcases h.2 with ⟨h', _⟩ | ⟨g', cap', cur, h', hb, hg, _⟩
  · simp at h'
  · simp only [Value.slice.injEq, Option.some.injEq, Addr.mk.injEq, and_true, true_and] at h'
    obtain ⟨rfl, rfl⟩ := h'
    simp [World.frozen?, hg]
theorem held_put {w : World} {B n : Nat} {la : Option Addr} {lc : Nat} {hs : List Value} (h : w.ownsRow B 32 8 (.slice la n lc) n hs) {q : Nat} (hq : q < n) (m : Int) :
    ∃ g, la = some ⟨g, 0, none⟩ ∧ (∀ i, i < 8 → ∃ x, w.cell? ⟨g, q * 8 + i, none⟩ = some x) ∧ (∀ o, w.frozen? ⟨g, o, none⟩ = false) ∧
      (hld w g (q * 8) m).ownsRow B 32 8 (.slice la n lc) n (hldL hs (q * 8) m) ∧ Onl (fun b => (Value.slice la n lc).ownBlock = some b) w (hld w g (q * 8) m) ∧ hs.length = n * 8 := by
  have hl : hs.length = n * 8 := h.1
  obtain ⟨g, rfl, hc⟩ := row_at h (by omega)
  have h0 := World.ownsRow.stored h (q * 8) (.int .u32 0)
  have h1 := World.ownsRow.stored h0.1 (q * 8 + 1) (.int .u32 0)
  have h2 := World.ownsRow.stored h1.1 (q * 8 + 2) (.int .u32 m)
  have h3 := World.ownsRow.stored h2.1 (q * 8 + 3) (.int .u64 0)
  have h4 := World.ownsRow.stored h3.1 (q * 8 + 4) (.int .u32 0)
  have h5 := World.ownsRow.stored h4.1 (q * 8 + 5) (.int .u32 0)
  have h6 := World.ownsRow.stored h5.1 (q * 8 + 6) (.slice none 0 0)
  have h7 := World.ownsRow.stored h6.1 (q * 8 + 7) (.slice none 0 0)
  refine ⟨g, rfl, fun i hi => ⟨_, hc _ _ (List.getElem?_eq_getElem (by omega))⟩, own_loose h, h7.1, ?_, hl⟩
  have := (grown_onl h0.2).trans ((grown_onl h1.2).trans ((grown_onl h2.2).trans ((grown_onl h3.2).trans ((grown_onl h4.2).trans ((grown_onl h5.2).trans ((grown_onl h6.2).trans (grown_onl h7.2)))))))
  exact this.mono fun k hk => by simpa [Value.ownBlock] using hk
end Go.Proofs.YtgplnbdankfobaaGreatDoor.Lk
