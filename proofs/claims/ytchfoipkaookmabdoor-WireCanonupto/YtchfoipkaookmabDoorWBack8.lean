import Derived.Test.YtchfoipkaookmabDoorWAdded
import Derived.Test.YtchfoipkaookmabDoorWTVar
import Derived.Test.YtchfoipkaookmabDoorWTake
namespace Go.Proofs.YtchfoipkaookmabDoor
open Go.RowKit Go.Sort
set_option linter.unusedVariables false

theorem dvar_is {w : World} {b o m : Nat} {d d' : Ds} {x : Nat} (h : DecAt w b o d) (hl : d.left.length ≤ 9223372036854775807) (hv : tVar m d = (x, d')) :
    Calls Tryd.prog 20 #[.pointer (some ⟨b, o, none⟩), .int .u64 (m : Int)] w fun e w' => e = .returned (.int .u64 (x : Int)) ∧ Cel b o 2 w w' ∧ DecAt w' b o d' := by
  have := dvar_any (m := m) h hl
  rw [hv] at this
  exact this
theorem TRow.b8 {w : World} {a : Option Addr} {l : List (List Nat)} (h : TRow w a l) : ∀ t ∈ l, B8 t := fun t ht => by
  obtain ⟨i, hi, e⟩ := List.getElem_of_mem ht
  exact (h i t (by rw [List.getElem?_eq_getElem hi, e])).1
theorem bytesOf_b8 {w : World} {a : Option Addr} {xs : List It} (h : IRow w a xs) : B8 (bytesOf xs) := by
  intro b hb
  simp only [bytesOf, List.mem_flatMap] at hb
  obtain ⟨x, hx, hb⟩ := hb
  have hok := h.nums x hx
  unfold It.bytes at hb
  split at hb
  · simp at hb; omega
  · split at hb
    · simp at hb; split at hb <;> omega
    · split at hb
      · exact vb_byte _ b hb
      · split at hb
        · rw [eText, List.mem_append] at hb
          rcases hb with hb | hb
          · exact vb_byte _ b hb
          · exact hok.s b hb
        · split at hb
          · rw [eTexts, List.mem_append] at hb
            rcases hb with hb | hb
            · exact vb_byte _ b hb
            · obtain ⟨t, ht, hb⟩ := List.mem_flatMap.1 hb
              rw [eText, List.mem_append] at hb
              rcases hb with hb | hb
              · exact vb_byte _ b hb
              · exact hok.l.b8 t ht b hb
          · split at hb
            · exact hok.s b hb
            · split at hb
              · exact pkN_b8 _ b hb
              · simp at hb

theorem owns_none {w : World} {B : Nat} {v : Value} (h : w.ownsRow B 9 1 v ([] : List (List Nat)).length (tvals [])) : ∃ a cap, v = .slice a 0 cap := by
  obtain ⟨h1, ⟨rfl, h2⟩ | ⟨g, cap, cur, rfl, r⟩⟩ := h
  · exact ⟨none, 0, rfl⟩
  · exact ⟨_, cap, rfl⟩

end Go.Proofs.YtchfoipkaookmabDoor
