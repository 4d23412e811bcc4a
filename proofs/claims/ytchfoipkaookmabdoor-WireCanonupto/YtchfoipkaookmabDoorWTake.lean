import Derived.Test.YtchfoipkaookmabDoorWDec
namespace Go.Proofs.YtchfoipkaookmabDoor
open Go.RowKit Go.Sort
set_option linter.unusedVariables false

theorem DecAt.lt {w : World} {b o : Nat} {d : Ds} (h : DecAt w b o d) : b < w.heap.size := h.raw.lt
theorem DecAt.keep {w w' : World} {b o : Nat} {d : Ds} (h : DecAt w b o d) {c p n : Nat} (k : Cel c p n w w') (hd : c ≠ b ∨ o + 2 ≤ p ∨ p + n ≤ o) : DecAt w' b o d := ⟨h.raw.keep k hd, h.ok⟩
theorem DecAt.later {w w' : World} {b o : Nat} {d : Ds} (h : DecAt w b o d) (k : Below w.heap.size w w') : DecAt w' b o d := ⟨h.raw.later k, h.ok⟩
theorem open_is {w : World} {s : List Nat} (hs : B8 s) {p : Nat} (hp : w.heap.size = p) :
    Calls Tryd.prog 9 #[.string (ofNats s)] w fun e w' => e = .returned (.pointer (some ⟨p, 0, none⟩)) ∧ Below w.heap.size w w' ∧ p < w'.heap.size ∧ DecAt w' p 0 (.at s) := by
  subst hp
  refine (open_any hs).mono ?_
  rintro e w' ⟨h1, h2, h3, h4⟩
  exact ⟨h1, h2, h3, h4, trivial⟩
theorem open_at {w : World} {s : List Nat} {S : ByteArray} (hS : S = ofNats s) (hs : B8 s) {p : Nat} (hp : w.heap.size = p) :
    Calls Tryd.prog 9 #[.string S] w fun e w' => e = .returned (.pointer (some ⟨p, 0, none⟩)) ∧ Below w.heap.size w w' ∧ p < w'.heap.size ∧ DecAt w' p 0 (.at s) := by
  subst hS; exact open_is hs hp
theorem end_is {w : World} {b o : Nat} {d : Ds} {x : Int} (h : DecAt w b o d) (hx : d.ending = x) :
    Calls Tryd.prog 12 #[.pointer (some ⟨b, o, none⟩)] w fun e w' => e = .returned (.int .i64 x) ∧ w' = w := by
  refine (end_any h.raw).mono ?_
  rintro e w' ⟨h1, h2⟩
  refine ⟨?_, h2⟩
  rw [h1, ← hx]
  have hok := h.ok
  cases d with
  | stop c =>
    have hc : c ≠ 0 := hok
    simp [Ds.num, Ds.ending, hc]
  | «at» s => cases s <;> simp [Ds.num, Ds.left, Ds.ending]

end Go.Proofs.YtchfoipkaookmabDoor
