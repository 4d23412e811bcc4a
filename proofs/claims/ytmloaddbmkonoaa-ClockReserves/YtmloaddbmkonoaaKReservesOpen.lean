import Derived.Test.YtmloaddbmkonoaaKReserves
namespace Go.Proofs.Ytmloaddbmkonoaa
open Go.ChangeShapes Go.WideShapes Go.ChangeAt Go.RowKit Go.Deep

theorem opened_clockReserves {H : Type} {enc : TypeId × Value → H} {W : World} {r : Reach} {b : Nat} {v : Value} {d : DataW H} {p : List MemPlace}
    (hv : Value.okWide Try.prog W r b 26 v) (h : DataW.Trod enc Try.prog W 0 (fun _ => true) true 26 v d p) :
    Calls Try.prog 6 #[v] W fun e w' => e = .returned (.bool true) ∧ Below W.heap.size W w' := by
  obtain ⟨n, g, c, a, len, cap, f, rfl, h1, h2, h3, h4, h5, h6⟩ := open_life hv h
  exact reserves_walk n g c a len cap f W h1 h2 h3 h4 h5 h6

end Go.Proofs.Ytmloaddbmkonoaa
