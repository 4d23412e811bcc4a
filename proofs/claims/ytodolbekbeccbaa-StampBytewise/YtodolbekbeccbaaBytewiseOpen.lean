import Derived.Test.YtodolbekbeccbaaTwoOpen
import Derived.Test.YtodolbekbeccbaaBytewise
namespace Go.Proofs.Ytodolbekbeccbaa
open Go.ChangeShapes Go.WideShapes Go.ChangeAt Go.RowKit Go.Deep

theorem opened_stampBytewise {H : Type} {enc : TypeId × Value → H} {W : World} {r : Reach} {b : Nat} {v : Value} {d : DataW H} {p : List MemPlace}
    (hv : Value.okWide Try.prog W r b 39 v) (h : DataW.Trod enc Try.prog W 0 (fun _ => true) true 39 v d p) :
    Calls Try.prog 6 #[v] W fun e w' => e = .returned (.bool true) ∧ Below W.heap.size W w' := by
  obtain ⟨x, y, z, x', y', z', hs, ht, rfl⟩ := open_two hv h
  exact bytewise_walk x y z x' y' z' W hs ht

end Go.Proofs.Ytodolbekbeccbaa
