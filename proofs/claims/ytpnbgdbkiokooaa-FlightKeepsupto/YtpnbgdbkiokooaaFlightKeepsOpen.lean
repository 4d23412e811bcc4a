import Derived.Test.YtpnbgdbkiokooaaFkLaw
import Derived.Test.YtpnbgdbkiokooaaFlOpen
namespace Go.Proofs.Ytpnbgdbkiokooaa
open Go.ChangeShapes Go.WideShapes Go.ChangeAt Go.RowKit
theorem opened_flightKeeps {H : Type} {enc : TypeId × Value → H} {W : World} {r : Reach} {b : Nat} {v : Value} {d : DataW H} {p : List MemPlace}
    (hv : Value.okWide Try.prog W r b 22 v) (h : DataW.Trod enc Try.prog W 0 (fun _ => true) true 22 v d p) (hk : Rows.uptoBulk d ≤ 1048576) :
    Calls Try.prog 3 #[v] W fun e w' => e = .returned (.bool true) ∧ Below W.heap.size W w' := by
  obtain ⟨a, c, xs, rfl, h1, h2, h3⟩ := Fl.open_steps hv h hk
  exact Fl.law_keeps h1 h2 h3
end Go.Proofs.Ytpnbgdbkiokooaa
