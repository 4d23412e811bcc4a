import Derived.Test.YtpnbgdbkiokooaaDoorFxLaw
import Derived.Test.YtpnbgdbkiokooaaDoorFlOpen
import Derived.Test.YtpnbgdbkiokooaaDoorFlLaid
namespace Go.Proofs.YtpnbgdbkiokooaaDoor
open Go.ChangeShapes Go.WideShapes Go.ChangeAt Go.RowKit
theorem opened_flightExact {H : Type} {enc : TypeId × Value → H} {W : World} {r : Reach} {b : Nat} {v : Value} {d : DataW H} {p : List MemPlace}
    (hv : Value.okWide Tryd.prog W r b 35 v) (h : DataW.Trod enc Tryd.prog W 0 (fun _ => true) true 35 v d p) (hk : Rows.uptoBulk d ≤ 1048576) (hL : laidMetH Tryd.prog theLaid W) :
    Calls Tryd.prog 4 #[v] W fun e w' => e = .returned (.bool true) ∧ Below W.heap.size W w' := by
  obtain ⟨a, c, xs, rfl, h1, h2, h3⟩ := Fl.open_steps hv h hk
  exact Fl.law_exact (pow_of hL) h1 h2 h3
end Go.Proofs.YtpnbgdbkiokooaaDoor
