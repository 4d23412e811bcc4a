import Derived.Test.YtmloaddbmkonoabKScript
namespace Go.Proofs.Ytmloaddbmkonoab
open Go.ChangeShapes Go.WideShapes Go.ChangeAt Go.RowKit Go.Deep

set_option maxHeartbeats 400000 in
theorem clockNeeds_walk (a : Option Addr) (len cap : Nat) (f : Nat → OpS) (w : World) (hm : (len + 2) * 16 ≤ 140737488355328) (hrow : OpRow w a len f) (hok : ∀ i, i < len → (f i).ok) :
    Calls Try.prog 3 #[.slice a len cap] w fun e w' => e = .returned (.bool true) ∧ Below w.heap.size w w' := by
  have H := hid (plays_walk a len cap 7 f w hm hrow hok)
  clear hm hrow hok
  go_enter Try.func3, Try.ntmps3
  go_wp2_with (first | (go_at_call 4; refine H.out.mono ?_; rintro e w1 ⟨rfl, hb⟩))
  go_ret
  exact ⟨rfl, hb⟩

theorem opened_clockNeeds {H : Type} {enc : TypeId × Value → H} {W : World} {r : Reach} {b : Nat} {v : Value} {d : DataW H} {p : List MemPlace} {ts : List TypeId} {gs : List (DataW H)}
    (hv : Value.okWide Try.prog W r b 22 v) (h : DataW.Trod enc Try.prog W 0 (fun _ => true) true 22 v d p)
    (hsz : (DataW.weightsEach Try.prog (22 :: ts) (d :: gs)).all (· ≤ reachBytes) = true) :
    Calls Try.prog 3 #[v] W fun e w' => e = .returned (.bool true) ∧ Below W.heap.size W w' := by
  obtain ⟨a, len, cap, f, rfl, h1, h2, h3⟩ := open_script hv h hsz
  exact clockNeeds_walk a len cap f W h1 h2 h3

end Go.Proofs.Ytmloaddbmkonoab
