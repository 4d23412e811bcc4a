import Derived.Test.YtodolbekbeccbabListOpen
import Derived.Test.YtodolbekbeccbabSorts
import Derived.SizedLaws
namespace Go.Proofs.Ytodolbekbeccbab
open Go.ChangeShapes Go.WideShapes Go.ChangeAt Go.RowKit Go.Deep

theorem bytes_one : Try.prog.bytesOf 25 = 16 := by kernel_rfl

theorem reach_list {H : Type} {d : DataW H} {ts : List TypeId} {gs : List (DataW H)} {n : Nat}
    (hsz : (DataW.weightsEach Try.prog (31 :: ts) (d :: gs)).all (· ≤ reachBytes) = true) (hd : (d = .nil ∧ n = 0) ∨ ∃ elems spare, d = .slice elems spare ∧ elems.length = n) : n * 16 ≤ 140737488351232 := by
  rcases hd with ⟨_, rfl⟩ | ⟨elems, spare, rfl, hl⟩
  · omega
  · have := sized_slice hsz (j := 0) (t := 31) (e := 25) rfl rfl Try.underlying31
    rw [bytes_one] at this
    simp only [reachBytes] at this
    omega

theorem opened_stampSorts {H : Type} {enc : TypeId × Value → H} {W : World} {r : Reach} {b : Nat} {v : Value} {d : DataW H} {p : List MemPlace} {ts : List TypeId} {gs : List (DataW H)}
    (hv : Value.okWide Try.prog W r b 31 v) (h : DataW.Trod enc Try.prog W 0 (fun _ => true) true 31 v d p)
    (hsz : (DataW.weightsEach Try.prog (31 :: ts) (d :: gs)).all (· ≤ reachBytes) = true) :
    Calls Try.prog 5 #[v] W fun e w' => e = .returned (.bool true) ∧ Below W.heap.size W w' := by
  obtain ⟨a, c, xs, rfl, hr, hok, hd⟩ := open_stamps hv h
  refine sorts_walk a c xs W hr (reach_list hsz ?_)
  rcases hd with ⟨h1, h2⟩ | h1
  · exact .inl ⟨h1, by rw [h2]; rfl⟩
  · exact .inr h1

end Go.Proofs.Ytodolbekbeccbab
