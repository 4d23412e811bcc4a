import Derived.Test.YtbgmbbmnnfmbpaaQLaw1a
import Derived.Test.YtbgmbbmnnfmbpaaQLaw1b
import Derived.Test.YtbgmbbmnnfmbpaaQLaw1c
import Derived.OpenShut
import Derived.Deep.Slices
import Derived.ProofKit
import Derived.SizedLaws
namespace Go.Proofs.Ytbgmbbmnnfmbpaa.Lk
open Go.ChangeShapes Go.WideShapes Go.ChangeAt Go.RowKit Go.Deep
set_option linter.unusedVariables false

theorem cells_str : Try.prog.cellsOf 9 = 1 := by kernel_rfl
theorem cells_Span : Try.prog.cellsOf 23 = 2 := by kernel_rfl
theorem cells_Spot : Try.prog.cellsOf 25 = 3 := by kernel_rfl
theorem cells_Two : Try.prog.cellsOf 29 = 5 := by kernel_rfl
theorem list2 {α : Type} {cs : List α} (h : cs.length = 2) : ∃ c0 c1, cs = [c0, c1] := by
  match cs, h with
  | [c0, c1], _ => exact ⟨c0, c1, rfl⟩
theorem list3 {α : Type} {cs : List α} (h : cs.length = 3) : ∃ c0 c1 c2, cs = [c0, c1, c2] := by
  match cs, h with
  | [c0, c1, c2], _ => exact ⟨c0, c1, c2, rfl⟩
theorem list5 {α : Type} {cs : List α} (h : cs.length = 5) : ∃ c0 c1 c2 c3 c4, cs = [c0, c1, c2, c3, c4] := by
  match cs, h with
  | [c0, c1, c2, c3, c4], _ => exact ⟨c0, c1, c2, c3, c4, rfl⟩
theorem trod_Span {H : Type} {enc : TypeId × Value → H} {w : World} {base : Nat} {spare : Nat → Bool} {held : Bool} {fuel : Nat} {cs : List Value} {y : DataW H × List MemPlace}
    (h : DataW.trod enc Try.prog w base spare held fuel 23 cs = some y) : ∃ x : T2, cs = [.string x.1, .string x.2] := by
  obtain ⟨ys, n, _, rfl, hl, hlen, hf⟩ := DataW.trod_struct Try.underlying23 h
  rw [cells_Span] at hl
  obtain ⟨c0, c1, rfl⟩ := list2 hl
  obtain ⟨y0, y1, rfl⟩ := list2 (cs := ys) (by simpa using hlen)
  obtain ⟨s0, e0, _, _⟩ := DataW.trod_string Try.underlying9 (hf 0 _ rfl)
  obtain ⟨s1, e1, _, _⟩ := DataW.trod_string Try.underlying9 (hf 1 _ rfl)
  simp [cells_str] at e0 e1
  subst e0 e1
  exact ⟨(s0, s1), rfl⟩

set_option maxRecDepth 100000 in
theorem opened_locksInside {H : Type} {enc : TypeId × Value → H} {W : World} {r : Reach} {b : Nat} {v : Value} {d : DataW H} {p : List MemPlace} {ts : List TypeId} {gs : List (DataW H)}
    (hv : Value.okWide Try.prog W r b 25 v) (h : DataW.Trod enc Try.prog W 0 (fun _ => true) true 25 v d p)
    (hsz : (DataW.weightsEach Try.prog (25 :: ts) (d :: gs)).all (· ≤ reachBytes) = true) :
    Calls Try.prog 3 #[v] W fun e w' => e = .returned (.bool true) ∧ Below W.heap.size W w' := by
  obtain ⟨cs, rfl, hs⟩ := okWide_struct Try.underlying25 hv
  obtain ⟨fuel, hf⟩ := h
  obtain ⟨ys, n, hfu, hd, hl, hlen, hfld⟩ := DataW.trod_struct Try.underlying25 hf
  rw [cells_Spot] at hl
  obtain ⟨cs⟩ := cs
  simp only [Value.cells] at hl hfld
  obtain ⟨c0, c1, c2, rfl⟩ := list3 hl
  obtain ⟨y0, y1, rfl⟩ := list2 (cs := ys) (by simpa using hlen)
  obtain ⟨s0, e0, f0, g0⟩ := DataW.trod_string Try.underlying9 (hfld 0 _ rfl)
  obtain ⟨x1, e1⟩ := trod_Span (hfld 1 _ rfl)
  have hd1 : d = .agg [y0.1, y1.1] := by injection hd
  have hin : ∀ k ∈ d.weights Try.prog 25, k ≤ reachBytes := fun k hk => by
    have := List.all_eq_true.1 hsz k (DataW.weights_mem_each (j := 0) rfl rfl k hk)
    simpa using this
  simp [cells_str, cells_Span] at e0 e1
  obtain ⟨e1, e2⟩ := e1
  subst e0 e1 e2
  refine law_inside ?_ W
  have := hin s0.data.toList.length (by
    rw [hd1, f0]
    simp only [DataW.weights, Try.underlying25]
    exact DataW.weights_mem_each (j := 0) (t := 9) (d := .lit (.string s0.data.toList)) rfl rfl _ (by simp [DataW.weights]))
  simp only [reachBytes, Array.length_toList] at this
  have e : s0.size = s0.data.size := rfl
  omega

set_option maxRecDepth 100000 in
theorem trod_two {H : Type} {enc : TypeId × Value → H} {W : World} {r : Reach} {b : Nat} {v : Value} {d : DataW H} {p : List MemPlace}
    (hv : Value.okWide Try.prog W r b 29 v) (h : DataW.Trod enc Try.prog W 0 (fun _ => true) true 29 v d p) :
    ∃ al ah bl bh k, v = .agg #[.string al, .string ah, .string bl, .string bh, .string k] := by
  obtain ⟨cs, rfl, hs⟩ := okWide_struct Try.underlying29 hv
  obtain ⟨fuel, hf⟩ := h
  obtain ⟨ys, n, hfu, hd, hl, hlen, hfld⟩ := DataW.trod_struct Try.underlying29 hf
  rw [cells_Two] at hl
  obtain ⟨cs⟩ := cs
  simp only [Value.cells] at hl hfld
  obtain ⟨c0, c1, c2, c3, c4, rfl⟩ := list5 hl
  obtain ⟨y0, y1, y2, rfl⟩ := list3 (cs := ys) (by simpa using hlen)
  obtain ⟨x0, e0⟩ := trod_Span (hfld 0 _ rfl)
  obtain ⟨x1, e1⟩ := trod_Span (hfld 1 _ rfl)
  obtain ⟨s2, e2, _, _⟩ := DataW.trod_string Try.underlying9 (hfld 2 _ rfl)
  simp [cells_str, cells_Span] at e0 e1 e2
  obtain ⟨e0, e3⟩ := e0
  obtain ⟨e1, e4⟩ := e1
  subst e0 e1 e2 e3 e4
  exact ⟨_, _, _, _, _, rfl⟩
set_option maxRecDepth 100000 in
theorem opened_locksOverlap {H : Type} {enc : TypeId × Value → H} {W : World} {r : Reach} {b : Nat} {v : Value} {d : DataW H} {p : List MemPlace}
    (hv : Value.okWide Try.prog W r b 29 v) (h : DataW.Trod enc Try.prog W 0 (fun _ => true) true 29 v d p) :
    Calls Try.prog 5 #[v] W fun e w' => e = .returned (.bool true) ∧ Below W.heap.size W w' := by
  obtain ⟨al, ah, bl, bh, k, rfl⟩ := trod_two hv h
  exact law_overlap W
set_option maxRecDepth 100000 in
theorem opened_locksWitness {H : Type} {enc : TypeId × Value → H} {W : World} {r : Reach} {b : Nat} {v : Value} {d : DataW H} {p : List MemPlace}
    (hv : Value.okWide Try.prog W r b 29 v) (h : DataW.Trod enc Try.prog W 0 (fun _ => true) true 29 v d p) :
    Calls Try.prog 4 #[v] W fun e w' => e = .returned (.bool true) ∧ Below W.heap.size W w' := by
  obtain ⟨al, ah, bl, bh, k, rfl⟩ := trod_two hv h
  exact law_witness W

end Go.Proofs.Ytbgmbbmnnfmbpaa.Lk
