import Derived.Test.YtbgmbbmnnfmbpaaQApartLaw
import Derived.Test.YtbgmbbmnnfmbpaaQOpen2
/- The openings: a script. -/
namespace Go.Proofs.Ytbgmbbmnnfmbpaa.Lk
open Go.ChangeShapes Go.WideShapes Go.ChangeAt Go.RowKit Go.Deep
set_option linter.unusedVariables false

theorem cells_Step : Try.prog.cellsOf 66 = 12 := by kernel_rfl
theorem bytes_Step : Try.prog.bytesOf 66 = 128 := by kernel_rfl
set_option maxRecDepth 100000 in
theorem trod_Step {H : Type} {enc : TypeId × Value → H} {w : World} {base : Nat} {fuel : Nat} {cs : List Value} {y : DataW H × List MemPlace}
    (h : DataW.trod enc Try.prog w base (fun _ => true) true fuel 66 cs = some y) (hr : InReach 66 y.1) : ∃ x : Stp, cs = x.cells ∧ x.v.ok w := by
  obtain ⟨ys, n, _, rfl, hl, hlen, hf⟩ := DataW.trod_struct Try.underlying66 h
  rw [cells_Step] at hl
  obtain ⟨c0, c1, c2, c3, c4, c5, c6, c7, c8, c9, c10, c11, rfl⟩ := list12 hl
  obtain ⟨y0, y1, y2, y3, rfl⟩ := list4 (cs := ys) (by simpa using hlen)
  obtain ⟨a0, e0, _, _⟩ := DataW.trod_int Try.underlying3 (hf 0 _ rfl)
  obtain ⟨a1, e1, _, _⟩ := DataW.trod_int Try.underlying3 (hf 1 _ rfl)
  obtain ⟨x, e2, hx, _⟩ := trod_Held (hf 2 _ rfl) (InReach.part (ps := [y0.1, y1.1, y2.1, y3.1]) hr Try.underlying66 (j := 2) rfl rfl)
  obtain ⟨s, e3⟩ := trod_Span (hf 3 _ rfl)
  simp [cells_int, cells_Held, cells_Span] at e0 e1 e2 e3
  obtain ⟨e2, e4, e5, e6, e7, e8, e9, e10⟩ := e2
  obtain ⟨e3, e11⟩ := e3
  subst e0 e1 e2 e3 e4 e5 e6 e7 e8 e9 e10 e11
  exact ⟨⟨a0, a1, x, s⟩, rfl, hx⟩
set_option maxRecDepth 100000 in
theorem open_steps {H : Type} {enc : TypeId × Value → H} {W : World} {r : Reach} {b : Nat} {v : Value} {d : DataW H} {p : List MemPlace} {ts : List TypeId} {gs : List (DataW H)}
    (hv : Value.okWide Try.prog W r b 63 v) (h : DataW.Trod enc Try.prog W 0 (fun _ => true) true 63 v d p)
    (hsz : (DataW.weightsEach Try.prog (63 :: ts) (d :: gs)).all (· ≤ reachBytes) = true) :
    ∃ (a : Option Addr) (cap : Nat) (xs : List Stp), v = .slice a xs.length cap ∧ RowP W a xs ∧ (∀ x ∈ xs, x.v.ok W) ∧ xs.length ≤ 1099511627776 := by
  obtain ⟨a0, len, cap, rfl⟩ := okWide_slice Try.underlying63 hv
  obtain ⟨fuel, hf⟩ := h
  have hr : InReach 63 d := InReach.of_args hsz
  obtain ⟨a, cap, xs, e, _, _, hrow, hel⟩ := open_rows Try.underlying63 cells_Step (by decide) zstp Stp.cells (fun x _ => x.v.ok W) (fun _ _ _ h k => trod_Step h k) hf hr
  refine ⟨a, cap, xs, e, hrow, ?_, ?_⟩
  · rcases hel with rfl | ⟨el, sp, _, _, e3⟩
    · simp
    · intro x hx
      obtain ⟨i, hi, rfl⟩ := List.getElem_of_mem hx
      obtain ⟨d, _, hg⟩ := e3 i hi
      simpa [hi] using hg
  · rcases hel with rfl | ⟨el, sp, e1, e2, _⟩
    · simp
    · simp only at e1
      rw [e1] at hr
      have := hr.len Try.underlying63
      rw [bytes_Step, e2] at this
      simp only [reachBytes] at this
      omega
set_option maxRecDepth 100000 in
theorem opened_locksApart {H : Type} {enc : TypeId × Value → H} {W : World} {r : Reach} {b : Nat} {v : Value} {d : DataW H} {p : List MemPlace} {ts : List TypeId} {gs : List (DataW H)}
    (hv : Value.okWide Try.prog W r b 63 v) (h : DataW.Trod enc Try.prog W 0 (fun _ => true) true 63 v d p)
    (hsz : (DataW.weightsEach Try.prog (63 :: ts) (d :: gs)).all (· ≤ reachBytes) = true) :
    Calls Try.prog 8 #[v] W fun e w' => e = .returned (.bool true) ∧ Below W.heap.size W w' := by
  obtain ⟨a, cap, xs, rfl, h1, h2, h3⟩ := open_steps hv h hsz
  exact apart_law h1 h2 h3
end Go.Proofs.Ytbgmbbmnnfmbpaa.Lk
