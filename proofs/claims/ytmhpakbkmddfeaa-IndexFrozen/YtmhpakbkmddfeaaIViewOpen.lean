import Derived.Test.YtmhpakbkmddfeaaIOpen
namespace Go.Proofs.Ytmhpakbkmddfeaa
open Go.ChangeShapes Go.WideShapes Go.ChangeAt Go.RowKit Go.Deep
set_option linter.unusedVariables false

theorem cells_span : Try.prog.cellsOf 32 = 2 := by kernel_rfl
theorem cells_view : Try.prog.cellsOf 40 = 4 := by kernel_rfl
theorem list2 {α : Type} {cs : List α} (h : cs.length = 2) : ∃ c0 c1, cs = [c0, c1] := by
  match cs, h with
  | [c0, c1], _ => exact ⟨c0, c1, rfl⟩
theorem list3 {α : Type} {cs : List α} (h : cs.length = 3) : ∃ c0 c1 c2, cs = [c0, c1, c2] := by
  match cs, h with
  | [c0, c1, c2], _ => exact ⟨c0, c1, c2, rfl⟩
theorem list4 {α : Type} {cs : List α} (h : cs.length = 4) : ∃ c0 c1 c2 c3, cs = [c0, c1, c2, c3] := by
  match cs, h with
  | [c0, c1, c2, c3], _ => exact ⟨c0, c1, c2, c3, rfl⟩
theorem trod_span {H : Type} {enc : TypeId × Value → H} {w : World} {base : Nat} {spare : Nat → Bool} {held : Bool} {fuel : Nat} {cs : List Value} {y : DataW H × List MemPlace}
    (h : DataW.trod enc Try.prog w base spare held fuel 32 cs = some y) : ∃ lo hi : ByteArray, cs = [.string lo, .string hi] := by
  obtain ⟨ys, n, _, rfl, hl, hlen, hf⟩ := DataW.trod_struct Try.underlying32 h
  rw [cells_span] at hl
  obtain ⟨c0, c1, rfl⟩ := list2 hl
  obtain ⟨y0, y1, rfl⟩ := list2 (cs := ys) (by simpa using hlen)
  obtain ⟨s0, e0, _, _⟩ := DataW.trod_string Try.underlying9 (hf 0 _ rfl)
  obtain ⟨s1, e1, _, _⟩ := DataW.trod_string Try.underlying9 (hf 1 _ rfl)
  simp [cells_str] at e0 e1
  subst e0 e1
  exact ⟨s0, s1, rfl⟩
set_option maxRecDepth 16000 in
theorem open_view {H : Type} {enc : TypeId × Value → H} {W : World} {r : Reach} {b : Nat} {v : Value} {d : DataW H} {p : List MemPlace} {ts : List TypeId} {gs : List (DataW H)}
    (hv : Value.okWide Try.prog W r b 40 v) (h : DataW.Trod enc Try.prog W 0 (fun _ => true) true 40 v d p)
    (hsz : (DataW.weightsEach Try.prog (40 :: ts) (d :: gs)).all (· ≤ reachBytes) = true) :
    ∃ (a : Option Addr) (cap : Nat) (xs : List Ao) (lo hi key : ByteArray), v = .agg #[.slice a xs.length cap, .string lo, .string hi, .string key] ∧ RowO W a xs ∧ (xs.length + 2) * 64 ≤ 140737488355328 ∧ xs.length ≤ cap ∧ (∀ x ∈ xs, x.key.size ≤ reachBytes) ∧ (∀ x ∈ xs, x.hi.size ≤ reachBytes) ∧ key.size ≤ reachBytes := by
  obtain ⟨cs, rfl, hs⟩ := okWide_struct Try.underlying40 hv
  obtain ⟨fuel, hf⟩ := h
  obtain ⟨ys, n, hfu, hd, hl, hlen, hfld⟩ := DataW.trod_struct Try.underlying40 hf
  rw [cells_view] at hl
  obtain ⟨cs⟩ := cs
  simp only [Value.cells] at hl hfld
  obtain ⟨c0, c1, c2, c3, rfl⟩ := list4 hl
  obtain ⟨y0, y1, y2, rfl⟩ := list3 (cs := ys) (by simpa using hlen)
  have g0 := hfld 0 _ rfl
  obtain ⟨lo, hi, e1⟩ := trod_span (hfld 1 _ rfl)
  obtain ⟨s3, e3, x3, _⟩ := DataW.trod_string Try.underlying9 (hfld 2 _ rfl)
  have s0 : ([c0, c1, c2, c3].drop 0).take (Try.prog.cellsOf 22) = [c0] := by rw [cells_ops]; rfl
  have g0' : DataW.trod enc Try.prog W 0 (fun _ => true) true n 22 [c0] = some y0 := by rw [← s0]; exact g0
  have hd1 : d = .agg [y0.1, y1.1, y2.1] := by injection hd
  have hin : ∀ k ∈ d.weights Try.prog 40, k ≤ reachBytes := fun k hk => by
    have := List.all_eq_true.1 hsz k (DataW.weights_mem_each (j := 0) rfl rfl k hk)
    simpa using this
  obtain ⟨a, cap, xs, rfl, hr, h1, h2, h3, h4⟩ := ops_cell g0' (fun k hk => hin k (by
    rw [hd1]
    simp only [DataW.weights, Try.underlying40]
    exact DataW.weights_mem_each (j := 0) (t := 22) (d := y0.1) rfl rfl _ hk))
  have h5 : s3.size ≤ reachBytes := hin _ (by
    rw [hd1]
    simp only [DataW.weights, Try.underlying40]
    exact DataW.weights_mem_each (j := 2) (t := 9) (d := y2.1) rfl rfl _ (str_weight x3))
  simp [cells_str, cells_span] at e1 e3
  obtain ⟨e1, e2⟩ := e1
  subst e1 e2 e3
  exact ⟨a, cap, xs, lo, hi, s3, rfl, hr, h1, h2, h3, h4, h5⟩

end Go.Proofs.Ytmhpakbkmddfeaa
