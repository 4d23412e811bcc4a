import Derived.Test.YtogjhpknlopajaaXPlays
import Derived.Test.YtogjhpknlopajaaXEOpen
/- LedgerPlays, LedgerDiffers: the opening. -/
namespace Go.Proofs.Ytogjhpknlopajaa.Lg
open Go.ChangeShapes Go.WideShapes Go.ChangeAt Go.RowKit Go.Deep Lk
set_option linter.unusedVariables false

theorem cells_Op : Try.prog.cellsOf 95 = 10 := by kernel_rfl
theorem bytes_Op : Try.prog.bytesOf 95 = 80 := by kernel_rfl
theorem cells_ints : Try.prog.cellsOf 93 = 1 := by kernel_rfl
theorem bytes_int : Try.prog.bytesOf 3 = 8 := by kernel_rfl
theorem list10 {α : Type} {cs : List α} (h : cs.length = 10) : ∃ c0 c1 c2 c3 c4 c5 c6 c7 c8 c9, cs = [c0, c1, c2, c3, c4, c5, c6, c7, c8, c9] := by
  match cs, h with
  | [c0, c1, c2, c3, c4, c5, c6, c7, c8, c9], _ => exact ⟨c0, c1, c2, c3, c4, c5, c6, c7, c8, c9, rfl⟩
section
variable {H : Type} {enc : TypeId × Value → H} {w : World} {base : Nat} {fuel : Nat} {cs : List Value} {y : DataW H × List MemPlace}
theorem ints_cell {v : Value} (hf : DataW.trod enc Try.prog w base (fun _ => true) true fuel 93 [v] = some y) (hr : InReach 93 y.1) :
    ∃ (a : Option Addr) (cap : Nat) (xs : List Int), v = .slice a xs.length cap ∧ RowI w a xs ∧ xs.length + 1 ≤ 17592186044416 := by
  obtain ⟨a, cap, xs, rfl, hcap, _, hrow, hel⟩ := open_rows Try.underlying93 cells_int (by decide) (0 : Int) (fun i => [.int .i64 i]) (fun _ _ => True) (fun _ _ _ h _ => by obtain ⟨x, e, _, _⟩ := DataW.trod_int Try.underlying3 h; exact ⟨x, e, trivial⟩) hf hr
  refine ⟨a, cap, xs, rfl, hrow, ?_⟩
  rcases hel with rfl | ⟨el, sp, e1, e2, _⟩
  · simp
  · rw [e1] at hr
    have := hr.len Try.underlying93 bytes_int (by decide)
    rw [e2] at this
    simp only [reachBytes] at this
    omega
set_option maxRecDepth 100000 in
theorem trod_Op (h : DataW.trod enc Try.prog w base (fun _ => true) true fuel 95 cs = some y) (hr : InReach 95 y.1) : ∃ x : Oq, cs = ocs x ∧ x.ok w := by
  obtain ⟨ys, n, _, rfl, hl, hlen, hf⟩ := DataW.trod_struct Try.underlying95 h
  rw [cells_Op] at hl
  obtain ⟨c0, c1, c2, c3, c4, c5, c6, c7, c8, c9, rfl⟩ := list10 hl
  obtain ⟨y0, y1, y2, y3, rfl⟩ := list4 (cs := ys) (by simpa using hlen)
  obtain ⟨a0, e0, _, _⟩ := DataW.trod_int Try.underlying3 (hf 0 _ rfl)
  obtain ⟨a1, e1, _, _⟩ := DataW.trod_int Try.underlying3 (hf 1 _ rfl)
  obtain ⟨x, e2⟩ := trod_Entry (hf 2 _ rfl)
  have h3 := hf 3 _ rfl
  have hc3 : DataW.trod enc Try.prog w base (fun _ => true) true n 93 [c9] = some y3 := by
    simpa [cells_int, cells_Entry, cells_ints] using h3
  obtain ⟨a, cap, ns, rfl, hrow, hlen3⟩ := ints_cell hc3 (InReach.part (ps := [y0.1, y1.1, y2.1, y3.1]) hr Try.underlying95 (j := 3) rfl rfl)
  simp [cells_int, cells_Entry] at e0 e1 e2
  obtain ⟨e2, e3, e4, e5, e6, e7, e8⟩ := e2
  subst e0 e1 e2 e3 e4 e5 e6 e7 e8
  exact ⟨⟨a0, a1, x, a, ns.length, cap, ns⟩, rfl, hrow, rfl, hlen3⟩
end
set_option maxRecDepth 100000 in
theorem open_ops {H : Type} {enc : TypeId × Value → H} {W : World} {r : Reach} {b : Nat} {v : Value} {d : DataW H} {p : List MemPlace} {ts : List TypeId} {gs : List (DataW H)}
    (hv : Value.okWide Try.prog W r b 62 v) (h : DataW.Trod enc Try.prog W 0 (fun _ => true) true 62 v d p)
    (hsz : (DataW.weightsEach Try.prog (62 :: ts) (d :: gs)).all (· ≤ reachBytes) = true) :
    ∃ (a : Option Addr) (cap : Nat) (xs : List Oq), v = .slice a xs.length cap ∧ RowO W a xs ∧ (∀ x ∈ xs, x.ok W) ∧ xs.length ≤ 3518437208881 := by
  obtain ⟨a0, len, cap, rfl⟩ := okWide_slice Try.underlying62 hv
  obtain ⟨fuel, hf⟩ := h
  have hr : InReach 62 d := InReach.of_args hsz
  obtain ⟨a, cap, xs, e, _, _, hrow, hel⟩ := open_rows Try.underlying62 cells_Op (by decide) Oq.zero ocs (fun x _ => x.ok W) (fun _ _ _ h k => trod_Op h k) hf hr
  refine ⟨a, cap, xs, e, hrow, ?_, ?_⟩
  · rcases hel with rfl | ⟨el, sp, _, _, e3⟩
    · simp
    · intro x hx
      obtain ⟨i, hi, rfl⟩ := List.getElem_of_mem hx
      obtain ⟨d, _, hg⟩ := e3 i hi
      simpa [hi] using hg
  · rcases hel with rfl | ⟨el, sp, e1, e2, _⟩
    · simp
    · simp only at e1
      rw [e1] at hr
      have := hr.len Try.underlying62 bytes_Op (by decide)
      rw [e2] at this
      simp only [reachBytes] at this
      omega
theorem plays_law {w : World} {a : Option Addr} {m c : Nat} {os : List Oq} (hrow : RowO w a os) (hn : os.length = m) (hl : m ≤ 3518437208881) (hok : ∀ o ∈ os, o.ok w) :
    Calls Try.prog 7 #[.slice a m c] w fun r w' => r = .returned (.bool true) ∧ Below w.heap.size w w' := by
  have PL := hid (plays_is (c := c) (kind := 0) hrow hn hl hok)
  clear hrow hn hok
  go_enter Try.func7, Try.ntmps7
  go_wp2_with fail
  refine PL.out.mono ?_
  rintro r w1 ⟨rfl, hb1⟩
  have HB1 := hid hb1
  clear hb1
  go_wp2_with fail
  go_ret
  exact ⟨by simp, HB1.out⟩
theorem differs_law {w : World} {a : Option Addr} {m c : Nat} {os : List Oq} (hrow : RowO w a os) (hn : os.length = m) (hl : m ≤ 3518437208881) (hok : ∀ o ∈ os, o.ok w) :
    Calls Try.prog 8 #[.slice a m c] w fun r w' => r = .returned (.bool true) ∧ Below w.heap.size w w' := by
  have PL := hid (plays_is (c := c) (kind := 7) hrow hn hl hok)
  clear hrow hn hok
  go_enter Try.func8, Try.ntmps8
  go_wp2_with fail
  refine PL.out.mono ?_
  rintro r w1 ⟨rfl, hb1⟩
  have HB1 := hid hb1
  clear hb1
  go_wp2_with fail
  go_ret
  exact ⟨by simp, HB1.out⟩
set_option maxRecDepth 100000 in
theorem opened_ledgerPlays {H : Type} {enc : TypeId × Value → H} {W : World} {r : Reach} {b : Nat} {v : Value} {d : DataW H} {p : List MemPlace} {ts : List TypeId} {gs : List (DataW H)}
    (hv : Value.okWide Try.prog W r b 62 v) (h : DataW.Trod enc Try.prog W 0 (fun _ => true) true 62 v d p)
    (hsz : (DataW.weightsEach Try.prog (62 :: ts) (d :: gs)).all (· ≤ reachBytes) = true) :
    Calls Try.prog 7 #[v] W fun e w' => e = .returned (.bool true) ∧ Below W.heap.size W w' := by
  obtain ⟨a, cap, xs, rfl, h1, h2, h3⟩ := open_ops hv h hsz
  exact plays_law h1 rfl h3 h2
set_option maxRecDepth 100000 in
theorem opened_ledgerDiffers {H : Type} {enc : TypeId × Value → H} {W : World} {r : Reach} {b : Nat} {v : Value} {d : DataW H} {p : List MemPlace} {ts : List TypeId} {gs : List (DataW H)}
    (hv : Value.okWide Try.prog W r b 62 v) (h : DataW.Trod enc Try.prog W 0 (fun _ => true) true 62 v d p)
    (hsz : (DataW.weightsEach Try.prog (62 :: ts) (d :: gs)).all (· ≤ reachBytes) = true) :
    Calls Try.prog 8 #[v] W fun e w' => e = .returned (.bool true) ∧ Below W.heap.size W w' := by
  obtain ⟨a, cap, xs, rfl, h1, h2, h3⟩ := open_ops hv h hsz
  exact differs_law h1 rfl h3 h2
end Go.Proofs.Ytogjhpknlopajaa.Lg
