import Derived.Test.YtdllhkjdckcgmaaDoorIOps
import Derived.OpenShut
import Derived.Deep.Slices
import Derived.Deep.DeepHandedRow
import Derived.ProofKit
import Derived.SizedLaws
/- Openings: a script; a view. -/
namespace Go.Proofs.YtdllhkjdckcgmaaDoor
open Go.ChangeShapes Go.WideShapes Go.ChangeAt Go.RowKit Go.Deep
set_option linter.unusedVariables false

theorem cells_str : Tryd.prog.cellsOf 9 = 1 := by kernel_rfl
theorem cells_int : Tryd.prog.cellsOf 3 = 1 := by kernel_rfl
theorem cells_op : Tryd.prog.cellsOf 33 = 6 := by kernel_rfl
theorem cells_ops : Tryd.prog.cellsOf 22 = 1 := by kernel_rfl
theorem bytes_op : Tryd.prog.bytesOf 33 = 64 := by kernel_rfl
theorem list6 {α : Type} {cs : List α} (h : cs.length = 6) : ∃ c0 c1 c2 c3 c4 c5, cs = [c0, c1, c2, c3, c4, c5] := by
  match cs, h with
  | [c0, c1, c2, c3, c4, c5], _ => exact ⟨c0, c1, c2, c3, c4, c5, rfl⟩
theorem weightsAll_mem {H : Type} {P : Program} {e : TypeId} : ∀ {ds : List (DataW H)} {d : DataW H} {n : Nat}, d ∈ ds → n ∈ d.weights P e → n ∈ DataW.weightsAll P e ds
  | d0 :: ds, d, n, hd, hn => by
    simp only [DataW.weightsAll, List.mem_append]
    rcases List.mem_cons.1 hd with rfl | hd
    · exact .inl hn
    · exact .inr (weightsAll_mem hd hn)

theorem str_weight {H : Type} {P : Program} {t : TypeId} {y : DataW H × List MemPlace} {s : ByteArray} (x : y = (.lit (.string s.data.toList), [])) : s.size ∈ y.1.weights P t := by
  subst x
  show s.size ∈ [s.data.toList.length]
  rw [Array.length_toList]
  exact List.mem_singleton.2 rfl

theorem trod_op {H : Type} {enc : TypeId × Value → H} {w : World} {base : Nat} {spare : Nat → Bool} {held : Bool} {fuel : Nat} {cs : List Value} {y : DataW H × List MemPlace}
    (h : DataW.trod enc Tryd.prog w base spare held fuel 33 cs = some y) :
    ∃ x : Ao, cs = [.int .i64 x.k, .int .i64 x.pl, .string x.key, .string x.hi, .int .i64 x.v, .int .i64 x.st] ∧ x.key.size ∈ y.1.weights Tryd.prog 33 ∧ x.hi.size ∈ y.1.weights Tryd.prog 33 := by
  obtain ⟨ys, n, _, rfl, hl, hlen, hf⟩ := DataW.trod_struct Tryd.underlying33 h
  rw [cells_op] at hl
  obtain ⟨c0, c1, c2, c3, c4, c5, rfl⟩ := list6 hl
  obtain ⟨y0, y1, y2, y3, y4, y5, rfl⟩ := list6 (cs := ys) (by simpa using hlen)
  obtain ⟨a0, e0, _, w0⟩ := DataW.trod_int Tryd.underlying3 (hf 0 _ rfl)
  obtain ⟨a1, e1, _, w1⟩ := DataW.trod_int Tryd.underlying3 (hf 1 _ rfl)
  obtain ⟨s2, e2, x2, _⟩ := DataW.trod_string Tryd.underlying9 (hf 2 _ rfl)
  obtain ⟨s3, e3, x3, _⟩ := DataW.trod_string Tryd.underlying9 (hf 3 _ rfl)
  obtain ⟨a4, e4, _, w4⟩ := DataW.trod_int Tryd.underlying3 (hf 4 _ rfl)
  obtain ⟨a5, e5, _, w5⟩ := DataW.trod_int Tryd.underlying3 (hf 5 _ rfl)
  simp [cells_str, cells_int] at e0 e1 e2 e3 e4 e5
  subst e0 e1 e2 e3 e4 e5
  refine ⟨⟨a0, a1, s2, s3, a4, a5⟩, rfl, ?_, ?_⟩
  · simp only [DataW.weights, Tryd.underlying33]
    exact DataW.weights_mem_each (j := 2) (t := 9) (d := y2.1) rfl rfl _ (str_weight x2)
  · simp only [DataW.weights, Tryd.underlying33]
    exact DataW.weights_mem_each (j := 3) (t := 9) (d := y3.1) rfl rfl _ (str_weight x3)

theorem ops_cell {H : Type} {enc : TypeId × Value → H} {W : World} {base fuel : Nat} {v : Value} {y : DataW H × List MemPlace}
    (hf : DataW.trod enc Tryd.prog W base (fun _ => true) true fuel 22 [v] = some y) (hw : ∀ n ∈ y.1.weights Tryd.prog 22, n ≤ reachBytes) :
    ∃ (a : Option Addr) (cap : Nat) (xs : List Ao), v = .slice a xs.length cap ∧ RowO W a xs ∧ (xs.length + 2) * 64 ≤ 140737488355328 ∧ xs.length ≤ cap ∧ (∀ x ∈ xs, x.key.size ≤ reachBytes) ∧ (∀ x ∈ xs, x.hi.size ≤ reachBytes) := by
  rcases open_slice Tryd.underlying22 hf with ⟨e3, _⟩ | ⟨a, len, cap, m, n', D, Pl, e3, hb, hlc, hm, hmm, hxx, hel⟩
  · injection e3 with e3
    subst e3
    exact ⟨none, 0, [], rfl, fun i hi => by simp at hi, by simp, by simp, fun x hx => (by simp at hx), fun x hx => (by simp at hx)⟩
  · injection e3 with e3
    subst e3
    have hlm : len ≤ m := by rw [hmm]; split <;> omega
    have hin : ∀ i, i < len → ∀ n ∈ (D i).weights Tryd.prog 33, n ≤ reachBytes := fun i hi n hn => hw n (by
      rw [hxx]
      simp only [DataW.weights, Tryd.underlying22]
      exact List.mem_cons_of_mem _ (List.mem_append_left _ (weightsAll_mem (List.mem_map.2 ⟨i, List.mem_range.2 hi, rfl⟩) hn)))
    have hs : len * 64 ≤ 140737488351232 := by
      have := hw ((((List.range len).map D).length + ((List.range (m - len)).map fun j => D (len + j)).length) * Tryd.prog.bytesOf 33) (by
        rw [hxx]
        simp only [DataW.weights, Tryd.underlying22]
        exact List.mem_cons_self ..)
      rw [bytes_op] at this
      simp only [reachBytes, List.length_map, List.length_range] at this
      omega
    have each : ∀ i, i < len → ∃ x : Ao, (x.key.size ≤ reachBytes ∧ x.hi.size ≤ reachBytes) ∧ ∃ bb off, a = ⟨bb, off, none⟩ ∧ W.cell? ⟨bb, off + i * 6, none⟩ = some (.int .i64 x.k) ∧ W.cell? ⟨bb, off + i * 6 + 1, none⟩ = some (.int .i64 x.pl) ∧ W.cell? ⟨bb, off + i * 6 + 2, none⟩ = some (.string x.key)
        ∧ W.cell? ⟨bb, off + i * 6 + 3, none⟩ = some (.string x.hi) ∧ W.cell? ⟨bb, off + i * 6 + 4, none⟩ = some (.int .i64 x.v) ∧ W.cell? ⟨bb, off + i * 6 + 5, none⟩ = some (.int .i64 x.st) := by
      intro i hi
      obtain ⟨cs', hc, ht⟩ := hel i (by omega)
      obtain ⟨x, rfl, hx1, hx2⟩ := trod_op ht
      have hx1 := hin i hi _ hx1
      have hx2 := hin i hi _ hx2
      rw [cells_op] at hc
      obtain ⟨_, _, hcell⟩ := World.cells?_some hc
      have e0 := hcell 0 (by omega)
      have e1 := hcell 1 (by omega)
      have e2 := hcell 2 (by omega)
      have e3 := hcell 3 (by omega)
      have e4 := hcell 4 (by omega)
      have e5 := hcell 5 (by omega)
      obtain ⟨bb, off, spot⟩ := a
      have hspot : spot = none := by
        obtain ⟨cs0, hc0, ht0⟩ := hel 0 (by omega)
        obtain ⟨y, rfl, -, -⟩ := trod_op ht0
        simp only [cells_op] at hc0
        obtain ⟨_, hl0, hcell0⟩ := World.cells?_some hc0
        have hv0 : W.cell? (((⟨bb, off, spot⟩ : Addr).add (0 * 6)).add 0) = some (.int .i64 y.k) := hcell0 0 (by omega)
        have hs := World.cell?_spot hv0
        clear hcell0 hcell e0 e1 e2 e3 e4 e5
        simpa [Addr.add] using hs
      subst hspot
      simp only [Addr.add_lit, Nat.add_zero] at e0 e1 e2 e3 e4 e5
      exact ⟨x, ⟨hx1, hx2⟩, bb, off, rfl, by simpa using e0, by simpa using e1, by simpa using e2, by simpa using e3, by simpa using e4, by simpa using e5⟩
    obtain ⟨f, hq⟩ := @choose_lt Ao ⟨zao⟩ _ _ each
    refine ⟨some a, cap, (List.range len).map f, by simp, fun i hi => ?_, by simp; omega, by simpa using hlc, fun x hx => ?_, fun x hx => ?_⟩
    · have hi' : i < len := by simpa using hi
      obtain ⟨_, bb, off, e, c⟩ := hq i hi'
      have hn : nthO ((List.range len).map f) i = f i := by simp [nthO, hi']
      rw [hn]
      exact ⟨bb, off, by rw [e], c⟩
    · obtain ⟨i, hi, rfl⟩ := List.mem_map.1 hx
      exact (hq i (List.mem_range.1 hi)).1.1
    · obtain ⟨i, hi, rfl⟩ := List.mem_map.1 hx
      exact (hq i (List.mem_range.1 hi)).1.2

set_option maxRecDepth 16000 in
theorem open_script {H : Type} {enc : TypeId × Value → H} {W : World} {r : Reach} {b : Nat} {v : Value} {d : DataW H} {p : List MemPlace} {ts : List TypeId} {gs : List (DataW H)}
    (hv : Value.okWide Tryd.prog W r b 22 v) (h : DataW.Trod enc Tryd.prog W 0 (fun _ => true) true 22 v d p)
    (hsz : (DataW.weightsEach Tryd.prog (22 :: ts) (d :: gs)).all (· ≤ reachBytes) = true) :
    ∃ (a : Option Addr) (cap : Nat) (xs : List Ao), v = .slice a xs.length cap ∧ RowO W a xs ∧ (xs.length + 2) * 64 ≤ 140737488355328 ∧ xs.length ≤ cap ∧ (∀ x ∈ xs, x.key.size ≤ reachBytes) ∧ (∀ x ∈ xs, x.hi.size ≤ reachBytes) := by
  obtain ⟨a0, len, cap, rfl⟩ := okWide_slice Tryd.underlying22 hv
  obtain ⟨fuel, hf⟩ := h
  exact ops_cell hf (fun n hn => by
    have := List.all_eq_true.1 hsz n (DataW.weights_mem_each (j := 0) rfl rfl n hn)
    simpa using this)

end Go.Proofs.YtdllhkjdckcgmaaDoor
