import Derived.Test.YtfafkohghgliaaaRows
import Derived.Test.YtfafkohghgliaaaChecked
import Derived.OpenShut
import Derived.Deep.Slices
import Derived.Deep.DeepHandedRow
import Derived.ProofKit
import Derived.SizedLaws
/- A list of structs, opened: any struct, with what its elements are read as. -/
namespace Go.Proofs.Ytfafkohghgliaaa
open Go.ChangeShapes Go.WideShapes Go.ChangeAt Go.RowKit Go.Deep
set_option linter.unusedVariables false

/-- a row of elements of n cells each -/
def RowC {α : Type} (z : α) (cells : α → List Value) (n : Nat) (W : World) (a : Option Addr) (xs : List α) : Prop :=
  ∀ i, i < xs.length → ∃ b off, a = some ⟨b, off, none⟩ ∧ ∀ o u, (cells (xs[i]?.getD z))[o]? = some u → W.cell? ⟨b, off + i * n + o, none⟩ = some u

theorem weightsAll_mem {H : Type} {P : Program} {e : TypeId} {k : Nat} : ∀ {l : List (DataW H)} {d : DataW H}, d ∈ l → k ∈ d.weights P e → k ∈ DataW.weightsAll P e l
  | x :: l, d, hd, hk => by
    rw [DataW.weightsAll, List.mem_append]
    rcases List.mem_cons.1 hd with rfl | hd
    · exact .inl hk
    · exact .inr (weightsAll_mem hd hk)

/-- what a small bulk says -/
theorem bulk_pos {H : Type} (d : DataW H) : 1 ≤ Rows.uptoBulk d := by
  cases d with
  | lit l => cases l <;> simp [Rows.uptoBulk]
  | _ => simp [Rows.uptoBulk]
theorem bulkAll_len {H : Type} : ∀ l : List (DataW H), l.length ≤ Rows.uptoBulkAll l
  | [] => by simp
  | x :: l => by have := bulkAll_len l; have := bulk_pos x; simp only [List.length_cons, Rows.uptoBulkAll]; omega
theorem bulkAll_mem {H : Type} : ∀ {l : List (DataW H)} {d : DataW H}, d ∈ l → Rows.uptoBulk d ≤ Rows.uptoBulkAll l
  | x :: l, d, hd => by
    rcases List.mem_cons.1 hd with rfl | hd
    · simp only [Rows.uptoBulkAll]; omega
    · have := bulkAll_mem hd; simp only [Rows.uptoBulkAll]; omega
theorem bulkAll_sum {H α : Type} (z : α) (f : α → Nat) : ∀ {el : List (DataW H)} {xs : List α}, el.length = xs.length → (∀ i, i < xs.length → ∃ d, el[i]? = some d ∧ f (xs[i]?.getD z) ≤ Rows.uptoBulk d) → (xs.map f).sum ≤ Rows.uptoBulkAll el
  | [], [], _, _ => by simp
  | e :: el, x :: xs, hl, h => by
    obtain ⟨d, hd, h0⟩ := h 0 (by simp)
    simp at hd h0
    subst hd
    have := bulkAll_sum z f (el := el) (xs := xs) (by simpa using hl) (fun i hi => by
      obtain ⟨d, hd, h1⟩ := h (i + 1) (by simpa using hi)
      exact ⟨d, by simpa using hd, by simpa using h1⟩)
    simp only [List.map_cons, List.sum_cons, Rows.uptoBulkAll]
    omega
/-- all of its weights are within the reach, or its bulk is small -/
def InReach {H : Type} (t : TypeId) (d : DataW H) : Prop := (∀ k ∈ d.weights Try.prog t, k ≤ reachBytes) ∨ Rows.uptoBulk d ≤ 1048576
theorem InReach.of_args {H : Type} {t : TypeId} {d : DataW H} {ts : List TypeId} {gs : List (DataW H)} (hsz : (DataW.weightsEach Try.prog (t :: ts) (d :: gs)).all (· ≤ reachBytes) = true) : InReach t d := .inl fun k hk => by
  have := List.all_eq_true.1 hsz k (DataW.weights_mem_each (j := 0) rfl rfl k hk)
  simpa using this
theorem InReach.part {H : Type} {t : TypeId} {fs : Array Field} {ps : List (DataW H)} (h : InReach t (.agg ps)) (ht : Try.prog.underlying t = some (.struct fs)) {j : Nat} {f : Field} {d : DataW H} (hf : fs[j]? = some f) (hd : ps[j]? = some d) : InReach f.type d := by
  rcases h with h | h
  · refine .inl fun k hk => h k ?_
    simp only [DataW.weights, ht]
    exact DataW.weights_mem_each (j := j) (by simp [hf]) hd k hk
  · have := bulkAll_mem (List.mem_of_getElem? hd)
    simp only [Rows.uptoBulk] at h
    exact .inr (by omega)
theorem InReach.elem {H : Type} {t e : TypeId} {el sp : List (DataW H)} (h : InReach t (.slice el sp)) (ht : Try.prog.underlying t = some (.slice e)) {d : DataW H} (hd : d ∈ el) : InReach e d := by
  rcases h with h | h
  · refine .inl fun k hk => h k ?_
    simp only [DataW.weights, ht, List.mem_cons, List.mem_append]
    exact .inr (.inl (weightsAll_mem hd hk))
  · have := bulkAll_mem hd
    simp only [Rows.uptoBulk] at h
    exact .inr (by omega)
theorem InReach.len {H : Type} {t e : TypeId} {el sp : List (DataW H)} (h : InReach t (.slice el sp)) (ht : Try.prog.underlying t = some (.slice e)) {n : Nat} (hb : Try.prog.bytesOf e = n) (hn : n ≤ 65536) : el.length * n ≤ reachBytes := by
  rcases h with h | h
  · have := h ((el.length + sp.length) * Try.prog.bytesOf e) (by simp [DataW.weights, ht])
    rw [hb] at this
    exact Nat.le_trans (Nat.mul_le_mul_right _ (Nat.le_add_right _ _)) this
  · have := bulkAll_len el
    simp only [Rows.uptoBulk] at h
    have h1 : el.length * n ≤ 1048576 * 65536 := Nat.mul_le_mul (by omega) hn
    exact Nat.le_trans h1 (by decide)
theorem InReach.text {H : Type} {t : TypeId} {s : ByteArray} (h : InReach (H := H) t (.lit (.string s.data.toList))) : s.size ≤ reachBytes := by
  rcases h with h | h
  · have := h s.data.toList.length (by simp [DataW.weights])
    simpa using this
  · simp only [Rows.uptoBulk, Array.length_toList] at h
    have e : s.size = s.data.size := rfl
    simp only [reachBytes]
    omega
theorem open_rows {H : Type} {enc : TypeId × Value → H} {W : World} {base fuel : Nat} {v : Value} {y : DataW H × List MemPlace} {t e : TypeId} {n : Nat} (ht : Try.prog.underlying t = some (.slice e)) (hn : Try.prog.cellsOf e = n) (hn0 : 0 < n)
    {α : Type} (z : α) (cells : α → List Value) (good : α → DataW H → Prop)
    (hrd : ∀ fuel cs y, DataW.trod enc Try.prog W base (fun _ => true) true fuel e cs = some y → InReach e y.1 → ∃ x, cs = cells x ∧ good x y.1)
    (hf : DataW.trod enc Try.prog W base (fun _ => true) true fuel t [v] = some y) (hr : InReach t y.1) :
    ∃ (a : Option Addr) (cap : Nat) (xs : List α), v = .slice a xs.length cap ∧ xs.length ≤ cap ∧ xs.length ≤ 9223372036854775807 ∧ RowC z cells n W a xs ∧
      (xs = [] ∨ ∃ el sp, y.1 = .slice el sp ∧ el.length = xs.length ∧ ∀ i, i < xs.length → ∃ d, el[i]? = some d ∧ good (xs[i]?.getD z) d) := by
  rcases open_slice ht hf with ⟨e3, _⟩ | ⟨a, len, cap, m, n', D, Pl, e3, hb, hlc, hm, hmm, hxx, hel⟩
  · injection e3 with e3
    subst e3
    exact ⟨none, 0, [], rfl, by simp, by simp, fun i hi => by simp at hi, .inl rfl⟩
  · injection e3 with e3
    subst e3
    have hlm : len ≤ m := by rw [hmm]; split <;> omega
    have each : ∀ i, i < len → ∃ x : α, good x (D i) ∧ ∃ bb off, a = ⟨bb, off, none⟩ ∧ ∀ o u, (cells x)[o]? = some u → W.cell? ⟨bb, off + i * n + o, none⟩ = some u := by
      intro i hi
      obtain ⟨cs', hc, ht'⟩ := hel i (by omega)
      have hrD : InReach e (D i) := by
        rw [hxx] at hr
        exact hr.elem ht (List.mem_map.2 ⟨i, List.mem_range.2 hi, rfl⟩)
      obtain ⟨x, rfl, hg⟩ := hrd _ _ _ ht' hrD
      rw [hn] at hc
      obtain ⟨_, hl, hcell⟩ := World.cells?_some hc
      obtain ⟨bb, off, spot⟩ := a
      have hspot : spot = none := by
        obtain ⟨cs0, hc0, ht0⟩ := hel 0 (by omega)
        rw [hn] at hc0
        obtain ⟨_, hl0, hcell0⟩ := World.cells?_some hc0
        have h0 := hcell0 0 hn0
        cases hv0 : cs0[0]? with
        | none => rw [List.getElem?_eq_none_iff] at hv0; omega
        | some u =>
          rw [hv0] at h0
          have hs := World.cell?_spot h0
          clear hcell hcell0
          simpa [Addr.add] using hs
      subst hspot
      refine ⟨x, hg, bb, off, rfl, fun o u ho => ?_⟩
      have hol : o < n := by have := (List.getElem?_eq_some_iff.1 ho).1; omega
      have := hcell o hol
      rw [ho] at this
      simpa [Addr.add_lit, Nat.add_assoc] using this
    obtain ⟨f, hq⟩ := @choose_lt α ⟨z⟩ _ _ each
    have hnn : ∀ i, i < len → (((List.range len).map f)[i]?).getD z = f i := fun i hi => by simp [hi]
    refine ⟨some a, cap, (List.range len).map f, by simp, by simpa using hlc, by simp [maxLen] at hm ⊢; omega, fun i hi => ?_, .inr ⟨(List.range len).map D, (List.range (m - len)).map fun j => D (len + j), by rw [hxx], by simp, fun i hi => ?_⟩⟩
    · have hi' : i < len := by simpa using hi
      obtain ⟨hx, bb, off, e, c⟩ := hq i hi'
      rw [hnn i hi']
      exact ⟨bb, off, by rw [e], c⟩
    · have hi' : i < len := by simpa using hi
      rw [hnn i hi']
      exact ⟨D i, by simp [hi'], (hq i hi').1⟩

end Go.Proofs.Ytfafkohghgliaaa
