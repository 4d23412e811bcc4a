import Derived.Test.YtfafkohghgliaaaTuTp
import Derived.Test.YtfafkohghgliaaaTuRoom
/- A list that is written over. -/
namespace Go.Proofs.Ytfafkohghgliaaa.Tu
open Go.RowKit Go.Sort Go.Proofs.Ytfafkohghgliaaa
set_option linter.unusedVariables false
set_option linter.unusedSectionVars false
variable [DecidableEq Vl]

theorem overL_enc : ∀ n, n ≤ 4611686018427387904 → (encL (overL n)).length ≤ 9 * n := by
  intro n
  induction n with
  | zero => intro _; simp [overL, encL]
  | succ n ih =>
    intro h
    have e : overL (n + 1) = overL n ++ [overV n] := by simp [overL, List.range_succ]
    have hc := (codeV_len (v := overV n) (by constructor <;> simp [overV, vInt] <;> omega)).2
    have := ih (by omega)
    rw [e, encL_snoc, List.length_append]
    simp only [overV, vInt, List.length_nil] at hc
    show _ + (codeV (overV n)).length ≤ _
    have e2 : codeV (overV n) = codeV ⟨2, false, (n : Int) - 3, []⟩ := rfl
    rw [e2]; omega
theorem overL_tp {n : Nat} (h : n ≤ 1048577) : Tp (overL n) :=
  ⟨(overL_ok (by omega)).1, by rw [overL_len]; omega, fun v hv => by obtain ⟨i, _, rfl⟩ := List.mem_map.1 hv; simp [overV, vInt], by have := overL_enc n (by omega); omega⟩
theorem onl_below {w0 w w' : World} {g : Nat} (hb : Below w0.heap.size w0 w) (h : Onl (fun k => k = g) w w') (hg : w0.heap.size ≤ g) : Below w0.heap.size w0 w' :=
  hb.trans (h.below (fun k hk => by rw [hk]; exact hg) hb.size)
theorem RowV.onl {w w' : World} {F : Nat → Prop} {g : Nat} {xs : List Vl} (h : RowV w (some ⟨g, 0, none⟩) xs) (ho : Onl F w w') (hg : ¬ F g) : RowV w' (some ⟨g, 0, none⟩) xs := fun i hi => by
  obtain ⟨b, off, e, h0, h1, h2, h3⟩ := h i hi
  injection e with e
  injection e with e1 e2
  subst e1 e2
  exact ⟨_, _, rfl, ho.cell hg h0, ho.cell hg h1, ho.cell hg h2, ho.cell hg h3⟩
end Go.Proofs.Ytfafkohghgliaaa.Tu
