import Derived.Test.YtggmhodogfngdaaDoorGtLin
import Derived.Test.YtggmhodogfngdaaDoorGtEq
/- Request: the program's way. -/
namespace Go.Proofs.YtggmhodogfngdaaDoor.Gt
open Go.Proofs.YtggmhodogfngdaaDoor Go.Proofs.YtggmhodogfngdaaDoor.Rt Go.RowKit Go.Sort
set_option linter.unusedVariables false
set_option linter.unusedSimpArgs false

/-- what Request answers -/
def reqA (o : Og) : List Nat × Int := match lineOf 400 o with
  | some s => (s, 0)
  | none => ([], 210)
theorem neO_same (o : Og) (w : World) : (binOp .neq 27 (.agg o.cells.toArray) (.agg o.cells.toArray)).run Tryd.prog w = .ok (.bool false) w := run_ne_same _ _ _ _ _ _ _ _ _ w
theorem ofNats_inj {a b : List Nat} (ha : B8 a) (hb : B8 b) (h : ofNats a = ofNats b) : a = b := by
  rw [← nums_ofNats ha, ← nums_ofNats hb, h]
theorem neO_other {o p : Og} {N M : Nat} (ho : o.Ok N) (hp : p.Ok M) (h : o ≠ p) (w : World) : (binOp .neq 27 (.agg o.cells.toArray) (.agg p.cells.toArray)).run Tryd.prog w = .ok (.bool true) w :=
  run_ne_other _ _ _ _ _ _ _ _ _ _ _ _ _ _ _ _ _ _ w (fun e => h (by
    obtain ⟨e1, e2, e3, e4, e5, e6, e7, e8, e9⟩ := e
    obtain ⟨kd, ro, asof, back, tok, key, hi, val, lim⟩ := o
    obtain ⟨kd', ro', asof', back', tok', key', hi', val', lim'⟩ := p
    have f5 := ofNats_inj ho.tok hp.tok e5
    have f6 := ofNats_inj ho.key hp.key e6
    have f7 := ofNats_inj ho.hi hp.hi e7
    have f8 := ofNats_inj ho.val hp.val e8
    simp only at e1 e2 e3 e4 f5 f6 f7 f8 e9
    subst e1 e2 e3 e4 f5 f6 f7 f8 e9
    rfl))
theorem plin_len {o : Og} {N : Nat} (hk : o.Ok N) : (plin o).length ≤ 3 * N + 100 := by
  have h1 := (wordL_len o.tok).2
  have h2 := (wordL_len o.key).2
  have h3 := (wordL_len o.hi).2
  have h4 := (wordL_len o.val).2
  have h5 := decI_le hk.lim0 hk.lim1
  have h6 := hk.len
  unfold plin modeL scanL
  repeat' split
  all_goals simp
  all_goals omega
/-- what is read of a line is an operation -/
theorem par_ok {s : List Nat} (h8 : B8 s) (hl : s.length ≤ 400) : (parA s).1.Ok 400 := by
  unfold parA
  cases h : opOf 400 s with
  | none => exact ⟨b8_nil, b8_nil, b8_nil, b8_nil, by simp [Og.zero], by simp [Og.zero], by simp [Og.zero], by simp [Og.zero], by simp [Og.zero]⟩
  | some o =>
    obtain ⟨h1, h2, h3, h4, h5⟩ := line_op h8 h
    obtain ⟨p1, p2, p3⟩ := preq_yes h1 h2 h3 h4 h5
    have hb : 0 ≤ o.lim ∧ o.lim ≤ 9223372036854775807 ∧ 1 ≤ o.kd ∧ o.kd ≤ 7 := by
      unfold lineOf at h1
      cases hr : reqF o with
      | none => rw [hr] at h1; cases h1
      | some fs =>
        unfold reqF at hr
        repeat' split at hr
        all_goals first
          | cases hr; done
          | (rename_i hc; simp only at hc; omega)
          | (simp_all; omega)
          | simp_all
    exact ⟨h2, h3, h4, h5, by unfold lensO at p1; exact p1, by show _ ≤ o.lim; omega, hb.2.1, by show _ ≤ o.kd; omega, by show o.kd ≤ _; omega⟩
end Go.Proofs.YtggmhodogfngdaaDoor.Gt
