import Derived.Test.YtaknkodjganacaaDoorVRoom
/- samePairs. -/
namespace Go.Proofs.YtaknkodjganacaaDoor.Vs
open Go.RowKit Go.Sort
set_option linter.unusedVariables false

def eqP (x y : T2) : Bool := decide (x = y)
theorem run_nePair (x y : T2) (w : World) : (binOp .neq 61 (.agg #[.string x.1, .string x.2]) (.agg #[.string y.1, .string y.2])).run Tryd.prog w = .ok (.bool (!eqP x y)) w := by
  obtain ⟨a, b⟩ := x
  obtain ⟨c, d⟩ := y
  by_cases h1 : a = c
  · by_cases h2 : b = d
    · subst h1 h2; simp [eqP, go_sem, Tryd.underlying61]
    · have q2 := toList_beq' (decide_eq_false h2)
      subst h1; simp [eqP, go_sem, Tryd.underlying61, h2, q2]
  · have q1 := toList_beq' (decide_eq_false h1)
    simp [eqP, go_sem, Tryd.underlying61, h1, q1]
/-- the first k are alike -/
def allP (xs ys : Prs) (k : Nat) : Bool := allB (fun i => eqP (nth2 xs i) (nth2 ys i)) k
theorem allP_eq {xs ys : Prs} (h : xs.length = ys.length) (ha : allP xs ys xs.length = true) : xs = ys := by
  have hi : ∀ n i, i < n → allB (fun i => eqP (nth2 xs i) (nth2 ys i)) n = true → nth2 xs i = nth2 ys i := by
    intro n
    induction n with
    | zero => intro i hi; omega
    | succ n ih =>
      intro i hi ha
      rw [allB, Bool.and_eq_true] at ha
      by_cases e : i = n
      · subst e; simpa [eqP] using ha.2
      · exact ih i (by omega) ha.1
  apply List.ext_getElem h
  intro i h1 h2
  have := hi _ i h1 ha
  simpa [nth2, h1, h2] using this
set_option maxHeartbeats 1000000 in
theorem samePairs_is {a b : Option Addr} {c d : Nat} {xs ys : Prs} {w : World} {u : Bool} (hu : decide (xs = ys) = u) (h : Row2 w a xs) (k : Row2 w b ys) (hl : xs.length ≤ 1152921504606846976) (hl2 : ys.length ≤ 1152921504606846976) :
    Calls Tryd.prog 16 #[.slice a xs.length c, .slice b ys.length d] w fun e w' => e = .returned (.bool u) ∧ Below w.heap.size w w' := by
  subst hu
  by_cases hne : xs.length = ys.length
  · have q0 : ((xs.length : Int) != (ys.length : Int)) = false := by simp [hne]
    obtain ⟨n, hn⟩ : ∃ n, n = xs.length := ⟨_, rfl⟩
    have hn2 : n = ys.length := hn.trans hne
    have HA := hid (show _ ∧ _ ∧ _ ∧ _ from ⟨h, k, hn, hn2⟩)
    rw [← hn, ← hn2] at q0
    rw [← hn] at hl ⊢
    rw [← hn2]
    clear h k hn hn2 hne hl2
    go_enter Tryd.func16, Tryd.ntmps16
    go_wp2_with fail
    go_loopg [5] n (fun g s5 wr => ∃ i : Nat, i ≤ n ∧ g = n - i ∧ s5 = .int .i64 i ∧ Hid (Below w.heap.size w wr) ∧ Hid (allP xs ys i = true))
    case atStart => exact ⟨0, by omega, by omega, rfl, Below.refl _ _, rfl⟩
    case round =>
      obtain ⟨i, hi, rfl, rfl, HB, HP⟩ := hrel
      by_cases hlt : i < n
      · obtain ⟨ba, oa, ea, a0, a1⟩ := (HA.out.1.later HB.out) i (by have := HA.out.2.2.1; omega)
        obtain ⟨bb, ob, eb, b0, b1⟩ := (HA.out.2.1.later HB.out) i (by have := HA.out.2.2.2; omega)
        subst ea eb
        obtain ⟨x, hx⟩ : ∃ x, x = nth2 xs i := ⟨_, rfl⟩
        obtain ⟨y, hy⟩ : ∃ y, y = nth2 ys i := ⟨_, rfl⟩
        rw [← hx] at a0 a1
        rw [← hy] at b0 b1
        obtain ⟨u, hu⟩ : ∃ u, eqP x y = u := ⟨_, rfl⟩
        have HU : Hid (eqP (nth2 xs i) (nth2 ys i) = u) := by show _ = _; rw [← hx, ← hy]; exact hu
        have hrun := fun w => run_nePair x y w
        rw [hu] at hrun
        have ka0 := cell_regrown a0; have ka1 := cell_regrown a1; have kb0 := cell_regrown b0; have kb1 := cell_regrown b1
        clear hx hy hu
        obtain ⟨x1, x2⟩ := x
        obtain ⟨y1, y2⟩ := y
        simp only at hrun a0 a1 b0 b1 ka0 ka1 kb0 kb1
        cases u with
        | true =>
          go_wp2_with fail
          go_quiet (fail)
          go_wp2_with fail
          go_roundg (n - (i + 1))
          case measure => omega
          case rel => exact ⟨i + 1, by omega, rfl, by go_num, Below.drewN HB.out _, allB_yes HP.out HU.out⟩
        | false =>
          have HE : Hid (decide (xs = ys) = false) := decide_eq_false fun e => by have := HU.out; rw [e] at this; simp [eqP] at this
          go_wp2_with fail
          go_quiet (fail)
          go_wp2_with fail
          go_ret
          exact ⟨ret_bool (by rw [HE.out]), Below.drewN HB.out _⟩
      · obtain rfl : i = n := by omega
        have HE : Hid (xs = ys) := allP_eq (HA.out.2.2.1.symm.trans HA.out.2.2.2) (by rw [← HA.out.2.2.1]; exact HP.out)
        go_wp2_with fail
        go_ret
        exact ⟨ret_bool (by rw [HE.out]; simp), HB.out⟩
  · have q0 : ((xs.length : Int) != (ys.length : Int)) = true := by simp; omega
    have HE : Hid (decide (xs = ys) = false) := decide_eq_false fun e => hne (by rw [e])
    clear hne
    go_enter Tryd.func16, Tryd.ntmps16
    go_wp2_with fail
    go_ret
    exact ⟨ret_bool (by rw [HE.out]), by (repeat (first | exact Below.refl _ _ | assumption | refine Below.drew ?_ | refine Below.al ?_ _ | refine Below.setCell ?_ (by first | exact Nat.le_refl _ | (simp; omega) | (simp; done)) _ | refine Below.on ?_ (by assumption)))⟩
end Go.Proofs.YtaknkodjganacaaDoor.Vs
