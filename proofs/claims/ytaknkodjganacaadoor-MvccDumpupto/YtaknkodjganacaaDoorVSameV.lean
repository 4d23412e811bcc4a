import Derived.Test.YtaknkodjganacaaDoorVRowsV
import Derived.Test.YtaknkodjganacaaDoorVSame
/- sameVersions. -/
namespace Go.Proofs.YtaknkodjganacaaDoor.Vs
open Go.RowKit Go.Sort
set_option linter.unusedVariables false

def eqK (x y : Kv) : Bool := decide (x.1 = y.1) && decide (x.2.s.a = y.2.s.a) && decide (x.2.s.b = y.2.s.b) && decide (x.2.s.c = y.2.s.c) && (x.2.del == y.2.del) && decide (x.2.val = y.2.val)
theorem eqK_iff (x y : Kv) : eqK x y = true ↔ x = y := by
  obtain ⟨k, ⟨a, b, c⟩, d, v⟩ := x
  obtain ⟨k', ⟨a', b', c'⟩, d', v'⟩ := y
  simp [eqK, Prod.ext_iff]
  constructor
  · rintro ⟨⟨⟨⟨⟨h1, h2⟩, h3⟩, h4⟩, h5⟩, h6⟩; exact ⟨h1, ⟨h2, h3, h4⟩, h5, h6⟩
  · rintro ⟨h1, ⟨h2, h3, h4⟩, h5, h6⟩; exact ⟨⟨⟨⟨⟨h1, h2⟩, h3⟩, h4⟩, h5⟩, h6⟩
theorem run_neVer (x y : Kv) (w : World) : (binOp .neq 46 (vv x.1 x.2) (vv y.1 y.2)).run Tryd.prog w = .ok (.bool (!eqK x y)) w := by
  obtain ⟨k, ⟨a, b, c⟩, d, v⟩ := x
  obtain ⟨k', ⟨a', b', c'⟩, d', v'⟩ := y
  by_cases h1 : k = k'
  · by_cases h2 : a = a'
    · by_cases h3 : b = b'
      · by_cases h4 : c = c'
        · by_cases h5 : d = d'
          · by_cases h6 : v = v'
            · subst h1 h2 h3 h4 h5 h6; simp [eqK, go_sem, Tryd.underlying46]
            · have q6 := toList_beq' (decide_eq_false h6)
              subst h1 h2 h3 h4 h5; simp [eqK, go_sem, Tryd.underlying46, h6, q6]
          · subst h1 h2 h3 h4; simp [eqK, go_sem, Tryd.underlying46, h5]
        · subst h1 h2 h3; simp [eqK, go_sem, Tryd.underlying46, h4]
      · subst h1 h2; simp [eqK, go_sem, Tryd.underlying46, h3]
    · subst h1; simp [eqK, go_sem, Tryd.underlying46, h2]
  · have q1 := toList_beq' (decide_eq_false h1)
    simp [eqK, go_sem, Tryd.underlying46, h1, q1]
/-- the first k are alike -/
def allK (xs ys : List Kv) (k : Nat) : Bool := allB (fun i => eqK (nthK xs i) (nthK ys i)) k
theorem allK_eq {xs ys : List Kv} (h : xs.length = ys.length) (ha : allK xs ys xs.length = true) : xs = ys := by
  have hi : ∀ n i, i < n → allB (fun i => eqK (nthK xs i) (nthK ys i)) n = true → nthK xs i = nthK ys i := by
    intro n
    induction n with
    | zero => intro i hi; omega
    | succ n ih =>
      intro i hi ha
      rw [allB, Bool.and_eq_true] at ha
      by_cases e : i = n
      · subst e; exact (eqK_iff _ _).1 ha.2
      · exact ih i (by omega) ha.1
  apply List.ext_getElem h
  intro i h1 h2
  have := hi _ i h1 ha
  simpa [nthK, h1, h2] using this
set_option maxHeartbeats 1000000 in
theorem sameV_is {a b : Option Addr} {c d : Nat} {xs ys : List Kv} {w : World} {u : Bool} (hu : u = true ↔ xs = ys) (h : RowV w a xs) (k : RowV w b ys) (hl : xs.length ≤ 1152921504606846976) (hl2 : ys.length ≤ 1152921504606846976) :
    Calls Tryd.prog 25 #[.slice a xs.length c, .slice b ys.length d] w fun e w' => e = .returned (.bool u) ∧ Below w.heap.size w w' := by
  have HU := hid hu
  clear hu
  by_cases hne : xs.length = ys.length
  · have q0 : ((xs.length : Int) != (ys.length : Int)) = false := by simp [hne]
    obtain ⟨n, hn⟩ : ∃ n, n = xs.length := ⟨_, rfl⟩
    have hn2 : n = ys.length := hn.trans hne
    have HA := hid (show _ ∧ _ ∧ _ ∧ _ from ⟨h, k, hn, hn2⟩)
    rw [← hn, ← hn2] at q0
    rw [← hn] at hl ⊢
    rw [← hn2]
    clear h k hn hn2 hne hl2
    go_enter Tryd.func25, Tryd.ntmps25
    go_wp2_with fail
    go_loopg [5] n (fun g s5 wr => ∃ i : Nat, i ≤ n ∧ g = n - i ∧ s5 = .int .i64 i ∧ Hid (Below w.heap.size w wr) ∧ Hid (allK xs ys i = true))
    case atStart => exact ⟨0, by omega, by omega, rfl, Below.refl _ _, rfl⟩
    case round =>
      obtain ⟨i, hi, rfl, rfl, HB, HP⟩ := hrel
      by_cases hlt : i < n
      · obtain ⟨ba, oa, ea, va⟩ := (HA.out.1.later HB.out) i (by have := HA.out.2.2.1; omega)
        obtain ⟨bb, ob, eb, vb⟩ := (HA.out.2.1.later HB.out) i (by have := HA.out.2.2.2; omega)
        subst ea eb
        obtain ⟨x, hx⟩ : ∃ x, x = nthK xs i := ⟨_, rfl⟩
        obtain ⟨y, hy⟩ : ∃ y, y = nthK ys i := ⟨_, rfl⟩
        rw [← hx] at va
        rw [← hy] at vb
        obtain ⟨q, hu⟩ : ∃ q, eqK x y = q := ⟨_, rfl⟩
        have HV : Hid (eqK (nthK xs i) (nthK ys i) = q) := by show _ = _; rw [← hx, ← hy]; exact hu
        have hrun := fun w => run_neVer x y w
        rw [hu] at hrun
        clear hx hy hu
        obtain ⟨x1, x2, x3, x4⟩ := x
        obtain ⟨y1, y2, y3, y4⟩ := y
        obtain ⟨a0, a1, a2, a3, a4, a5⟩ := va
        obtain ⟨b0, b1, b2, b3, b4, b5⟩ := vb
        simp only at hrun a0 a1 a2 a3 a4 a5 b0 b1 b2 b3 b4 b5
        have ka0 := cell_regrown a0; have ka1 := cell_regrown a1; have ka2 := cell_regrown a2; have ka3 := cell_regrown a3; have ka4 := cell_regrown a4; have ka5 := cell_regrown a5
        have kb0 := cell_regrown b0; have kb1 := cell_regrown b1; have kb2 := cell_regrown b2; have kb3 := cell_regrown b3; have kb4 := cell_regrown b4; have kb5 := cell_regrown b5
        cases q with
        | true =>
          go_wp2_with fail
          go_quiet (fail)
          go_wp2_with fail
          go_roundg (n - (i + 1))
          case measure => omega
          case rel => exact ⟨i + 1, by omega, rfl, by go_num, Below.drewN HB.out _, allB_yes HP.out HV.out⟩
        | false =>
          have HE : Hid (u = false) := by
            show _ = _
            cases hu : u with
            | false => rfl
            | true => have := HV.out; rw [HU.out.1 hu] at this; rw [(eqK_iff _ _).2 rfl] at this; cases this
          go_wp2_with fail
          go_quiet (fail)
          go_wp2_with fail
          go_ret
          exact ⟨ret_bool (by rw [HE.out]), Below.drewN HB.out _⟩
      · obtain rfl : i = n := by omega
        have HE : Hid (u = true) := HU.out.2 (allK_eq (HA.out.2.2.1.symm.trans HA.out.2.2.2) (by rw [← HA.out.2.2.1]; exact HP.out))
        go_wp2_with fail
        go_ret
        exact ⟨ret_bool (by rw [HE.out]), HB.out⟩
  · have q0 : ((xs.length : Int) != (ys.length : Int)) = true := by simp; omega
    have HE : Hid (u = false) := by
      show _ = _
      cases hu : u with
      | false => rfl
      | true => exact absurd (congrArg List.length (HU.out.1 hu)) hne
    clear hne
    go_enter Tryd.func25, Tryd.ntmps25
    go_wp2_with fail
    go_ret
    exact ⟨ret_bool (by rw [HE.out]), by (repeat (first | exact Below.refl _ _ | assumption | refine Below.drew ?_ | refine Below.al ?_ _ | refine Below.setCell ?_ (by first | exact Nat.le_refl _ | (simp; omega) | (simp; done)) _ | refine Below.on ?_ (by assumption)))⟩
end Go.Proofs.YtaknkodjganacaaDoor.Vs
