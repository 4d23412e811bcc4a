import Derived.Test.YtfafkohghgliaaaTuTp
import Derived.BigQuiet
import Derived.Lib.QuietBelow
import Derived.Deep.RegionWith
import Derived.Deep.RegionHeld3
/- How the program compares two values. -/
namespace Go.Proofs.Ytfafkohghgliaaa.Tu
open Go.RowKit Go.Sort Go.Proofs.Ytfafkohghgliaaa
set_option linter.unusedVariables false
set_option linter.unusedSectionVars false
variable [DecidableEq Vl]

def cmp3 (a b : Int) : Int := if a < b then -1 else if b < a then 1 else 0
def cmpF (a b : Bool) : Int := if a = b then 0 else if b then -1 else 1
def cmpL (a b : List Nat) : Int := if ltL a b then -1 else if ltL b a then 1 else 0
def or2 (a b : Int) : Int := if a = 0 then b else a
def cmpV (x y : Vl) : Int := or2 (cmp3 x.kd y.kd) (or2 (cmpF x.fl y.fl) (or2 (cmp3 x.n y.n) (cmpL x.s y.s)))
theorem cmp3_zero {a b : Int} : cmp3 a b = 0 ↔ a = b := by
  unfold cmp3
  split
  · omega
  · split <;> omega
theorem cmpV_is (x y : Vl) : cmpV x y = if bef x y then -1 else if bef y x then 1 else 0 := by
  obtain ⟨k, f, n, s⟩ := x
  obtain ⟨k', f', n', s'⟩ := y
  unfold cmpV
  simp only
  by_cases h1 : k = k'
  · subst h1
    rw [show cmp3 k k = 0 from cmp3_zero.2 rfl]
    by_cases h2 : f = f'
    · subst h2
      by_cases h3 : n = n'
      · subst h3
        have e1 : bef ⟨k, f, n, s⟩ ⟨k, f, n, s'⟩ = ltL s s' := by simp [bef]
        have e2 : bef ⟨k, f, n, s'⟩ ⟨k, f, n, s⟩ = ltL s' s := by simp [bef]
        rw [e1, e2, show cmp3 n n = 0 from cmp3_zero.2 rfl]
        simp [or2, cmpF, cmpL]
      · have e1 : bef ⟨k, f, n, s⟩ ⟨k, f, n', s'⟩ = decide (n < n') := by simp [bef, h3]
        have e2 : bef ⟨k, f, n', s'⟩ ⟨k, f, n, s⟩ = decide (n' < n) := by have h3' : ¬ n' = n := fun e => h3 e.symm; simp [bef, h3']
        rw [e1, e2]
        have hz : cmp3 n n' ≠ 0 := fun e => h3 (cmp3_zero.1 e)
        simp [or2, cmpF, hz]
        unfold cmp3
        rfl
    · have e1 : bef ⟨k, f, n, s⟩ ⟨k, f', n', s'⟩ = f' := by simp [bef, h2]
      have e2 : bef ⟨k, f', n', s'⟩ ⟨k, f, n, s⟩ = f := by have h2' : ¬ f' = f := fun e => h2 e.symm; simp [bef, h2']
      rw [e1, e2]
      cases f <;> cases f' <;> first | exact absurd rfl h2 | simp [or2, cmpF]
  · have e1 : bef ⟨k, f, n, s⟩ ⟨k', f', n', s'⟩ = decide (k < k') := by simp [bef, h1]
    have e2 : bef ⟨k', f', n', s'⟩ ⟨k, f, n, s⟩ = decide (k' < k) := by have h1' : ¬ k' = k := fun e => h1 e.symm; simp [bef, h1']
    rw [e1, e2]
    have hz : cmp3 k k' ≠ 0 := fun e => h1 (cmp3_zero.1 e)
    simp [or2, hz]
    unfold cmp3
    rfl
theorem nanK_is (a : Int) (w : World) : Calls Try.prog 30 #[.int .i64 a] w fun e w' => e = .returned (.bool false) ∧ Below w.heap.size w w' := by
  have h : ((a : Int) != a) = false := by simp
  go_enter Try.func30, Try.ntmps30
  go_wp2_with fail
  go_ret
  exact ⟨rfl, Below.refl _ _⟩
set_option maxHeartbeats 1000000 in
theorem cmpK_is (a b : Int) (w : World) : Calls Try.prog 20 #[.int .i64 a, .int .i64 b] w fun e w' => e = .returned (.int .i64 (cmp3 a b)) ∧ Below w.heap.size w w' := by
  obtain ⟨v, d1, d2, d3, hv, hc⟩ : ∃ v, ∃ d1 d2 : Bool, ∃ d3 : Bool, cmp3 a b = v ∧ (decide (a < b) = d1 ∧ decide (a > b) = d2 ∧ decide (b < a) = d3 ∧ ((d1 = true ∧ v = -1) ∨ (d1 = false ∧ d2 = true ∧ d3 = true ∧ v = 1) ∨ (d1 = false ∧ d2 = false ∧ d3 = false ∧ v = 0))) := by
    refine ⟨_, _, _, _, rfl, rfl, rfl, rfl, ?_⟩
    unfold cmp3
    by_cases h1 : a < b
    · exact .inl ⟨decide_eq_true h1, by rw [if_pos h1]⟩
    · by_cases h2 : b < a
      · exact .inr (.inl ⟨decide_eq_false h1, decide_eq_true h2, decide_eq_true h2, by rw [if_neg h1, if_pos h2]⟩)
      · exact .inr (.inr ⟨decide_eq_false h1, decide_eq_false h2, decide_eq_false h2, by rw [if_neg h1, if_neg h2]⟩)
  rw [hv]
  clear hv
  obtain ⟨e1, e2, e3, hc⟩ := hc
  have HN := hid (fun W => nanK_is a W)
  have HM := hid (fun W => nanK_is b W)
  rcases hc with ⟨rfl, rfl⟩ | ⟨rfl, rfl, rfl, rfl⟩ | ⟨rfl, rfl, rfl, rfl⟩
  all_goals
    go_enter Try.func20, Try.ntmps20
    go_wp2_with fail
    refine (HN.out _).mono ?_
    rintro e w1 ⟨rfl, hb1⟩
    have HB1 := hid hb1
    clear hb1
    go_wp2_with fail
    refine (HM.out _).mono ?_
    rintro e w2 ⟨rfl, hb2⟩
    have HB2 := hid (Below.on HB1.out hb2)
    clear hb2
    go_wp2_with fail
    go_ret
    exact ⟨rfl, HB2.out⟩
theorem nanN_is (a : Int) (w : World) : Calls Try.prog 31 #[.int .i64 a] w fun e w' => e = .returned (.bool false) ∧ Below w.heap.size w w' := by
  have h : ((a : Int) != a) = false := by simp
  go_enter Try.func31, Try.ntmps31
  go_wp2_with fail
  go_ret
  exact ⟨rfl, Below.refl _ _⟩
set_option maxHeartbeats 1000000 in
theorem cmpN_is (a b : Int) (w : World) : Calls Try.prog 22 #[.int .i64 a, .int .i64 b] w fun e w' => e = .returned (.int .i64 (cmp3 a b)) ∧ Below w.heap.size w w' := by
  obtain ⟨v, d1, d2, d3, hv, hc⟩ : ∃ v, ∃ d1 d2 : Bool, ∃ d3 : Bool, cmp3 a b = v ∧ (decide (a < b) = d1 ∧ decide (a > b) = d2 ∧ decide (b < a) = d3 ∧ ((d1 = true ∧ v = -1) ∨ (d1 = false ∧ d2 = true ∧ d3 = true ∧ v = 1) ∨ (d1 = false ∧ d2 = false ∧ d3 = false ∧ v = 0))) := by
    refine ⟨_, _, _, _, rfl, rfl, rfl, rfl, ?_⟩
    unfold cmp3
    by_cases h1 : a < b
    · exact .inl ⟨decide_eq_true h1, by rw [if_pos h1]⟩
    · by_cases h2 : b < a
      · exact .inr (.inl ⟨decide_eq_false h1, decide_eq_true h2, decide_eq_true h2, by rw [if_neg h1, if_pos h2]⟩)
      · exact .inr (.inr ⟨decide_eq_false h1, decide_eq_false h2, decide_eq_false h2, by rw [if_neg h1, if_neg h2]⟩)
  rw [hv]
  clear hv
  obtain ⟨e1, e2, e3, hc⟩ := hc
  have HN := hid (fun W => nanN_is a W)
  have HM := hid (fun W => nanN_is b W)
  rcases hc with ⟨rfl, rfl⟩ | ⟨rfl, rfl, rfl, rfl⟩ | ⟨rfl, rfl, rfl, rfl⟩
  all_goals
    go_enter Try.func22, Try.ntmps22
    go_wp2_with fail
    refine (HN.out _).mono ?_
    rintro e w1 ⟨rfl, hb1⟩
    have HB1 := hid hb1
    clear hb1
    go_wp2_with fail
    refine (HM.out _).mono ?_
    rintro e w2 ⟨rfl, hb2⟩
    have HB2 := hid (Below.on HB1.out hb2)
    clear hb2
    go_wp2_with fail
    go_ret
    exact ⟨rfl, HB2.out⟩
theorem nanS_is (a : List Nat) (w : World) : Calls Try.prog 32 #[.string (ofNats a)] w fun e w' => e = .returned (.bool false) ∧ Below w.heap.size w w' := by
  have h : ((ofNats a).toList == (ofNats a).toList) = true := by simp
  go_enter Try.func32, Try.ntmps32
  go_wp2_with fail
  go_ret
  exact ⟨rfl, Below.refl _ _⟩
set_option maxHeartbeats 1000000 in
theorem cmpS_is {a b : List Nat} (ha : B8 a) (hb : B8 b) (w : World) : Calls Try.prog 23 #[.string (ofNats a), .string (ofNats b)] w fun e w' => e = .returned (.int .i64 (cmpL a b)) ∧ Below w.heap.size w w' := by
  obtain ⟨v, d1, d2, d3, hv, hc⟩ : ∃ v, ∃ d1 d2 : Bool, ∃ d3 : Bool, cmpL a b = v ∧ (Op.bytesLess (ofNats a).toList (ofNats b).toList = d1 ∧ Op.bytesLess (ofNats b).toList (ofNats a).toList = d2 ∧ ((ofNats a).toList == (ofNats b).toList) = d3 ∧ ((d1 = true ∧ v = -1) ∨ (d1 = false ∧ d2 = true ∧ d3 = false ∧ v = 1) ∨ (d1 = false ∧ d2 = false ∧ d3 = true ∧ v = 0))) := by
    refine ⟨_, _, _, _, rfl, rfl, rfl, rfl, ?_⟩
    rw [bless ha hb, bless hb ha, beq_nats ha hb]
    unfold cmpL
    cases h1 : ltL a b with
    | true => exact .inl ⟨by simp, by simp⟩
    | false =>
      cases h2 : ltL b a with
      | true => exact .inr (.inl ⟨by simp, by simp, decide_eq_false (fun e => by rw [e, ltL_irr] at h2; cases h2), by simp⟩)
      | false => exact .inr (.inr ⟨by simp, by simp, decide_eq_true (ltL_tri _ _ h1 h2), by simp⟩)
  rw [hv]
  clear hv
  obtain ⟨e1, e2, e3, hc⟩ := hc
  have HN := hid (fun W => nanS_is a W)
  have HM := hid (fun W => nanS_is b W)
  rcases hc with ⟨rfl, rfl⟩ | ⟨rfl, rfl, rfl, rfl⟩ | ⟨rfl, rfl, rfl, rfl⟩
  all_goals
    go_enter Try.func23, Try.ntmps23
    go_wp2_with fail
    refine (HN.out _).mono ?_
    rintro e w1 ⟨rfl, hb1⟩
    have HB1 := hid hb1
    clear hb1
    go_wp2_with fail
    refine (HM.out _).mono ?_
    rintro e w2 ⟨rfl, hb2⟩
    have HB2 := hid (Below.on HB1.out hb2)
    clear hb2
    go_wp2_with fail
    go_ret
    exact ⟨rfl, HB2.out⟩
theorem cmpF_is (a b : Bool) (w : World) : Calls Try.prog 21 #[.bool a, .bool b] w fun e w' => e = .returned (.int .i64 (cmpF a b)) ∧ Below w.heap.size w w' := by
  cases a <;> cases b
  all_goals
    go_enter Try.func21, Try.ntmps21
    go_wp2_with fail
    go_ret
    exact ⟨rfl, Below.refl _ _⟩
set_option maxHeartbeats 1000000 in
theorem or4_is {w : World} {g : Nat} {a b c d v : Int} (hv : or2 a (or2 b (or2 c d)) = v) (k0 : w.cell? ⟨g, 0, none⟩ = some (.int .i64 a)) (k1 : w.cell? ⟨g, 1, none⟩ = some (.int .i64 b)) (k2 : w.cell? ⟨g, 2, none⟩ = some (.int .i64 c)) (k3 : w.cell? ⟨g, 3, none⟩ = some (.int .i64 d)) :
    Calls Try.prog 19 #[.slice (some ⟨g, 0, none⟩) 4 4] w fun e w' => e = .returned (.int .i64 v) ∧ Below w.heap.size w w' := by
  by_cases h0 : a = 0
  · have n0 : (a != 0) = false := by simp [h0]
    by_cases h1 : b = 0
    · have n1 : (b != 0) = false := by simp [h1]
      by_cases h2 : c = 0
      · have n2 : (c != 0) = false := by simp [h2]
        by_cases h3 : d = 0
        · have n3 : (d != 0) = false := by simp [h3]
          obtain rfl : (0 : Int) = v := by rw [← hv]; simp [or2, h0, h1, h2, h3]
          clear hv h0 h1 h2 h3
          go_enter Try.func19, Try.ntmps19
          go_wp2_with fail
          refine wp_loop_rounds 5 ?_
          rw [rounds_succ]
          go_wp2_with fail
          rw [rounds_succ]
          go_wp2_with fail
          rw [rounds_succ]
          go_wp2_with fail
          rw [rounds_succ]
          go_wp2_with fail
          rw [rounds_succ]
          go_wp2_with fail
          go_ret
          exact ⟨rfl, Below.refl _ _⟩
        · have n3 : (d != 0) = true := by simp [h3]
          obtain rfl : d = v := by rw [← hv]; simp [or2, h0, h1, h2]
          clear hv h0 h1 h2 h3
          go_enter Try.func19, Try.ntmps19
          go_wp2_with fail
          refine wp_loop_rounds 5 ?_
          rw [rounds_succ]
          go_wp2_with fail
          rw [rounds_succ]
          go_wp2_with fail
          rw [rounds_succ]
          go_wp2_with fail
          rw [rounds_succ]
          go_wp2_with fail
          go_ret
          exact ⟨rfl, Below.refl _ _⟩
      · have n2 : (c != 0) = true := by simp [h2]
        obtain rfl : c = v := by rw [← hv]; simp [or2, h0, h1, h2]
        clear hv h0 h1 h2
        go_enter Try.func19, Try.ntmps19
        go_wp2_with fail
        refine wp_loop_rounds 5 ?_
        rw [rounds_succ]
        go_wp2_with fail
        rw [rounds_succ]
        go_wp2_with fail
        rw [rounds_succ]
        go_wp2_with fail
        go_ret
        exact ⟨rfl, Below.refl _ _⟩
    · have n1 : (b != 0) = true := by simp [h1]
      obtain rfl : b = v := by rw [← hv]; simp [or2, h0, h1]
      clear hv h0 h1
      go_enter Try.func19, Try.ntmps19
      go_wp2_with fail
      refine wp_loop_rounds 5 ?_
      rw [rounds_succ]
      go_wp2_with fail
      rw [rounds_succ]
      go_wp2_with fail
      go_ret
      exact ⟨rfl, Below.refl _ _⟩
  · have n0 : (a != 0) = true := by simp [h0]
    obtain rfl : a = v := by rw [← hv]; simp [or2, h0]
    clear hv h0
    go_enter Try.func19, Try.ntmps19
    go_wp2_with fail
    refine wp_loop_rounds 5 ?_
    rw [rounds_succ]
    go_wp2_with fail
    go_ret
    exact ⟨rfl, Below.refl _ _⟩
end Go.Proofs.Ytfafkohghgliaaa.Tu
