import Derived.Test.YtfafkohghgliaabDoorTuRefV
/- Law 25's begins. -/
namespace Go.Proofs.YtfafkohghgliaabDoor.Tu
open Go.RowKit Go.Sort Go.Proofs.YtfafkohghgliaabDoor
set_option linter.unusedVariables false
set_option linter.unusedSectionVars false
variable [DecidableEq Vl]

def begB (t p : List Vl) : Bool := decide (p.length ≤ t.length) && decide (t.take p.length = p)
theorem begB_iff {t p : List Vl} : begB t p = true ↔ ∃ q, t = p ++ q := by
  unfold begB
  rw [Bool.and_eq_true, decide_eq_true_eq, decide_eq_true_eq]
  constructor
  · rintro ⟨h, e⟩
    exact ⟨t.drop p.length, by rw [← e, List.length_take, Nat.min_eq_left h, List.take_append_drop]⟩
  · rintro ⟨q, rfl⟩
    simp
theorem RowV.take {w : World} {a : Option Addr} {t : List Vl} (h : RowV w a t) (n : Nat) : RowV w a (t.take n) := fun i hi => by
  have hi' : i < n ∧ i < t.length := by rw [List.length_take] at hi; omega
  have e : nthV (t.take n) i = nthV t i := by simp [nthV, hi'.1]
  rw [e]
  exact h i hi'.2
set_option maxHeartbeats 4000000 in
theorem begins_is {a b : Option Addr} {c d : Nat} {t p : List Vl} {w : World} (h : RowV w a t) (k : RowV w b p) (ho : OkT t) (hp : OkT p) (hc : t.length ≤ c) (hl : t.length ≤ 4611686018427387904) (hl2 : p.length ≤ 4611686018427387904) :
    Calls Tryd.prog 16 #[.slice a t.length c, .slice b p.length d] w fun e w' => e = .returned (.bool (begB t p)) ∧ Below w.heap.size w w' := by
  by_cases hle : p.length ≤ t.length
  · have HS := hid (refsame_is (c := c) (d := d) (xs := t.take p.length) (ys := p) (u := decide (t.take p.length = p)) rfl (h.take _) k (fun v hv => ho v (List.mem_of_mem_take hv)) hp (by rw [List.length_take]; omega) hl2)
    have e1 : (t.take p.length).length = p.length := by rw [List.length_take]; omega
    rw [e1] at HS
    have HB : Hid (begB t p = decide (t.take p.length = p)) := by show _ = _; unfold begB; rw [decide_eq_true hle, Bool.true_and]
    obtain ⟨u, hu⟩ : ∃ u, u = decide (t.take p.length = p) := ⟨_, rfl⟩
    rw [← hu] at HS HB
    obtain ⟨n, hn⟩ : ∃ n, n = t.length := ⟨_, rfl⟩
    obtain ⟨m, hm⟩ : ∃ m, m = p.length := ⟨_, rfl⟩
    rw [← hn] at hle hc hl ⊢
    rw [← hm] at hle hl2 HS ⊢
    clear h k ho hp e1 hu hn hm
    go_enter Tryd.func16, Tryd.ntmps16
    have hgeI : (n : Int) ≥ (m : Int) := by omega
    go_wp2_with (go_at_call 12; refine HS.out.mono ?_; rintro e w2 ⟨rfl, hb2⟩; have HB2 := hid hb2; clear hb2)
    all_goals
      go_ret
      exact ⟨by rw [HB.out]; rfl, HB2.out⟩
  · have e : begB t p = false := by unfold begB; rw [decide_eq_false hle, Bool.false_and]
    rw [e]
    have hlt : ¬ (t.length : Int) ≥ (p.length : Int) := by omega
    go_enter Tryd.func16, Tryd.ntmps16
    go_wp2_with fail
    go_ret
    exact ⟨rfl, Below.refl _ _⟩
end Go.Proofs.YtfafkohghgliaabDoor.Tu
