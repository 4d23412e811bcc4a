import Derived.Test.YtchfoipkaookmabDoorWStop
import Derived.Test.YtchfoipkaookmabDoorWTake
namespace Go.Proofs.YtchfoipkaookmabDoor
open Go.RowKit Go.Sort
set_option linter.unusedVariables false

theorem DecR.drew {w : World} {b o : Nat} {s : List Nat} {r : Int} (h : DecR w b o s r) : DecR w.drew b o s r := ⟨h.c0, h.c1, h.b8, h.loose⟩

set_option maxHeartbeats 400000 in
theorem nbz_any {w : World} {m : Int} (h1 : -9223372036854775808 ≤ m) (h2 : m ≤ 9223372036854775807) :
    Calls Tryd.prog 40 #[.int .i64 m] w fun e w' => e = .returned (.int .u64 (m.toNat : Int)) ∧ w' = w := by
  by_cases h0 : m < 0
  · have e1 : decide (m < 0) = true := by simp; omega
    have e2 : ((m.toNat : Nat) : Int) = 0 := by omega
    rw [e2]
    go_enter Tryd.func40, Tryd.ntmps40
    go_wp2
    go_ret
    exact ⟨by simp, rfl⟩
  · have e2 : ((m.toNat : Nat) : Int) = m := by omega
    have hw : IntKind.u64.wrap m = m := by rw [IntKind.wrap_u64]; omega
    rw [e2]
    have e1 : decide (m < 0) = false := by simp; omega
    have e3 : 0 ≤ m := by omega
    clear h0
    go_enter Tryd.func40, Tryd.ntmps40
    go_wp2
    go_ret
    exact ⟨by simp, rfl⟩

theorem nbz_is {w : World} {m : Int} {n : Nat} (h1 : -9223372036854775808 ≤ m) (h2 : m ≤ 9223372036854775807) (h : m.toNat = n) :
    Calls Tryd.prog 40 #[.int .i64 m] w fun e w' => e = .returned (.int .u64 (n : Int)) ∧ w' = w := h ▸ nbz_any h1 h2

/-- what a take of a text finds -/
inductive Tr where
  | ok (t r : List Nat)
  | bad (c : Int)
def txt (m : Nat) (s : List Nat) : Tr := match vdec m s with
  | .ok v r => if r.length < v then .bad 30 else .ok (r.take v) (r.drop v)
  | .short => .bad 30
  | .form => .bad 31
def TrEnd (b o : Nat) (r : Int) (w : World) : Tr → Ending → World → Prop
  | .ok t q, e, w' => e = .returned (.string (ofNats t)) ∧ Cel b o 2 w w' ∧ DecR w' b o q r
  | .bad c, e, w' => e = .panicked [fault c] ∧ Cel b o 2 w w' ∧ ∃ q, DecR w' b o q r

theorem vgo_len : ∀ (s : List Nat) (k v : Nat) (r : List Nat), vgo k s = .ok v r → r.length ≤ s.length
  | [], k, v, r, h => by simp [vgo] at h
  | b :: s, k, v, r, h => by
    rw [vgo] at h
    split at h
    · split at h
      · injection h with h1 h2; subst h2; simp
      · cases h
    · split at h
      · split at h
        · cases h
        · injection h with h1 h2; subst h2; simp
      · split at h
        · rename_i v' r' hv
          injection h with h1 h2
          subst h2
          have := vgo_len s (k + 1) v' r' hv
          simp; omega
        · cases h
        · cases h
theorem vdec_len {m v : Nat} {s r : List Nat} (h : vdec m s = .ok v r) : r.length ≤ s.length := by
  unfold vdec at h
  split at h
  · rename_i v' r' hv
    split at h
    · injection h with h1 h2; subst h2; exact vgo_len _ _ _ _ hv
    · cases h
  · cases h
  · cases h

set_option maxHeartbeats 400000 in
theorem dtext_any {w : World} {b o m : Nat} {s : List Nat} {r : Int} (h : DecR w b o s r) (hl : s.length ≤ 9223372036854775807) :
    Calls Tryd.prog 39 #[.pointer (some ⟨b, o, none⟩), .int .u64 (m : Int)] w fun e w' => TrEnd b o r w (txt m s) e w' := by
  have H := hid h
  clear h
  unfold txt
  cases hv : vdec m s with
  | short =>
    have HV := hid hv
    clear hv
    go_enter Tryd.func39, Tryd.ntmps39
    go_wp2_with (go_at_call 37; refine (dnumber_any H.out hl).mono ?_; rw [HV.out]; rintro e w1 ⟨rfl, hc⟩)
    exact ⟨rfl, rfl, hc⟩
  | form =>
    have HV := hid hv
    clear hv
    go_enter Tryd.func39, Tryd.ntmps39
    go_wp2_with (go_at_call 37; refine (dnumber_any H.out hl).mono ?_; rw [HV.out]; rintro e w1 ⟨rfl, hc⟩)
    exact ⟨rfl, rfl, hc⟩
  | ok v t =>
    have hle := vdec_len hv
    have HV := hid hv
    clear hv
    by_cases hm : t.length < v
    · simp only [hm, if_true]
      have HM := hid hm
      clear hm
      go_enter Tryd.func39, Tryd.ntmps39
      go_wp2_with fail
      refine (dnumber_any H.out hl).mono ?_
      rw [HV.out]
      rintro e w1 ⟨rfl, hc, hd⟩
      go_wp2_with fail
      refine (take_bad hd HM.out (by omega)).mono ?_
      rintro e w2 ⟨rfl, rfl⟩
      exact ⟨rfl, rfl, hc, t, hd⟩
    · simp only [hm, if_false]
      have HM := hid hm
      clear hm
      go_enter Tryd.func39, Tryd.ntmps39
      go_wp2_with fail
      refine (dnumber_any H.out hl).mono ?_
      rw [HV.out]
      rintro e w1 ⟨rfl, hc, hd⟩
      go_wp2_with fail
      refine (take_ok hd (by have := HM.out; omega) (by omega)).mono ?_
      rintro e w2 ⟨rfl, hc2, hd2⟩
      go_wp2_with fail
      go_ret
      exact ⟨rfl, hc.trans hc2, hd2⟩

theorem left_any {w : World} {b o : Nat} {d : Ds} (h : DecAt w b o d) :
    Calls Tryd.prog 11 #[.pointer (some ⟨b, o, none⟩)] w fun e w' => e = .returned (.int .i64 (d.left.length : Int)) ∧ w' = w := by
  have c0 := h.raw.c0
  have hsz : ((ofNats d.left).size : Int) = (d.left.length : Int) := by rw [ofNats_size]
  clear h
  go_enter Tryd.func11, Tryd.ntmps11
  go_wp2_with fail
  go_ret
  exact ⟨rfl, rfl⟩

end Go.Proofs.YtchfoipkaookmabDoor
