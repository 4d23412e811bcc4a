import Derived.Test.YtoejdjiclgjgkaaDoorMSmall
namespace Go.Proofs.YtoejdjiclgjgkaaDoor
open Go.RowKit Go.Sort
set_option linter.unusedVariables false

def dtab (i : Nat) : Int := [0, 11, 60, 90, 140, 142].getD i 0
def vtab (i : Nat) : Int := [0, 11, 60, 90, 100, 141, 164].getD i 0
/-- the two listed tables -/
structure Tabs (w : World) : Prop where
  d : ∀ i, i < 6 → w.cell? ⟨0, i, none⟩ = some (.int .i64 (dtab i))
  v : ∀ i, i < 7 → w.cell? ⟨1, i, none⟩ = some (.int .i64 (vtab i))
theorem Tabs.later {w w' : World} (h : Tabs w) (hb : Below w.heap.size w w') : Tabs w' := ⟨fun i hi => cell_later hb (h.d i hi), fun i hi => cell_later hb (h.v i hi)⟩
def anyB (p : Nat → Bool) : Nat → Bool
  | 0 => false
  | n + 1 => anyB p n || p n
theorem anyB_yes {p : Nat → Bool} {k : Nat} (h : p k = true) : ∀ n, k < n → anyB p n = true
  | 0, hn => by omega
  | n + 1, hn => by
    by_cases e : k = n
    · subst e; rw [anyB, h, Bool.or_true]
    · rw [anyB, anyB_yes h n (by omega), Bool.true_or]
theorem anyB_no {p : Nat → Bool} {k : Nat} (h : anyB p k = false) (h' : p k = false) : anyB p (k + 1) = false := by rw [anyB, h, h']; rfl
theorem dataS_any (s : Int) : anyB (fun i => s == dtab i) 6 = dataS s := by simp [anyB, dtab, dataS]
theorem voteS_any (s : Int) : anyB (fun i => s == vtab i) 7 = voteS s := by simp [anyB, vtab, voteS]
def said (k s : Int) : Bool := (k == 2 && dataS s) || (k == 4 && voteS s)

set_option maxHeartbeats 1000000 in
theorem status_is {k s : Int} {w : World} {u : Bool} (hu : said k s = u) (hT : Tabs w) :
    Calls Tryd.prog 20 #[.int .i64 k, .int .i64 s] w fun e w' => e = .returned (.bool u) ∧ Below w.heap.size w w' := by
  subst hu
  have HT := hid hT
  clear hT
  obtain ⟨b2, h2⟩ : ∃ b, (k == 2) = b := ⟨_, rfl⟩
  obtain ⟨b4, h4⟩ : ∃ b, (k == 4) = b := ⟨_, rfl⟩
  have HS : Hid (said k s = ((b2 && dataS s) || (b4 && voteS s))) := by show _ = _; rw [said, h2, h4]
  have H24 : Hid (b2 = true → b4 = false) := by
    show b2 = true → b4 = false
    intro e
    rw [← h2] at e
    rw [← h4, beq_iff_eq.1 e]; rfl
  go_enter Tryd.func20, Tryd.ntmps20
  go_wp2_with fail
  go_loopg [5] 6 (fun g s5 wr => ∃ i : Nat, i ≤ 6 ∧ g = 6 - i ∧ s5 = .int .i64 i ∧ wr = w ∧ Hid (b2 = true → anyB (fun i => s == dtab i) i = false))
  case atStart => exact ⟨0, by omega, by omega, rfl, rfl, fun _ => rfl⟩
  case round =>
    obtain ⟨i, hi, rfl, rfl, rfl, HA⟩ := hrel
    by_cases hlt : i < 6
    · have c0 := HT.out.d i hlt
      cases b2
      · go_wp2_with fail
        go_roundg (6 - (i + 1))
        case measure => omega
        case rel => exact ⟨i + 1, by omega, rfl, by go_num, rfl, fun e => by cases e⟩
      · obtain ⟨b, hb⟩ : ∃ b, (s == dtab i) = b := ⟨_, rfl⟩
        have HB := hid hb
        cases b
        · go_wp2_with fail
          go_roundg (6 - (i + 1))
          case measure => omega
          case rel => exact ⟨i + 1, by omega, rfl, by go_num, rfl, fun e => anyB_no (HA.out e) HB.out⟩
        · go_wp2_with fail
          go_ret
          refine ⟨ret_bool ?_, Below.refl _ _⟩
          rw [HS.out, ← dataS_any, anyB_yes (p := fun i => s == dtab i) HB.out 6 hlt]; rfl
    · obtain rfl : i = 6 := by omega
      have HA2 := HA
      go_wp2_with fail
      go_loopg [6] 7 (fun g s6 wr' => ∃ i : Nat, i ≤ 7 ∧ g = 7 - i ∧ s6 = .int .i64 i ∧ wr' = wr ∧ Hid (b4 = true → anyB (fun i => s == vtab i) i = false))
      case atStart => exact ⟨0, by omega, by omega, rfl, rfl, fun _ => rfl⟩
      case round =>
        obtain ⟨i, hi, rfl, rfl, rfl, HB⟩ := hrel
        by_cases hlt : i < 7
        · have c0 := HT.out.v i hlt
          cases b4
          · go_wp2_with fail
            go_roundg (7 - (i + 1))
            case measure => omega
            case rel => exact ⟨i + 1, by omega, rfl, by go_num, rfl, fun e => by cases e⟩
          · obtain ⟨b, hb⟩ : ∃ b, (s == vtab i) = b := ⟨_, rfl⟩
            have HB2 := hid hb
            cases b
            · go_wp2_with fail
              go_roundg (7 - (i + 1))
              case measure => omega
              case rel => exact ⟨i + 1, by omega, rfl, by go_num, rfl, fun e => anyB_no (HB.out e) HB2.out⟩
            · go_wp2_with fail
              go_ret
              refine ⟨ret_bool ?_, Below.refl _ _⟩
              rw [HS.out, ← voteS_any, anyB_yes (p := fun i => s == vtab i) HB2.out 7 hlt]; simp
        · obtain rfl : i = 7 := by omega
          go_wp2_with fail
          go_ret
          refine ⟨ret_bool ?_, Below.refl _ _⟩
          rw [HS.out, ← dataS_any, ← voteS_any]
          have h1 := HA2.out; have h2 := HB.out
          cases b2 <;> cases b4 <;> simp_all

end Go.Proofs.YtoejdjiclgjgkaaDoor
