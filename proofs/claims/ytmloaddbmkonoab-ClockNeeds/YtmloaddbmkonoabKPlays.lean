import Derived.Test.YtmloaddbmkonoabKToldAny
namespace Go.Proofs.Ytmloaddbmkonoab
open Go.RowKit Go.Sort
set_option linter.unusedVariables false

theorem PlaceAt.cells {W : World} {A B m i : Nat} {o : Option Pr} (h : PlaceAt W A B m i o) : ∃ v0 v1, W.cell? ⟨A, i * 2, none⟩ = some v0 ∧ W.cell? ⟨A, i * 2 + 1, none⟩ = some v1 := by
  cases o with
  | none => exact ⟨_, _, h.1, h.2⟩
  | some q => exact ⟨_, _, h.1, h.2.1⟩

set_option maxRecDepth 8000 in
set_option maxHeartbeats 8000000 in
theorem plays_walk (a : Option Addr) (len cap : Nat) (kk : Int) (f : Nat → OpS) (w : World) (hm : (len + 2) * 16 ≤ 140737488355328) (hrow : OpRow w a len f) (hok : ∀ i, i < len → (f i).ok) :
    Calls Try.prog 4 #[.slice a len cap, .int .i64 kk] w fun e w' => e = .returned (.bool true) ∧ Below w.heap.size w w' := by
  have HROW := hid hrow
  have HOK := hid hok
  have HM := hid hm
  have hlen : len ≤ 9223372036854775807 := by omega
  clear hrow hok hm
  go_enter Try.func4, Try.ntmps4
  go_wp2_with fail
  go_loopg [6] len (fun gg s6 wr => ∃ (k : Nat) (st : Nat → Option Pr), k ≤ len ∧ gg = len - k ∧ s6 = .int .i64 k ∧ PlaysAt w wr w.heap.size (k + 1) st)
  case atStart =>
    refine ⟨0, fun _ => none, by omega, by omega, rfl, al_below _ _, fun o => by simp [go_sem], Nat.le_refl _, by simp, fun i hi => ?_, fun i j q r _ _ _ e => by cases e⟩
    match i, hi with
    | 0, _ => exact ⟨by simp [go_sem], by simp [go_sem]⟩
    | 1, _ => exact ⟨by simp [go_sem], by simp [go_sem]⟩
    | 2, _ => exact ⟨by simp [go_sem], by simp [go_sem]⟩
  case round =>
    obtain ⟨k, st, hk, rfl, rfl, R⟩ := hrel
    have hN : w.heap.size < wr.heap.size := R.aW
    by_cases hlt : k < len
    · obtain ⟨bb, off, rfl, d0, d1, d2, d3, d4, d5, d6, d7⟩ := HROW.out.later R.below k hlt
      have hst := HOK.out k hlt
      generalize f k = x at d0 d1 d2 d3 d4 d5 d6 d7 hst
      obtain ⟨kd, pl, no, wi, nu, s0, s1, s2⟩ := x
      obtain ⟨hno, hwi, hnu, hss⟩ := hst
      dsimp only at d0 d1 d2 d3 d4 d5 d6 d7 hno hwi hnu hss
      have HH : Hid (U32 no ∧ U64 wi ∧ U64 nu ∧ St.ok ⟨s0, s1, s2⟩) := ⟨hno, hwi, hnu, hss⟩
      have HRA := hid (R.later (al_below wr (.cells #[.int .i64 kd, .int .i64 pl, .int .u32 no, .int .u64 wi, .int .u64 nu, .int .u64 s0, .int .u32 s1, .int .u32 s2] 35)))
      have HBS : Hid (w.heap.size ≤ wr.heap.size + 1) := hid (by show _ ≤ _; omega)
      have HR0 := hid R
      clear R hno hwi hnu hss
      by_cases hneg : pl < 0
      · go_wp2_with fail
        go_roundg (len - (k + 1))
        case measure => omega
        case rel => exact ⟨k + 1, st, by omega, rfl, by go_num, HRA.out.skip⟩
      · have hneg' : decide (pl < 0) = false := decide_eq_false hneg
        by_cases hbig : 2 < pl
        · clear hneg
          go_wp2_with fail
          go_roundg (len - (k + 1))
          case measure => omega
          case rel => exact ⟨k + 1, st, by omega, rfl, by go_num, HRA.out.skip⟩
        · have hbig' : decide (2 < pl) = false := decide_eq_false hbig
          obtain ⟨i, hi, rfl⟩ : ∃ i : Nat, i < 3 ∧ pl = (i : Int) := ⟨pl.toNat, by omega, by omega⟩
          clear hneg hbig
          by_cases h1 : kd = 1
          · subst h1
            obtain ⟨v0, v1, hv⟩ := (HRA.out.place i hi).cells
            have HV := hid hv
            clear hv
            go_wp2_with (first
              | (go_at_call 5; refine (made_new w.heap.size (i * 2) w.heap.size v0 v1 i no wi nu s0 s1 s2 _ HV.out.1 HV.out.2 HRA.out.loose HRA.out.below.size HH.out.1 HH.out.2.1 HH.out.2.2.1).mono ?_; rintro e w5 ⟨rfl, hmp⟩; have H5 := hid (HRA.out.made hi (by omega) hmp); clear hmp))
            go_roundg (len - (k + 1))
            case measure => omega
            case rel =>
              obtain ⟨st', R5⟩ := H5.out
              exact ⟨k + 1, st', by omega, rfl, by go_num, R5⟩
          · have h1' : (kd == 1) = false := beq_eq_false_iff_ne.2 h1
            by_cases h2 : kd = 2
            · subst h2
              obtain ⟨v0, v1, hv⟩ := (HRA.out.place i hi).cells
              have HV := hid hv
              clear hv
              go_wp2_with (first
                | (go_at_call 5; refine (made_reopen w.heap.size (i * 2) w.heap.size v0 v1 i no wi nu s0 s1 s2 _ HV.out.1 HV.out.2 HRA.out.loose HRA.out.below.size HH.out.1 HH.out.2.1 HH.out.2.2.1).mono ?_; rintro e w5 ⟨rfl, hmp⟩; have H5 := hid (HRA.out.made hi (by omega) hmp); clear hmp))
              go_roundg (len - (k + 1))
              case measure => omega
              case rel =>
                obtain ⟨st', R5⟩ := H5.out
                exact ⟨k + 1, st', by omega, rfl, by go_num, R5⟩
            · have h2' : (kd == 2) = false := beq_eq_false_iff_ne.2 h2
              cases hs : st i with
              | none =>
                have hp := HR0.out.place i hi
                rw [hs] at hp
                have ca := hp.1
                have HS := hid hs
                clear hp hs
                go_wp2_with fail
                go_roundg (len - (k + 1))
                case measure => omega
                case rel => exact ⟨k + 1, st, by omega, rfl, by go_num, HRA.out.skip⟩
              | some q =>
                have hp := HR0.out.place i hi
                rw [hs] at hp
                have ca := hp.1
                have HQ := hid (HRA.out.has_lt hi hs)
                have HS := hid hs
                clear hp hs
                go_wp2_with (first
                  | (go_at_call 6; refine (told_any kd w.heap.size (i * 2) w.heap.size (k + 1) q i no wi nu s0 s1 s2 _ HQ.out.2.2.1 HQ.out.1 HQ.out.2.1 HQ.out.2.2.2 HRA.out.below.size (by have := HM.out; omega) HH.out.2.2.1 HH.out.2.2.2).mono ?_; rintro e w5 ⟨rfl, hmp⟩; have H5 := hid (HRA.out.told hi HS.out hmp); clear hmp))
                go_roundg (len - (k + 1))
                case measure => omega
                case rel =>
                  obtain ⟨st', R5⟩ := H5.out
                  exact ⟨k + 1, st', by omega, rfl, by go_num, R5⟩
    · have HR := hid R
      clear R
      go_wp2_with fail
      go_ret
      exact ⟨rfl, HR.out.below⟩

end Go.Proofs.Ytmloaddbmkonoab
