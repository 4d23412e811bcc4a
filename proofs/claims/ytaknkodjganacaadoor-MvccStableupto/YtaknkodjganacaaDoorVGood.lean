import Derived.Test.YtaknkodjganacaaDoorVSmall
/- good, may, within, reads. -/
namespace Go.Proofs.YtaknkodjganacaaDoor.Vs
open Go.RowKit Go.Sort
set_option linter.unusedVariables false

theorem write_first (xs : List Wr) : writeAt xs 0 = wOk (nthW xs 0) := by
  rw [writeAt_eq]
  show (wOk (nthW xs 0) && ltS ⟨#[]⟩ (nthW xs 0).key) = _
  rw [lt_empty]
  unfold wOk
  cases emS (nthW xs 0).key <;> simp
theorem wOk_is {key val : ByteArray} {del e1 b1 b2 b4 : Bool} (h1 : key.toList.isEmpty = e1) (h2 : decide (32 < (key.size : Int)) = b1) (h3 : decide (64 < (val.size : Int)) = b2) (h4 : val.toList.isEmpty = b4) : wOk ⟨key, del, val⟩ = (!e1 && !b1 && !b2 && (!del || b4)) := by
  unfold wOk emS
  rw [h1, h4, show decide (key.size ≤ 32) = !b1 by rw [← h2, Bool.eq_iff_iff]; simp; omega, show decide (val.size ≤ 64) = !b2 by rw [← h3, Bool.eq_iff_iff]; simp; omega]
theorem good_go : ∀ e1 b1 b2 d b4 : Bool, e1 = true ∨ (e1 = false ∧ b1 = true) ∨ (e1 = false ∧ b1 = false ∧ b2 = true) ∨ (e1 = false ∧ b1 = false ∧ b2 = false ∧ d = true ∧ b4 = false) ∨ (e1 = false ∧ b1 = false ∧ b2 = false ∧ d = true ∧ b4 = true) ∨ (e1 = false ∧ b1 = false ∧ b2 = false ∧ d = false) := by
  intro e1 b1 b2 d b4
  cases e1 <;> cases b1 <;> cases b2 <;> cases d <;> cases b4 <;> simp

set_option maxHeartbeats 4000000 in
set_option maxRecDepth 8000 in
theorem good_is {a : Option Addr} {c : Nat} {xs : List Wr} {w : World} {u : Bool} (hu : writesOk xs = u) (h : RowW w a xs) (hl : xs.length ≤ 1152921504606846976) :
    Calls Tryd.prog 42 #[.slice a xs.length c] w fun e w' => e = .returned (.bool u) ∧ Below w.heap.size w w' := by
  subst hu
  by_cases h16 : 16 < (xs.length : Int)
  · go_enter Tryd.func42, Tryd.ntmps42
    go_wp2_with fail
    go_ret
    refine ⟨ret_bool ?_, by (repeat (first | exact Below.refl _ _ | assumption | refine Below.drew ?_ | refine Below.al ?_ _ | refine Below.setCell ?_ (by first | exact Nat.le_refl _ | (simp; omega) | (simp; done)) _ | refine Below.on ?_ (by assumption)))⟩
    rw [writesOk, decide_eq_false (by omega)]; rfl
  have H16 := hid h16
  have h16' : decide (16 < (xs.length : Int)) = false := decide_eq_false h16
  clear h16
  go_enter Tryd.func42, Tryd.ntmps42
  go_wp2_with fail
  go_loopg [3] xs.length (fun g s3 wr => ∃ k : Nat, k ≤ xs.length ∧ g = xs.length - k ∧ s3 = .int .i64 k ∧ Hid (Below w.heap.size w wr) ∧ Hid (allB (writeAt xs) k = true))
  case atStart => exact ⟨0, by omega, by omega, rfl, Below.refl _ _, rfl⟩
  case round =>
    obtain ⟨k, hk, rfl, rfl, HB, HA⟩ := hrel
    by_cases hlt : k < xs.length
    · obtain ⟨b, off, rfl, c0, c1, c2⟩ := (h.later HB.out) k hlt
      have HU := hid (writeAt_eq xs k)
      have HF : Hid (k = 0 → writeAt xs k = wOk (nthW xs k)) := fun e => by subst e; exact write_first xs
      obtain ⟨x, hx⟩ : ∃ x, x = nthW xs k := ⟨_, rfl⟩
      rw [← hx] at c0 c1 c2 HU HF
      clear hx
      obtain ⟨key, del, val⟩ := x
      simp only at c0 c1 c2
      obtain ⟨e1, h1⟩ : ∃ b, key.toList.isEmpty = b := ⟨_, rfl⟩
      obtain ⟨b1, h2⟩ : ∃ b, decide (32 < (key.size : Int)) = b := ⟨_, rfl⟩
      obtain ⟨b2, h3⟩ : ∃ b, decide (64 < (val.size : Int)) = b := ⟨_, rfl⟩
      obtain ⟨b4, h4⟩ : ∃ b, val.toList.isEmpty = b := ⟨_, rfl⟩
      have hw := wOk_is (del := del) h1 h2 h3 h4
      have HW := hid hw
      have h1' : (key.toList = []) = (e1 = true) := by rw [← h1]; simp
      have h4' : (val.toList = []) = (b4 = true) := by rw [← h4]; simp
      clear hw
      rcases good_go e1 b1 b2 del b4 with e | ⟨e, e'⟩ | ⟨e, e', e''⟩ | ⟨e, e', e'', e4, e5⟩ | ⟨e, e', e'', e4, e5⟩ | ⟨e, e', e'', e4⟩
      all_goals (try subst e)
      all_goals (try subst e')
      all_goals (try subst e'')
      all_goals (try subst e4)
      all_goals (try subst e5)
      all_goals (try simp only [Bool.false_eq_true] at h4')
      all_goals (try simp only [Bool.false_eq_true] at h1')
      case inl =>
        go_wp2_with fail
        go_quiet (fail)
        go_wp2_with fail
        go_ret
        refine ⟨ret_bool ?_, Below.drewN HB.out _⟩
        rw [writesOk, allB_no (HU.out.trans (by rw [HW.out]; simp)) _ hlt, Bool.and_false]
      case inr.inl =>
        go_wp2_with fail
        go_quiet (fail)
        go_wp2_with fail
        go_ret
        refine ⟨ret_bool ?_, Below.drewN HB.out _⟩
        rw [writesOk, allB_no (HU.out.trans (by rw [HW.out]; simp)) _ hlt, Bool.and_false]
      case inr.inr.inl =>
        go_wp2_with fail
        go_quiet (fail)
        go_wp2_with fail
        go_ret
        refine ⟨ret_bool ?_, Below.drewN HB.out _⟩
        rw [writesOk, allB_no (HU.out.trans (by rw [HW.out]; simp)) _ hlt, Bool.and_false]
      case inr.inr.inr.inl =>
        go_wp2_with fail
        go_quiet (fail)
        go_wp2_with fail
        go_ret
        refine ⟨ret_bool ?_, Below.drewN HB.out _⟩
        rw [writesOk, allB_no (HU.out.trans (by rw [HW.out]; simp)) _ hlt, Bool.and_false]
      case inr.inr.inr.inr.inl =>
        by_cases hk0 : k = 0
        · have q0 : decide (0 < k) = false := decide_eq_false (by omega)
          have HN : Hid (writeAt xs k = true) := by show _ = _; rw [HF.out hk0, HW.out]; simp
          clear hk0
          go_wp2_with fail
          go_quiet (fail)
          go_wp2_with fail
          go_roundg (xs.length - (k + 1))
          case measure => omega
          case rel => exact ⟨k + 1, by omega, rfl, by go_num, Below.drewN HB.out _, allB_yes HA.out HN.out⟩
        · obtain ⟨j, rfl⟩ : ∃ j, k = j + 1 := ⟨k - 1, by omega⟩
          obtain ⟨b', off', e', p0, -, -⟩ := (h.later HB.out) j (by omega)
          injection e' with e'; injection e' with e1' e2'
          subst e1' e2'
          rw [prevW_succ] at HU
          obtain ⟨pk, hpk⟩ : ∃ pk, pk = (nthW xs j).key := ⟨_, rfl⟩
          rw [← hpk] at p0 HU
          clear hpk
          have q1 : IntKind.i64.wrap (j : Int) = (j : Int) := by rw [IntKind.wrap_i64]; omega
          cases h3' : Op.bytesLess pk.toList key.toList with
          | true =>
            have HN : Hid (writeAt xs (j + 1) = true) := by show _ = _; rw [HU.out, HW.out, ltS, h3']; simp
            go_wp2_with fail
            go_quiet (fail)
            go_wp2_with fail
            go_roundg (xs.length - (j + 1 + 1))
            case measure => omega
            case rel => exact ⟨j + 1 + 1, by omega, rfl, by go_num, Below.drewN HB.out _, allB_yes HA.out HN.out⟩
          | false =>
            have HN : Hid (writeAt xs (j + 1) = false) := by show _ = _; rw [HU.out, HW.out, ltS, h3']; simp
            go_wp2_with fail
            go_quiet (fail)
            go_wp2_with fail
            go_ret
            refine ⟨ret_bool ?_, Below.drewN HB.out _⟩
            rw [writesOk, allB_no HN.out _ hlt, Bool.and_false]
      case inr.inr.inr.inr.inr =>
        by_cases hk0 : k = 0
        · have q0 : decide (0 < k) = false := decide_eq_false (by omega)
          have HN : Hid (writeAt xs k = true) := by show _ = _; rw [HF.out hk0, HW.out]; simp
          clear hk0
          go_wp2_with fail
          go_quiet (fail)
          go_wp2_with fail
          go_roundg (xs.length - (k + 1))
          case measure => omega
          case rel => exact ⟨k + 1, by omega, rfl, by go_num, Below.drewN HB.out _, allB_yes HA.out HN.out⟩
        · obtain ⟨j, rfl⟩ : ∃ j, k = j + 1 := ⟨k - 1, by omega⟩
          obtain ⟨b', off', e', p0, -, -⟩ := (h.later HB.out) j (by omega)
          injection e' with e'; injection e' with e1' e2'
          subst e1' e2'
          rw [prevW_succ] at HU
          obtain ⟨pk, hpk⟩ : ∃ pk, pk = (nthW xs j).key := ⟨_, rfl⟩
          rw [← hpk] at p0 HU
          clear hpk
          have q1 : IntKind.i64.wrap (j : Int) = (j : Int) := by rw [IntKind.wrap_i64]; omega
          cases h3' : Op.bytesLess pk.toList key.toList with
          | true =>
            have HN : Hid (writeAt xs (j + 1) = true) := by show _ = _; rw [HU.out, HW.out, ltS, h3']; simp
            go_wp2_with fail
            go_quiet (fail)
            go_wp2_with fail
            go_roundg (xs.length - (j + 1 + 1))
            case measure => omega
            case rel => exact ⟨j + 1 + 1, by omega, rfl, by go_num, Below.drewN HB.out _, allB_yes HA.out HN.out⟩
          | false =>
            have HN : Hid (writeAt xs (j + 1) = false) := by show _ = _; rw [HU.out, HW.out, ltS, h3']; simp
            go_wp2_with fail
            go_quiet (fail)
            go_wp2_with fail
            go_ret
            refine ⟨ret_bool ?_, Below.drewN HB.out _⟩
            rw [writesOk, allB_no HN.out _ hlt, Bool.and_false]
    · obtain rfl : k = xs.length := by omega
      go_wp2_with fail
      go_ret
      refine ⟨ret_bool ?_, HB.out⟩
      have := H16.out
      rw [writesOk, HA.out, Bool.and_true, Bool.eq_iff_iff]
      simp
      omega
end Go.Proofs.YtaknkodjganacaaDoor.Vs
