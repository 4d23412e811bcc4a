import Derived.Test.YtgmkgkoeoibknaaGBase
/- Package valid, over a record's lists (GBase's words). -/
namespace Go.Proofs.Ytgmkgkoeoibknaa
open Go.RowKit Go.Sort
set_option linter.unusedVariables false

theorem validSpan_is {x : T2} {u : Bool} (hu : spanOk x = u) (w : World) :
    Calls Try.prog 26 #[.agg #[.string x.1, .string x.2]] w fun e w' => e = .returned (.bool u) ∧ Below w.heap.size w w' := by
  subst hu
  obtain ⟨lo, hi⟩ := x
  go_enter Try.func26, Try.ntmps26
  go_wp2_with fail
  all_goals go_ret
  all_goals refine ⟨ret_bool ?_, by (repeat (first | exact Below.refl _ _ | assumption | refine Below.drew ?_ | refine Below.al ?_ _ | refine Below.setCell ?_ (by first | exact Nat.le_refl _ | (simp; omega) | (simp; done)) _ | refine Below.on ?_ (by assumption)))⟩
  all_goals simp only [spanOk, emS, ltS]
  · rw [Bool.eq_iff_iff]; simp; omega
  · rename_i h2 h1 h0; rw [Bool.eq_iff_iff]; simp [h0]; omega
  · rename_i h2 h1 h0; rw [Bool.eq_iff_iff]; simp; omega
  · rw [Bool.eq_iff_iff]; simp; omega

theorem nextKey_is {a b : ByteArray} {u : Bool} (hu : keyOk a b = u) (w : World) :
    Calls Try.prog 27 #[.string a, .string b] w fun e w' => e = .returned (.bool u) ∧ Below w.heap.size w w' := by
  subst hu
  go_enter Try.func27, Try.ntmps27
  go_wp2_with fail
  all_goals go_ret
  all_goals refine ⟨ret_bool ?_, by (repeat (first | exact Below.refl _ _ | assumption | refine Below.drew ?_ | refine Below.al ?_ _ | refine Below.setCell ?_ (by first | exact Nat.le_refl _ | (simp; omega) | (simp; done)) _ | refine Below.on ?_ (by assumption)))⟩
  all_goals simp only [keyOk, ltS]
  all_goals rename_i h0; rw [Bool.eq_iff_iff]; simp_all
  all_goals omega

set_option maxHeartbeats 1000000 in
theorem validReads_is {a : Option Addr} {c : Nat} {xs : List T2} {w : World} {u : Bool} (hu : readsOk xs = u) (h : Row2 w a xs) (hl : xs.length ≤ 9223372036854775807) :
    Calls Try.prog 23 #[.slice a xs.length c] w fun e w' => e = .returned (.bool u) ∧ Below w.heap.size w w' := by
  subst hu
  by_cases h16 : 16 < (xs.length : Int)
  · go_enter Try.func23, Try.ntmps23
    go_wp2_with fail
    go_ret
    refine ⟨ret_bool ?_, by (repeat (first | exact Below.refl _ _ | assumption | refine Below.drew ?_ | refine Below.al ?_ _ | refine Below.setCell ?_ (by first | exact Nat.le_refl _ | (simp; omega) | (simp; done)) _ | refine Below.on ?_ (by assumption)))⟩
    rw [readsOk, decide_eq_false (by omega)]; rfl
  have H16 := hid h16
  have h16' : decide (16 < (xs.length : Int)) = false := decide_eq_false h16
  clear h16
  go_enter Try.func23, Try.ntmps23
  go_wp2_with fail
  go_loopg [10] xs.length (fun g s10 wr => ∃ k : Nat, k ≤ xs.length ∧ g = xs.length - k ∧ s10 = .int .i64 k ∧ Below w.heap.size w wr ∧ Hid (allB (spanAt xs) k = true))
  case atStart => exact ⟨0, by omega, by omega, rfl, Below.refl _ _, rfl⟩
  case round =>
    obtain ⟨k, hk, rfl, rfl, hb, HA⟩ := hrel
    by_cases hlt : k < xs.length
    · obtain ⟨b, off, rfl, c0, c1⟩ := (h.later hb) k hlt
      obtain ⟨u, hu⟩ : ∃ u, spanOk (nth2 xs k) = u := ⟨_, rfl⟩
      have HU : Hid (spanAt xs k = u) := hu
      obtain ⟨x, hx⟩ : ∃ x, x = nth2 xs k := ⟨_, rfl⟩
      rw [← hx] at c0 c1 hu
      clear hx
      go_wp2_with fail
      refine (validSpan_is hu _).mono ?_
      rintro e w1 ⟨rfl, hw1⟩
      replace hb : Below w.heap.size w w1 := Below.on (Below.al hb _) hw1
      clear hw1 hu
      cases u
      · go_wp2_with fail
        go_ret
        refine ⟨ret_bool ?_, hb⟩
        rw [readsOk, allB_no HU.out _ hlt, Bool.and_false]
      · go_wp2_with fail
        go_roundg (xs.length - (k + 1))
        case measure => omega
        case rel => exact ⟨k + 1, by omega, rfl, by go_num, hb, allB_yes HA.out HU.out⟩
    · obtain rfl : k = xs.length := by omega
      go_wp2_with fail
      go_ret
      refine ⟨ret_bool ?_, hb⟩
      rw [readsOk, HA.out, decide_eq_true (by have := H16.out; omega)]; rfl

set_option maxHeartbeats 1000000 in
theorem validWrites_is {a : Option Addr} {c : Nat} {xs : List Wr} {w : World} {u : Bool} (hu : writesOk xs = u) (h : RowW w a xs) (hl : xs.length ≤ 9223372036854775807) :
    Calls Try.prog 24 #[.slice a xs.length c] w fun e w' => e = .returned (.bool u) ∧ Below w.heap.size w w' := by
  subst hu
  by_cases h16 : 16 < (xs.length : Int)
  · go_enter Try.func24, Try.ntmps24
    go_wp2_with fail
    go_ret
    refine ⟨ret_bool ?_, by (repeat (first | exact Below.refl _ _ | assumption | refine Below.drew ?_ | refine Below.al ?_ _ | refine Below.setCell ?_ (by first | exact Nat.le_refl _ | (simp; omega) | (simp; done)) _ | refine Below.on ?_ (by assumption)))⟩
    rw [writesOk, decide_eq_false (by omega)]; rfl
  have H16 := hid h16
  have h16' : decide (16 < (xs.length : Int)) = false := decide_eq_false h16
  clear h16
  go_enter Try.func24, Try.ntmps24
  go_wp2_with fail
  go_loopg [3, 11] xs.length (fun g s3 s11 wr => ∃ k : Nat, k ≤ xs.length ∧ g = xs.length - k ∧ s3 = .string (prevW xs k) ∧ s11 = .int .i64 k ∧ Below w.heap.size w wr ∧ Hid (allB (writeAt xs) k = true))
  case atStart => exact ⟨0, by omega, by omega, rfl, rfl, Below.refl _ _, rfl⟩
  case round =>
    obtain ⟨k, hk, rfl, rfl, rfl, hb, HA⟩ := hrel
    by_cases hlt : k < xs.length
    · obtain ⟨b, off, rfl, c0, c1, c2⟩ := (h.later hb) k hlt
      obtain ⟨u, hu⟩ : ∃ u, keyOk (prevW xs k) (nthW xs k).key = u := ⟨_, rfl⟩
      have HP := hid (prevW_succ xs k)
      have HQ : Hid (writeAt xs k = (keyOk (prevW xs k) (nthW xs k).key && decide ((nthW xs k).val.size ≤ 64) && !((nthW xs k).del && !emS (nthW xs k).val))) := rfl
      rw [hu] at HQ
      obtain ⟨p, hp⟩ : ∃ p, p = prevW xs k := ⟨_, rfl⟩
      obtain ⟨x, hx⟩ : ∃ x, x = nthW xs k := ⟨_, rfl⟩
      rw [← hx] at c0 c1 c2 hu HQ HP
      rw [← hp] at hu ⊢
      clear hx hp
      obtain ⟨xk, xd, xv⟩ := x
      go_wp2_with fail
      refine (nextKey_is hu _).mono ?_
      rintro e w1 ⟨rfl, hw1⟩
      have d0 : w1.cell? ⟨wr.heap.size, 0, none⟩ = some (.string xk) := cell_later hw1 (by simp [go_sem])
      have d1 : w1.cell? ⟨wr.heap.size, 1, none⟩ = some (.bool xd) := cell_later hw1 (by simp [go_sem])
      have d2 : w1.cell? ⟨wr.heap.size, 2, none⟩ = some (.string xv) := cell_later hw1 (by simp [go_sem])
      replace hb : Below w.heap.size w w1 := Below.on (Below.al hb _) hw1
      clear hw1 hu c0 c1 c2
      cases u
      · go_wp2_with fail
        go_ret
        refine ⟨ret_bool ?_, hb⟩
        rw [writesOk, allB_no (HQ.out.trans (by simp)) _ hlt, Bool.and_false]
      · by_cases hv : 64 < (xv.size : Int)
        · have hv' : decide (64 < (xv.size : Int)) = true := decide_eq_true hv
          go_wp2_with fail
          go_ret
          refine ⟨ret_bool ?_, hb⟩
          rw [writesOk, allB_no (HQ.out.trans (by rw [decide_eq_false (show ¬ xv.size ≤ 64 by omega)]; simp)) _ hlt, Bool.and_false]
        · have HV := hid hv
          have hv' : decide (64 < (xv.size : Int)) = false := decide_eq_false hv
          have hle : decide (xv.size ≤ 64) = true := decide_eq_true (by omega)
          rw [hle] at HQ
          clear hv hle
          cases xd
          · go_wp2_with fail
            go_roundg (xs.length - (k + 1))
            case measure => omega
            case rel => exact ⟨k + 1, by omega, rfl, by rw [HP.out], by go_num, hb, allB_yes HA.out (HQ.out.trans (by simp))⟩
          · obtain ⟨v, hv2⟩ : ∃ v, emS xv = v := ⟨_, rfl⟩
            rw [hv2] at HQ
            have hv3 : xv.toList.isEmpty = v := hv2
            clear hv2
            cases v
            · have hv4 : (xv.toList = []) = False := by simpa using hv3
              go_wp2_with fail
              go_ret
              refine ⟨ret_bool ?_, hb⟩
              rw [writesOk, allB_no (HQ.out.trans (by simp)) _ hlt, Bool.and_false]
            · have hv4 : (xv.toList = []) = True := by simpa using hv3
              go_wp2_with fail
              go_roundg (xs.length - (k + 1))
              case measure => omega
              case rel => exact ⟨k + 1, by omega, rfl, by rw [HP.out], by go_num, hb, allB_yes HA.out (HQ.out.trans (by simp))⟩
    · obtain rfl : k = xs.length := by omega
      go_wp2_with fail
      go_ret
      refine ⟨ret_bool ?_, hb⟩
      rw [writesOk, HA.out, decide_eq_true (by have := H16.out; omega)]; rfl

theorem txn_is {c s : Int} (w : World) :
    Calls Try.prog 16 #[.agg #[.int .u32 c, .int .u32 s]] w fun e w' => e = .returned (.bool (decide (1 ≤ s))) ∧ Below w.heap.size w w' := by
  go_enter Try.func16, Try.ntmps16
  go_wp2_with fail
  go_ret
  exact ⟨ret_bool (by simp), by (repeat (first | exact Below.refl _ _ | assumption | refine Below.drew ?_ | refine Below.al ?_ _ | refine Below.setCell ?_ (by first | exact Nat.le_refl _ | (simp; omega) | (simp; done)) _ | refine Below.on ?_ (by assumption)))⟩

theorem usable_is {a b c : Int} (w : World) :
    Calls Try.prog 17 #[stv a b c] w fun e w' => e = .returned (.bool (decide (a < 18446744073709551615))) ∧ Below w.heap.size w w' := by
  go_enter Try.func17, Try.ntmps17
  go_wp2_with fail
  go_ret
  exact ⟨ret_bool (by simp), by (repeat (first | exact Below.refl _ _ | assumption | refine Below.drew ?_ | refine Below.al ?_ _ | refine Below.setCell ?_ (by first | exact Nat.le_refl _ | (simp; omega) | (simp; done)) _ | refine Below.on ?_ (by assumption)))⟩

end Go.Proofs.Ytgmkgkoeoibknaa
