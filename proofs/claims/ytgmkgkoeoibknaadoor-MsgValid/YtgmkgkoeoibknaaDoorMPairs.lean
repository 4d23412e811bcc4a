import Derived.Test.YtgmkgkoeoibknaaDoorMReads
namespace Go.Proofs.YtgmkgkoeoibknaaDoor
open Go.RowKit Go.Sort
set_option linter.unusedVariables false

/-- the key ahead of the i-th -/
def prev2 (xs : List T2) (i : Nat) : ByteArray := if i = 0 then ⟨#[]⟩ else (nth2 xs (i - 1)).1
def prevW (xs : List Wr) (i : Nat) : ByteArray := if i = 0 then ⟨#[]⟩ else (nthW xs (i - 1)).key
theorem prev2_succ (xs : List T2) (i : Nat) : prev2 xs (i + 1) = (nth2 xs i).1 := by simp [prev2]
theorem prevW_succ (xs : List Wr) (i : Nat) : prevW xs (i + 1) = (nthW xs i).key := by simp [prevW]
def pairAt (xs : List T2) (i : Nat) : Bool := keyOk (prev2 xs i) (nth2 xs i).1 && decide ((nth2 xs i).2.size ≤ 64)
def pairsOk (xs : List T2) : Bool := decide (xs.length ≤ 512) && allB (pairAt xs) xs.length
def writeAt (xs : List Wr) (i : Nat) : Bool := keyOk (prevW xs i) (nthW xs i).key && decide ((nthW xs i).val.size ≤ 64) && !((nthW xs i).del && !emS (nthW xs i).val)
def writesOk (xs : List Wr) : Bool := decide (xs.length ≤ 16) && allB (writeAt xs) xs.length

set_option maxHeartbeats 1000000 in
theorem validPairs_is {a : Option Addr} {c : Nat} {xs : List T2} {w : World} {u : Bool} (hu : pairsOk xs = u) (h : Row2 w a xs) (hl : xs.length ≤ 9223372036854775807) :
    Calls Tryd.prog 59 #[.slice a xs.length c] w fun e w' => e = .returned (.bool u) ∧ Below w.heap.size w w' := by
  subst hu
  by_cases h16 : 512 < (xs.length : Int)
  · go_enter Tryd.func59, Tryd.ntmps59
    go_wp2_with fail
    go_ret
    refine ⟨ret_bool ?_, by (repeat (first | exact Below.refl _ _ | assumption | refine Below.drew ?_ | refine Below.al ?_ _ | refine Below.setCell ?_ (by first | exact Nat.le_refl _ | (simp; omega) | (simp; done)) _ | refine Below.on ?_ (by assumption)))⟩
    rw [pairsOk, decide_eq_false (by omega)]; rfl
  have H16 := hid h16
  have h16' : decide (512 < (xs.length : Int)) = false := decide_eq_false h16
  clear h16
  go_enter Tryd.func59, Tryd.ntmps59
  go_wp2_with fail
  go_loopg [3, 11] xs.length (fun g s3 s11 wr => ∃ k : Nat, k ≤ xs.length ∧ g = xs.length - k ∧ s3 = .string (prev2 xs k) ∧ s11 = .int .i64 k ∧ Below w.heap.size w wr ∧ Hid (allB (pairAt xs) k = true))
  case atStart => exact ⟨0, by omega, by omega, rfl, rfl, Below.refl _ _, rfl⟩
  case round =>
    obtain ⟨k, hk, rfl, rfl, rfl, hb, HA⟩ := hrel
    by_cases hlt : k < xs.length
    · obtain ⟨b, off, rfl, c0, c1⟩ := (h.later hb) k hlt
      obtain ⟨u, hu⟩ : ∃ u, keyOk (prev2 xs k) (nth2 xs k).1 = u := ⟨_, rfl⟩
      have HU := hid hu
      have HP := hid (prev2_succ xs k)
      have HQ : Hid (pairAt xs k = (keyOk (prev2 xs k) (nth2 xs k).1 && decide ((nth2 xs k).2.size ≤ 64))) := rfl
      rw [hu] at HQ
      obtain ⟨p, hp⟩ : ∃ p, p = prev2 xs k := ⟨_, rfl⟩
      obtain ⟨x, hx⟩ : ∃ x, x = nth2 xs k := ⟨_, rfl⟩
      rw [← hx] at c0 c1 hu HQ HP
      rw [← hp] at hu ⊢
      clear hx hp HU
      go_wp2_with fail
      refine (nextKey_is hu _).mono ?_
      rintro e w1 ⟨rfl, hw1⟩
      have d0 : w1.cell? ⟨wr.heap.size, 0, none⟩ = some (.string x.1) := cell_later hw1 (by simp [go_sem])
      have d1 : w1.cell? ⟨wr.heap.size, 1, none⟩ = some (.string x.2) := cell_later hw1 (by simp [go_sem])
      replace hb : Below w.heap.size w w1 := Below.on (Below.al hb _) hw1
      clear hw1 hu c0 c1
      cases u
      · go_wp2_with fail
        go_ret
        refine ⟨ret_bool ?_, hb⟩
        rw [pairsOk, allB_no HQ.out _ hlt, Bool.and_false]
      · by_cases hv : 64 < (x.2.size : Int)
        · have hv' : decide (64 < (x.2.size : Int)) = true := decide_eq_true hv
          go_wp2_with fail
          go_ret
          refine ⟨ret_bool ?_, hb⟩
          rw [pairsOk, allB_no (HQ.out.trans (by rw [decide_eq_false (by omega)]; rfl)) _ hlt, Bool.and_false]
        · have HV := hid hv
          have hv' : decide (64 < (x.2.size : Int)) = false := decide_eq_false hv
          clear hv
          go_wp2_with fail
          go_roundg (xs.length - (k + 1))
          case measure => omega
          case rel => exact ⟨k + 1, by omega, rfl, by rw [HP.out], by go_num, hb, allB_yes HA.out (HQ.out.trans (by rw [decide_eq_true (by have := HV.out; omega)]; rfl))⟩
    · obtain rfl : k = xs.length := by omega
      go_wp2_with fail
      go_ret
      refine ⟨ret_bool ?_, hb⟩
      rw [pairsOk, HA.out, decide_eq_true (by have := H16.out; omega)]; rfl

set_option maxHeartbeats 1000000 in
theorem validWrites_is {a : Option Addr} {c : Nat} {xs : List Wr} {w : World} {u : Bool} (hu : writesOk xs = u) (h : RowW w a xs) (hl : xs.length ≤ 9223372036854775807) :
    Calls Tryd.prog 65 #[.slice a xs.length c] w fun e w' => e = .returned (.bool u) ∧ Below w.heap.size w w' := by
  subst hu
  by_cases h16 : 16 < (xs.length : Int)
  · go_enter Tryd.func65, Tryd.ntmps65
    go_wp2_with fail
    go_ret
    refine ⟨ret_bool ?_, by (repeat (first | exact Below.refl _ _ | assumption | refine Below.drew ?_ | refine Below.al ?_ _ | refine Below.setCell ?_ (by first | exact Nat.le_refl _ | (simp; omega) | (simp; done)) _ | refine Below.on ?_ (by assumption)))⟩
    rw [writesOk, decide_eq_false (by omega)]; rfl
  have H16 := hid h16
  have h16' : decide (16 < (xs.length : Int)) = false := decide_eq_false h16
  clear h16
  go_enter Tryd.func65, Tryd.ntmps65
  go_wp2_with fail
  go_loopg [3, 11] xs.length (fun g s3 s11 wr => ∃ k : Nat, k ≤ xs.length ∧ g = xs.length - k ∧ s3 = .string (prevW xs k) ∧ s11 = .int .i64 k ∧ Below w.heap.size w wr ∧ Hid (allB (writeAt xs) k = true))
  case atStart => exact ⟨0, by omega, by omega, rfl, rfl, Below.refl _ _, rfl⟩
  case round =>
    obtain ⟨k, hk, rfl, rfl, rfl, hb, HA⟩ := hrel
    by_cases hlt : k < xs.length
    · obtain ⟨b, off, rfl, c0, c1, c2⟩ := (h.later hb) k hlt
      obtain ⟨u, hu⟩ : ∃ u, keyOk (prevW xs k) (nthW xs k).key = u := ⟨_, rfl⟩
      have HP := hid (prevW_succ xs k)
      have HQ : Hid (writeAt xs k = (keyOk (prevW xs k) (nthW xs k).key && decide ((nthW xs k).val.size ≤ 64) && !((nthW xs k).del && !emS (nthW xs k).val))) := rfl
      rw [hu] at HQ
      obtain ⟨p, hp⟩ : ∃ p, p = prevW xs k := ⟨_, rfl⟩
      obtain ⟨x, hx⟩ : ∃ x, x = nthW xs k := ⟨_, rfl⟩
      rw [← hx] at c0 c1 c2 hu HQ HP
      rw [← hp] at hu ⊢
      clear hx hp
      obtain ⟨xk, xd, xv⟩ := x
      go_wp2_with fail
      refine (nextKey_is hu _).mono ?_
      rintro e w1 ⟨rfl, hw1⟩
      have d0 : w1.cell? ⟨wr.heap.size, 0, none⟩ = some (.string xk) := cell_later hw1 (by simp [go_sem])
      have d1 : w1.cell? ⟨wr.heap.size, 1, none⟩ = some (.bool xd) := cell_later hw1 (by simp [go_sem])
      have d2 : w1.cell? ⟨wr.heap.size, 2, none⟩ = some (.string xv) := cell_later hw1 (by simp [go_sem])
      replace hb : Below w.heap.size w w1 := Below.on (Below.al hb _) hw1
      clear hw1 hu c0 c1 c2
      cases u
      · go_wp2_with fail
        go_ret
        refine ⟨ret_bool ?_, hb⟩
        rw [writesOk, allB_no (HQ.out.trans (by simp)) _ hlt, Bool.and_false]
      · by_cases hv : 64 < (xv.size : Int)
        · have hv' : decide (64 < (xv.size : Int)) = true := decide_eq_true hv
          go_wp2_with fail
          go_ret
          refine ⟨ret_bool ?_, hb⟩
          rw [writesOk, allB_no (HQ.out.trans (by rw [decide_eq_false (show ¬ xv.size ≤ 64 by omega)]; simp)) _ hlt, Bool.and_false]
        · have HV := hid hv
          have hv' : decide (64 < (xv.size : Int)) = false := decide_eq_false hv
          have hle : decide (xv.size ≤ 64) = true := decide_eq_true (by omega)
          rw [hle] at HQ
          clear hv hle
          cases xd
          · go_wp2_with fail
            go_roundg (xs.length - (k + 1))
            case measure => omega
            case rel => exact ⟨k + 1, by omega, rfl, by rw [HP.out], by go_num, hb, allB_yes HA.out (HQ.out.trans (by simp))⟩
          · obtain ⟨v, hv2⟩ : ∃ v, emS xv = v := ⟨_, rfl⟩
            rw [hv2] at HQ
            have hv3 : xv.toList.isEmpty = v := hv2
            clear hv2
            cases v
            · have hv4 : (xv.toList = []) = False := by simpa using hv3
              go_wp2_with fail
              go_ret
              refine ⟨ret_bool ?_, hb⟩
              rw [writesOk, allB_no (HQ.out.trans (by simp)) _ hlt, Bool.and_false]
            · have hv4 : (xv.toList = []) = True := by simpa using hv3
              go_wp2_with fail
              go_roundg (xs.length - (k + 1))
              case measure => omega
              case rel => exact ⟨k + 1, by omega, rfl, by rw [HP.out], by go_num, hb, allB_yes HA.out (HQ.out.trans (by simp))⟩
    · obtain rfl : k = xs.length := by omega
      go_wp2_with fail
      go_ret
      refine ⟨ret_bool ?_, hb⟩
      rw [writesOk, HA.out, decide_eq_true (by have := H16.out; omega)]; rfl

end Go.Proofs.YtgmkgkoeoibknaaDoor
