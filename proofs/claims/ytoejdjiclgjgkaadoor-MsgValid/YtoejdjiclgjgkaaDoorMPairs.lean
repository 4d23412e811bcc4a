import Derived.Test.YtoejdjiclgjgkaaDoorMReads
namespace Go.Proofs.YtoejdjiclgjgkaaDoor
open Go.RowKit Go.Sort
set_option linter.unusedVariables false

/-- the key ahead of the i-th -/
def prev2 (xs : List T2) (i : Nat) : ByteArray := if i = 0 then ⟨#[]⟩ else (nth2 xs (i - 1)).1
def prevW (xs : List Wr) (i : Nat) : ByteArray := if i = 0 then ⟨#[]⟩ else (nthW xs (i - 1)).key
theorem prev2_succ (xs : List T2) (i : Nat) : prev2 xs (i + 1) = (nth2 xs i).1 := by simp [prev2]
theorem prevW_succ (xs : List Wr) (i : Nat) : prevW xs (i + 1) = (nthW xs i).key := by simp [prevW]
def pairAt (xs : List T2) (i : Nat) : Bool := keyOk (prev2 xs i) (nth2 xs i).1 && decide ((nth2 xs i).2.size ≤ 64)
def pairsOk (xs : List T2) : Bool := decide (xs.length ≤ 512) && allB (pairAt xs) xs.length
def writeAt (xs : List Wr) (i : Nat) : Bool := keyOk (prevW xs i) (nthW xs i).key && decide ((nthW xs i).val.size ≤ 64) && !((nthW xs i).del && !emS (nthW xs i).val)
def writesOk (xs : List Wr) : Bool := decide (xs.length ≤ 16) && allB (writeAt xs) xs.length

theorem leq_less : ∀ a b : List UInt8, (Op.bytesLess a b || a == b) = !Op.bytesLess b a
  | [], [] => rfl
  | [], _ :: _ => rfl
  | _ :: _, [] => rfl
  | a :: x, b :: y => by
    have ih := leq_less x y
    rw [Op.bytesLess, Op.bytesLess]
    rcases Nat.lt_trichotomy a.toNat b.toNat with h | h | h
    · have h1 : a < b := h
      have h2 : ¬ b < a := by show ¬ b.toNat < a.toNat; omega
      have h3 : (b == a) = false := beq_eq_false_iff_ne.2 (fun e => by subst e; omega)
      simp [h1, h2, h3]
    · obtain rfl : a = b := UInt8.toNat.inj h
      have h2 : ¬ a < a := by show ¬ a.toNat < a.toNat; omega
      simp [h2]
      simpa using ih
    · have h1 : b < a := h
      have h2 : ¬ a < b := by show ¬ a.toNat < b.toNat; omega
      have h3 : (a == b) = false := beq_eq_false_iff_ne.2 (fun e => by subst e; omega)
      simp [h1, h2, h3]
/-- may a write stand among valid writes? -/
def wOk (x : Wr) : Bool := (!emS x.key && decide (x.key.size ≤ 32)) && decide (x.val.size ≤ 64) && (!x.del || emS x.val)
theorem em_of_lt {a b : ByteArray} (h : ltS a b = true) : emS b = false := by
  unfold ltS at h; unfold emS
  cases hb : b.toList with
  | nil => rw [hb] at h; cases ha : a.toList <;> rw [ha] at h <;> cases h
  | cons x l => rfl
theorem writeAt_eq (xs : List Wr) (i : Nat) : writeAt xs i = (wOk (nthW xs i) && ltS (prevW xs i) (nthW xs i).key) := by
  unfold writeAt wOk keyOk
  cases h : ltS (prevW xs i) (nthW xs i).key with
  | false => simp
  | true =>
    rw [em_of_lt h]
    cases (nthW xs i).del <;> cases emS (nthW xs i).val <;> simp
theorem vkey_is {a : ByteArray} {u : Bool} (hu : (!emS a && decide (a.size ≤ 32)) = u) (w : World) :
    Calls Tryd.prog 61 #[.string a] w fun e w' => e = .returned (.bool u) ∧ w' = w := by
  subst hu
  have HE : Hid (emS a = decide (a.size = 0)) := em_size a
  by_cases h0 : a.toList = []
  · have HQ : Hid (emS a = true) := by show _ = _; unfold emS; rw [h0]; rfl
    go_enter Tryd.func61, Tryd.ntmps61
    go_wp2_with fail
    go_ret
    exact ⟨ret_bool (by rw [HQ.out]; rfl), rfl⟩
  · have HQ : Hid (emS a = false) := by show _ = _; unfold emS; cases h : a.toList with
      | nil => exact absurd h h0
      | cons _ _ => rfl
    go_enter Tryd.func61, Tryd.ntmps61
    go_wp2_with fail
    go_ret
    exact ⟨ret_bool (by rw [show a.toList.isEmpty = false from HQ.out, HQ.out, Bool.eq_iff_iff]; simp; omega), rfl⟩
theorem vval_is {a : ByteArray} {u : Bool} (hu : decide (a.size ≤ 64) = u) (w : World) :
    Calls Tryd.prog 62 #[.string a] w fun e w' => e = .returned (.bool u) ∧ w' = w := by
  subst hu
  go_enter Tryd.func62, Tryd.ntmps62
  go_wp2_with fail
  go_ret
  exact ⟨ret_bool (by first | rfl | (simp; done) | (simp; omega) | (trace_state; fail)), rfl⟩
theorem vwrite_is {x : Wr} {u : Bool} (hu : wOk x = u) (w : World) :
    Calls Tryd.prog 69 #[.agg #[.string x.key, .bool x.del, .string x.val]] w fun e w' => e = .returned (.bool u) ∧ Below w.heap.size w w' := by
  subst hu
  obtain ⟨k, d, v⟩ := x
  obtain ⟨u1, h1⟩ : ∃ u, (!emS k && decide (k.size ≤ 32)) = u := ⟨_, rfl⟩
  obtain ⟨u2, h2⟩ : ∃ u, decide (v.size ≤ 64) = u := ⟨_, rfl⟩
  obtain ⟨u3, h3⟩ : ∃ u, emS v = u := ⟨_, rfl⟩
  have HQ : Hid (wOk ⟨k, d, v⟩ = (u1 && u2 && (!d || u3))) := by show _ = _; rw [← h1, ← h2, ← h3]; rfl
  have K1 := hid (fun w => vkey_is h1 w)
  have K2 := hid (fun w => vval_is h2 w)
  have h3' : (v.toList = []) = (u3 = true) := by rw [← h3]; simp [emS]
  have H3 : Hid (v.toList.isEmpty = u3) := h3
  clear h1 h2 h3
  cases u1 <;> cases u2 <;> cases d <;> cases u3
  all_goals (try simp only [Bool.false_eq_true] at h3')
  all_goals
    go_enter Tryd.func69, Tryd.ntmps69
    go_wp2_with (first
      | (go_at_call 61; refine (K1.out _).mono ?_; rintro e w' ⟨rfl, rfl⟩)
      | (go_at_call 62; refine (K2.out _).mono ?_; rintro e w' ⟨rfl, rfl⟩))
    go_ret
    exact ⟨ret_bool (by rw [HQ.out]; first | rfl | (rw [H3.out]; rfl)), by (repeat (first | exact Below.refl _ _ | assumption | refine Below.drew ?_ | refine Below.al ?_ _ | refine Below.setCell ?_ (by first | exact Nat.le_refl _ | (simp; omega) | (simp; done)) _ | refine Below.on ?_ (by assumption)))⟩

set_option maxHeartbeats 1000000 in
theorem validWrites_is {a : Option Addr} {c : Nat} {xs : List Wr} {w : World} {u : Bool} (hu : writesOk xs = u) (h : RowW w a xs) (hl : xs.length ≤ 9223372036854775807) :
    Calls Tryd.prog 67 #[.slice a xs.length c] w fun e w' => e = .returned (.bool u) ∧ Below w.heap.size w w' := by
  subst hu
  by_cases h16 : 16 < (xs.length : Int)
  · go_enter Tryd.func67, Tryd.ntmps67
    go_wp2_with fail
    go_ret
    refine ⟨ret_bool ?_, by (repeat (first | exact Below.refl _ _ | assumption | refine Below.drew ?_ | refine Below.al ?_ _ | refine Below.setCell ?_ (by first | exact Nat.le_refl _ | (simp; omega) | (simp; done)) _ | refine Below.on ?_ (by assumption)))⟩
    rw [writesOk, decide_eq_false (by omega)]; rfl
  have H16 := hid h16
  have h16' : decide (16 < (xs.length : Int)) = false := decide_eq_false h16
  clear h16
  go_enter Tryd.func67, Tryd.ntmps67
  go_wp2_with fail
  go_loopg [3, 11] xs.length (fun g s3 s11 wr => ∃ k : Nat, k ≤ xs.length ∧ g = xs.length - k ∧ s3 = .string (prevW xs k) ∧ s11 = .int .i64 k ∧ Below w.heap.size w wr ∧ Hid (allB (writeAt xs) k = true))
  case atStart => exact ⟨0, by omega, by omega, rfl, rfl, Below.refl _ _, rfl⟩
  case round =>
    obtain ⟨k, hk, rfl, rfl, rfl, hb, HA⟩ := hrel
    by_cases hlt : k < xs.length
    · obtain ⟨b, off, rfl, c0, c1, c2⟩ := (h.later hb) k hlt
      obtain ⟨u, hu⟩ : ∃ u, wOk (nthW xs k) = u := ⟨_, rfl⟩
      obtain ⟨v, hv⟩ : ∃ v, ltS (prevW xs k) (nthW xs k).key = v := ⟨_, rfl⟩
      have HP := hid (prevW_succ xs k)
      have HQ : Hid (writeAt xs k = (u && v)) := by show _ = _; rw [writeAt_eq, hu, hv]
      have hle : (Op.bytesLess (nthW xs k).key.toList (prevW xs k).toList || (nthW xs k).key.toList == (prevW xs k).toList) = !v := by rw [leq_less]; rw [← hv]; rfl
      obtain ⟨p, hp⟩ : ∃ p, p = prevW xs k := ⟨_, rfl⟩
      obtain ⟨x, hx⟩ : ∃ x, x = nthW xs k := ⟨_, rfl⟩
      rw [← hx] at c0 c1 c2 hu HP hle
      rw [← hp] at hle ⊢
      have K := hid (fun w => vwrite_is hu w)
      clear hx hp hv hu
      obtain ⟨xk, xd, xv⟩ := x
      cases u
      · go_wp2_with (go_at_call 69; refine (K.out _).mono ?_; rintro e w1 ⟨rfl, hw1⟩)
        go_ret
        refine ⟨ret_bool ?_, Below.on (Below.al hb _) hw1⟩
        rw [writesOk, allB_no (HQ.out.trans (by simp)) _ hlt, Bool.and_false]
      · cases v
        · go_wp2_with (go_at_call 69; refine (K.out _).mono ?_; rintro e w1 ⟨rfl, hw1⟩; have d0 : w1.cell? ⟨wr.heap.size, 0, none⟩ = some (.string xk) := cell_later hw1 (by simp [go_sem]))
          go_ret
          refine ⟨ret_bool ?_, Below.on (Below.al hb _) hw1⟩
          rw [writesOk, allB_no (HQ.out.trans (by simp)) _ hlt, Bool.and_false]
        · go_wp2_with (go_at_call 69; refine (K.out _).mono ?_; rintro e w1 ⟨rfl, hw1⟩; have d0 : w1.cell? ⟨wr.heap.size, 0, none⟩ = some (.string xk) := cell_later hw1 (by simp [go_sem]))
          have hb2 : Below w.heap.size w w1 := Below.on (Below.al hb _) hw1
          go_roundg (xs.length - (k + 1))
          case measure => omega
          case rel => exact ⟨k + 1, by omega, rfl, by rw [HP.out], by go_num, hb2, allB_yes HA.out (HQ.out.trans (by simp))⟩
    · obtain rfl : k = xs.length := by omega
      go_wp2_with fail
      go_ret
      refine ⟨ret_bool ?_, hb⟩
      rw [writesOk, HA.out, decide_eq_true (by have := H16.out; omega)]; rfl
theorem pairAt_eq (xs : List T2) (i : Nat) : pairAt xs i = ((!emS (nth2 xs i).1 && decide ((nth2 xs i).1.size ≤ 32)) && decide ((nth2 xs i).2.size ≤ 64) && ltS (prev2 xs i) (nth2 xs i).1) := by
  unfold pairAt keyOk
  cases h : ltS (prev2 xs i) (nth2 xs i).1 with
  | false => simp
  | true => rw [em_of_lt h]; simp
set_option maxHeartbeats 1000000 in
theorem anyPairs_is {a : Option Addr} {c : Nat} {xs : List T2} {w : World} {u : Bool} (hu : allB (pairAt xs) xs.length = u) (h : Row2 w a xs) (hl : xs.length ≤ 9223372036854775807) :
    Calls Tryd.prog 60 #[.slice a xs.length c] w fun e w' => e = .returned (.bool u) ∧ Below w.heap.size w w' := by
  subst hu
  go_enter Tryd.func60, Tryd.ntmps60
  go_wp2_with fail
  go_loopg [3, 8] xs.length (fun g s3 s8 wr => ∃ k : Nat, k ≤ xs.length ∧ g = xs.length - k ∧ s3 = .string (prev2 xs k) ∧ s8 = .int .i64 k ∧ Below w.heap.size w wr ∧ Hid (allB (pairAt xs) k = true))
  case atStart => exact ⟨0, by omega, by omega, rfl, rfl, Below.refl _ _, rfl⟩
  case round =>
    obtain ⟨k, hk, rfl, rfl, rfl, hb, HA⟩ := hrel
    by_cases hlt : k < xs.length
    · obtain ⟨b, off, rfl, c0, c1⟩ := (h.later hb) k hlt
      obtain ⟨u1, h1⟩ : ∃ u, (!emS (nth2 xs k).1 && decide ((nth2 xs k).1.size ≤ 32)) = u := ⟨_, rfl⟩
      obtain ⟨u2, h2⟩ : ∃ u, decide ((nth2 xs k).2.size ≤ 64) = u := ⟨_, rfl⟩
      obtain ⟨v, hv⟩ : ∃ v, ltS (prev2 xs k) (nth2 xs k).1 = v := ⟨_, rfl⟩
      have HP := hid (prev2_succ xs k)
      have HQ : Hid (pairAt xs k = (u1 && u2 && v)) := by show _ = _; rw [pairAt_eq, h1, h2, hv]
      have hle : (Op.bytesLess (nth2 xs k).1.toList (prev2 xs k).toList || (nth2 xs k).1.toList == (prev2 xs k).toList) = !v := by rw [leq_less]; rw [← hv]; rfl
      obtain ⟨p, hp⟩ : ∃ p, p = prev2 xs k := ⟨_, rfl⟩
      obtain ⟨x, hx⟩ : ∃ x, x = nth2 xs k := ⟨_, rfl⟩
      rw [← hx] at c0 c1 h1 h2 HP hle
      rw [← hp] at hle ⊢
      have K1 := hid (fun w => vkey_is h1 w)
      have K2 := hid (fun w => vval_is h2 w)
      clear hx hp hv h1 h2
      obtain ⟨xk, xv⟩ := x
      cases u1 <;> cases u2 <;> cases v
      case true.true.true =>
        go_wp2_with (first
          | (go_at_call 61; refine (K1.out _).mono ?_; rintro e w' ⟨rfl, rfl⟩)
          | (go_at_call 62; refine (K2.out _).mono ?_; rintro e w' ⟨rfl, rfl⟩))
        go_roundg (xs.length - (k + 1))
        case measure => omega
        case rel => exact ⟨k + 1, by omega, rfl, by rw [HP.out], by go_num, Below.al hb _, allB_yes HA.out (HQ.out.trans (by simp))⟩
      all_goals
        go_wp2_with (first
          | (go_at_call 61; refine (K1.out _).mono ?_; rintro e w' ⟨rfl, rfl⟩)
          | (go_at_call 62; refine (K2.out _).mono ?_; rintro e w' ⟨rfl, rfl⟩))
        go_ret
        refine ⟨ret_bool ?_, Below.al hb _⟩
        rw [allB_no (HQ.out.trans (by simp)) _ hlt]
    · obtain rfl : k = xs.length := by omega
      go_wp2_with fail
      go_ret
      refine ⟨ret_bool ?_, hb⟩
      rw [HA.out]

set_option maxHeartbeats 1000000 in
theorem validPairs_is {a : Option Addr} {c : Nat} {xs : List T2} {w : World} {u : Bool} (hu : pairsOk xs = u) (h : Row2 w a xs) (hl : xs.length ≤ 9223372036854775807) :
    Calls Tryd.prog 59 #[.slice a xs.length c] w fun e w' => e = .returned (.bool u) ∧ Below w.heap.size w w' := by
  subst hu
  have HA := hid (anyPairs_is (c := c) rfl h hl)
  clear h
  by_cases h16 : (xs.length : Int) ≤ 512
  · have HP : Hid (pairsOk xs = allB (pairAt xs) xs.length) := hid (by rw [pairsOk, decide_eq_true (by omega), Bool.true_and])
    go_enter Tryd.func59, Tryd.ntmps59
    go_wp2_with (go_at_call 60; refine HA.out.mono ?_; rintro e w1 ⟨rfl, hb1⟩)
    go_ret
    exact ⟨ret_bool HP.out.symm, hb1⟩
  · have HP : Hid (pairsOk xs = false) := hid (by rw [pairsOk, decide_eq_false (by omega)]; rfl)
    go_enter Tryd.func59, Tryd.ntmps59
    go_wp2_with fail
    go_ret
    exact ⟨ret_bool HP.out.symm, Below.refl _ _⟩

end Go.Proofs.YtoejdjiclgjgkaaDoor
