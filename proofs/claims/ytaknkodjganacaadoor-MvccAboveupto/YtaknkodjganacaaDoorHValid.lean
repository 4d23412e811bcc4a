import Derived.Test.YtaknkodjganacaaDoorGRows
/- Package valid: keys, values, writes, stamps. -/
namespace Go.Proofs.YtaknkodjganacaaDoor
open Go.RowKit Go.Sort
set_option linter.unusedVariables false

/-- may a write stand among valid writes? -/
def wOk (x : Wr) : Bool := (!emS x.key && decide (x.key.size ≤ 32)) && decide (x.val.size ≤ 64) && (!x.del || emS x.val)
theorem em_of_lt {a b : ByteArray} (h : ltS a b = true) : emS b = false := by
  unfold ltS at h; unfold emS
  cases hb : b.toList with
  | nil => rw [hb] at h; cases ha : a.toList <;> rw [ha] at h <;> cases h
  | cons x l => rfl
theorem writeAt_eq (xs : List Wr) (i : Nat) : writeAt xs i = (wOk (nthW xs i) && ltS (prevW xs i) (nthW xs i).key) := by
  unfold writeAt wOk keyOk
  cases h : ltS (prevW xs i) (nthW xs i).key with
  | false => simp
  | true =>
    rw [em_of_lt h]
    cases (nthW xs i).del <;> cases emS (nthW xs i).val <;> simp
theorem vkey_is {a : ByteArray} {u : Bool} (hu : (!emS a && decide (a.size ≤ 32)) = u) (w : World) :
    Calls Tryd.prog 54 #[.string a] w fun e w' => e = .returned (.bool u) ∧ w' = w := by
  subst hu
  have HE : Hid (emS a = decide (a.size = 0)) := em_size a
  by_cases h0 : a.toList = []
  · have HQ : Hid (emS a = true) := by show _ = _; unfold emS; rw [h0]; rfl
    go_enter Tryd.func54, Tryd.ntmps54
    go_wp2_with fail
    go_ret
    exact ⟨ret_bool (by rw [HQ.out]; rfl), rfl⟩
  · have HQ : Hid (emS a = false) := by show _ = _; unfold emS; cases h : a.toList with
      | nil => exact absurd h h0
      | cons _ _ => rfl
    go_enter Tryd.func54, Tryd.ntmps54
    go_wp2_with fail
    go_ret
    exact ⟨ret_bool (by rw [show a.toList.isEmpty = false from HQ.out, HQ.out, Bool.eq_iff_iff]; simp; omega), rfl⟩
theorem vval_is {a : ByteArray} {u : Bool} (hu : decide (a.size ≤ 64) = u) (w : World) :
    Calls Tryd.prog 55 #[.string a] w fun e w' => e = .returned (.bool u) ∧ w' = w := by
  subst hu
  go_enter Tryd.func55, Tryd.ntmps55
  go_wp2_with fail
  go_ret
  exact ⟨ret_bool (by first | rfl | (simp; done) | (simp; omega) | (trace_state; fail)), rfl⟩
theorem vwrite_is {x : Wr} {u : Bool} (hu : wOk x = u) (w : World) :
    Calls Tryd.prog 45 #[.agg #[.string x.key, .bool x.del, .string x.val]] w fun e w' => e = .returned (.bool u) ∧ Below w.heap.size w w' := by
  subst hu
  obtain ⟨k, d, v⟩ := x
  obtain ⟨u1, h1⟩ : ∃ u, (!emS k && decide (k.size ≤ 32)) = u := ⟨_, rfl⟩
  obtain ⟨u2, h2⟩ : ∃ u, decide (v.size ≤ 64) = u := ⟨_, rfl⟩
  obtain ⟨u3, h3⟩ : ∃ u, emS v = u := ⟨_, rfl⟩
  have HQ : Hid (wOk ⟨k, d, v⟩ = (u1 && u2 && (!d || u3))) := by show _ = _; rw [← h1, ← h2, ← h3]; rfl
  have K1 := hid (fun w => vkey_is h1 w)
  have K2 := hid (fun w => vval_is h2 w)
  have h3' : (v.toList = []) = (u3 = true) := by rw [← h3]; simp [emS]
  have H3 : Hid (v.toList.isEmpty = u3) := h3
  clear h1 h2 h3
  cases u1 <;> cases u2 <;> cases d <;> cases u3
  all_goals (try simp only [Bool.false_eq_true] at h3')
  all_goals
    go_enter Tryd.func45, Tryd.ntmps45
    go_wp2_with (first
      | (go_at_call 54; refine (K1.out _).mono ?_; rintro e w' ⟨rfl, rfl⟩)
      | (go_at_call 55; refine (K2.out _).mono ?_; rintro e w' ⟨rfl, rfl⟩))
    go_ret
    exact ⟨ret_bool (by rw [HQ.out]; first | rfl | (rw [H3.out]; rfl)), by (repeat (first | exact Below.refl _ _ | assumption | refine Below.drew ?_ | refine Below.al ?_ _ | refine Below.setCell ?_ (by first | exact Nat.le_refl _ | (simp; omega) | (simp; done)) _ | refine Below.on ?_ (by assumption)))⟩

set_option maxHeartbeats 1000000 in
theorem validWrites_is {a : Option Addr} {c : Nat} {xs : List Wr} {w : World} {u : Bool} (hu : writesOk xs = u) (h : RowW w a xs) (hl : xs.length ≤ 9223372036854775807) :
    Calls Tryd.prog 30 #[.slice a xs.length c] w fun e w' => e = .returned (.bool u) ∧ Below w.heap.size w w' := by
  subst hu
  by_cases h16 : 16 < (xs.length : Int)
  · go_enter Tryd.func30, Tryd.ntmps30
    go_wp2_with fail
    go_ret
    refine ⟨ret_bool ?_, by (repeat (first | exact Below.refl _ _ | assumption | refine Below.drew ?_ | refine Below.al ?_ _ | refine Below.setCell ?_ (by first | exact Nat.le_refl _ | (simp; omega) | (simp; done)) _ | refine Below.on ?_ (by assumption)))⟩
    rw [writesOk, decide_eq_false (by omega)]; rfl
  have H16 := hid h16
  have h16' : decide (16 < (xs.length : Int)) = false := decide_eq_false h16
  clear h16
  go_enter Tryd.func30, Tryd.ntmps30
  go_wp2_with fail
  go_loopg [3, 11] xs.length (fun g s3 s11 wr => ∃ k : Nat, k ≤ xs.length ∧ g = xs.length - k ∧ s3 = .string (prevW xs k) ∧ s11 = .int .i64 k ∧ Below w.heap.size w wr ∧ Hid (allB (writeAt xs) k = true))
  case atStart => exact ⟨0, by omega, by omega, rfl, rfl, Below.refl _ _, rfl⟩
  case round =>
    obtain ⟨k, hk, rfl, rfl, rfl, hb, HA⟩ := hrel
    by_cases hlt : k < xs.length
    · obtain ⟨b, off, rfl, c0, c1, c2⟩ := (h.later hb) k hlt
      obtain ⟨u, hu⟩ : ∃ u, wOk (nthW xs k) = u := ⟨_, rfl⟩
      obtain ⟨v, hv⟩ : ∃ v, ltS (prevW xs k) (nthW xs k).key = v := ⟨_, rfl⟩
      have HP := hid (prevW_succ xs k)
      have HQ : Hid (writeAt xs k = (u && v)) := by show _ = _; rw [writeAt_eq, hu, hv]
      have hle : (Op.bytesLess (nthW xs k).key.toList (prevW xs k).toList || (nthW xs k).key.toList == (prevW xs k).toList) = !v := by rw [leq_less]; rw [← hv]; rfl
      obtain ⟨p, hp⟩ : ∃ p, p = prevW xs k := ⟨_, rfl⟩
      obtain ⟨x, hx⟩ : ∃ x, x = nthW xs k := ⟨_, rfl⟩
      rw [← hx] at c0 c1 c2 hu HP hle
      rw [← hp] at hle ⊢
      have K := hid (fun w => vwrite_is hu w)
      clear hx hp hv hu
      obtain ⟨xk, xd, xv⟩ := x
      cases u
      · go_wp2_with (go_at_call 45; refine (K.out _).mono ?_; rintro e w1 ⟨rfl, hw1⟩)
        go_ret
        refine ⟨ret_bool ?_, Below.on (Below.al hb _) hw1⟩
        rw [writesOk, allB_no (HQ.out.trans (by simp)) _ hlt, Bool.and_false]
      · cases v
        · go_wp2_with (go_at_call 45; refine (K.out _).mono ?_; rintro e w1 ⟨rfl, hw1⟩; have d0 : w1.cell? ⟨wr.heap.size, 0, none⟩ = some (.string xk) := cell_later hw1 (by simp [go_sem]))
          go_ret
          refine ⟨ret_bool ?_, Below.on (Below.al hb _) hw1⟩
          rw [writesOk, allB_no (HQ.out.trans (by simp)) _ hlt, Bool.and_false]
        · go_wp2_with (go_at_call 45; refine (K.out _).mono ?_; rintro e w1 ⟨rfl, hw1⟩; have d0 : w1.cell? ⟨wr.heap.size, 0, none⟩ = some (.string xk) := cell_later hw1 (by simp [go_sem]))
          have hb2 : Below w.heap.size w w1 := Below.on (Below.al hb _) hw1
          go_roundg (xs.length - (k + 1))
          case measure => omega
          case rel => exact ⟨k + 1, by omega, rfl, by rw [HP.out], by go_num, hb2, allB_yes HA.out (HQ.out.trans (by simp))⟩
    · obtain rfl : k = xs.length := by omega
      go_wp2_with fail
      go_ret
      refine ⟨ret_bool ?_, hb⟩
      rw [writesOk, HA.out, decide_eq_true (by have := H16.out; omega)]; rfl

theorem usable_is {a b c : Int} (w : World) :
    Calls Tryd.prog 29 #[stv a b c] w fun e w' => e = .returned (.bool (decide (a < 18446744073709551615))) ∧ Below w.heap.size w w' := by
  go_enter Tryd.func29, Tryd.ntmps29
  go_wp2_with fail
  go_ret
  exact ⟨ret_bool (by simp), by (repeat (first | exact Below.refl _ _ | assumption | refine Below.drew ?_ | refine Below.al ?_ _ | refine Below.setCell ?_ (by first | exact Nat.le_refl _ | (simp; omega) | (simp; done)) _ | refine Below.on ?_ (by assumption)))⟩

end Go.Proofs.YtaknkodjganacaaDoor
