import Derived.Test.YtmlacdfdpdkdaaaDoorDOnl
import Derived.Laws.Strings
import Derived.Laws.StructEq
import Derived.Handy
/- Rows of spans, pairs and writes; may writes be? -/
namespace Go.Proofs.YtmlacdfdpdkdaaaDoor
open Go.RowKit Go.Sort
set_option linter.unusedVariables false

theorem ret_bool {x u : Bool} (h : x = u) : Ending.returned (.bool x) = Ending.returned (.bool u) := h ▸ rfl
/-- two texts: a span -/
abbrev T2 := ByteArray × ByteArray
/-- a write -/
structure Wr where
  key : ByteArray
  del : Bool
  val : ByteArray

def ltS (a b : ByteArray) : Bool := Op.bytesLess a.toList b.toList
def emS (a : ByteArray) : Bool := a.toList.isEmpty
theorem em_size (a : ByteArray) : emS a = decide (a.size = 0) := by
  rw [emS, ByteArray.toList_eq, Bool.eq_iff_iff]
  simp only [List.isEmpty_iff, decide_eq_true_eq, ByteArray.size]
  cases h : a.data with
  | mk l => cases l <;> simp_all
theorem toList_empty : (ByteArray.mk #[]).toList = ([] : List UInt8) := by rw [ByteArray.toList_eq]
theorem lt_empty (a : ByteArray) : ltS ⟨#[]⟩ a = !emS a := by
  rw [ltS, toList_empty, emS]
  cases h : a.toList <;> rfl
theorem binOp_string_geq (t : TypeId) (a b : ByteArray) : binOp .geq t (.string a) (.string b) = pure (.bool !(Op.bytesLess a.toList b.toList)) := by simp [binOp, Op.stringOp]
theorem leq_less : ∀ a b : List UInt8, (Op.bytesLess a b || a == b) = !Op.bytesLess b a
  | [], [] => rfl
  | [], _ :: _ => rfl
  | _ :: _, [] => rfl
  | a :: x, b :: y => by
    have ih := leq_less x y
    rw [Op.bytesLess, Op.bytesLess]
    rcases Nat.lt_trichotomy a.toNat b.toNat with h | h | h
    · have h1 : a < b := h
      have h2 : ¬ b < a := by show ¬ b.toNat < a.toNat; omega
      have h3 : (b == a) = false := beq_eq_false_iff_ne.2 (fun e => by subst e; omega)
      simp [h1, h2, h3]
    · obtain rfl : a = b := UInt8.toNat.inj h
      have h2 : ¬ a < a := by show ¬ a.toNat < a.toNat; omega
      simp [h2]
      simpa using ih
    · have h1 : b < a := h
      have h2 : ¬ a < b := by show ¬ a.toNat < b.toNat; omega
      have h3 : (a == b) = false := beq_eq_false_iff_ne.2 (fun e => by subst e; omega)
      simp [h1, h2, h3]
theorem binOp_string_leq (t : TypeId) (a b : ByteArray) : binOp .leq t (.string a) (.string b) = pure (.bool !(Op.bytesLess b.toList a.toList)) := by
  rw [← leq_less]; simp [binOp, Op.stringOp]

/-- the i-th, nothing where there is none -/
def nth2 (xs : List T2) (i : Nat) : T2 := (xs[i]?).getD (⟨#[]⟩, ⟨#[]⟩)
def nthW (xs : List Wr) (i : Nat) : Wr := (xs[i]?).getD ⟨⟨#[]⟩, false, ⟨#[]⟩⟩
def Row2 (w : World) (a : Option Addr) (xs : List T2) : Prop :=
  ∀ i, i < xs.length → ∃ b off, a = some ⟨b, off, none⟩ ∧ w.cell? ⟨b, off + i * 2, none⟩ = some (.string (nth2 xs i).1) ∧ w.cell? ⟨b, off + i * 2 + 1, none⟩ = some (.string (nth2 xs i).2)
def RowW (w : World) (a : Option Addr) (xs : List Wr) : Prop :=
  ∀ i, i < xs.length → ∃ b off, a = some ⟨b, off, none⟩ ∧ w.cell? ⟨b, off + i * 3, none⟩ = some (.string (nthW xs i).key) ∧ w.cell? ⟨b, off + i * 3 + 1, none⟩ = some (.bool (nthW xs i).del) ∧ w.cell? ⟨b, off + i * 3 + 2, none⟩ = some (.string (nthW xs i).val)
theorem Row2.later {w w' : World} {a : Option Addr} {xs : List T2} (h : Row2 w a xs) (hb : Below w.heap.size w w') : Row2 w' a xs := fun i hi => by
  obtain ⟨b, off, e, h0, h1⟩ := h i hi
  exact ⟨b, off, e, cell_later hb h0, cell_later hb h1⟩
theorem RowW.later {w w' : World} {a : Option Addr} {xs : List Wr} (h : RowW w a xs) (hb : Below w.heap.size w w') : RowW w' a xs := fun i hi => by
  obtain ⟨b, off, e, h0, h1, h2⟩ := h i hi
  exact ⟨b, off, e, cell_later hb h0, cell_later hb h1, cell_later hb h2⟩
theorem nth2_take {xs : List T2} {k : Nat} (h : k < xs.length) : xs.take (k + 1) = xs.take k ++ [nth2 xs k] := by
  rw [List.take_succ_eq_append_getElem h]; simp [nth2, h]
theorem nthW_take {xs : List Wr} {k : Nat} (h : k < xs.length) : xs.take (k + 1) = xs.take k ++ [nthW xs k] := by
  rw [List.take_succ_eq_append_getElem h]; simp [nthW, h]

/-- all of the first n -/
def allB (p : Nat → Bool) : Nat → Bool
  | 0 => true
  | n + 1 => allB p n && p n
theorem allB_no {p : Nat → Bool} {k : Nat} (h : p k = false) : ∀ n, k < n → allB p n = false
  | 0, hn => by omega
  | n + 1, hn => by
    by_cases e : k = n
    · subst e; rw [allB, h, Bool.and_false]
    · rw [allB, allB_no h n (by omega), Bool.false_and]
theorem allB_yes {p : Nat → Bool} {k : Nat} (h : allB p k = true) (h' : p k = true) : allB p (k + 1) = true := by rw [allB, h, h']; rfl
/-- may a key stand behind last? -/
def keyOk (last key : ByteArray) : Bool := ltS last key && decide (key.size ≤ 32)
def prevW (xs : List Wr) (i : Nat) : ByteArray := if i = 0 then ⟨#[]⟩ else (nthW xs (i - 1)).key
theorem prevW_succ (xs : List Wr) (i : Nat) : prevW xs (i + 1) = (nthW xs i).key := by simp [prevW]
def writeAt (xs : List Wr) (i : Nat) : Bool := keyOk (prevW xs i) (nthW xs i).key && decide ((nthW xs i).val.size ≤ 64) && !((nthW xs i).del && !emS (nthW xs i).val)
def writesOk (xs : List Wr) : Bool := decide (xs.length ≤ 16) && allB (writeAt xs) xs.length

end Go.Proofs.YtmlacdfdpdkdaaaDoor
/- Package valid: keys, values, writes, stamps. -/
namespace Go.Proofs.YtmlacdfdpdkdaaaDoor
open Go.RowKit Go.Sort
set_option linter.unusedVariables false

/-- may a write stand among valid writes? -/
def wOk (x : Wr) : Bool := (!emS x.key && decide (x.key.size ≤ 32)) && decide (x.val.size ≤ 64) && (!x.del || emS x.val)
theorem em_of_lt {a b : ByteArray} (h : ltS a b = true) : emS b = false := by
  unfold ltS at h; unfold emS
  cases hb : b.toList with
  | nil => rw [hb] at h; cases ha : a.toList <;> rw [ha] at h <;> cases h
  | cons x l => rfl
theorem writeAt_eq (xs : List Wr) (i : Nat) : writeAt xs i = (wOk (nthW xs i) && ltS (prevW xs i) (nthW xs i).key) := by
  unfold writeAt wOk keyOk
  cases h : ltS (prevW xs i) (nthW xs i).key with
  | false => simp
  | true =>
    rw [em_of_lt h]
    cases (nthW xs i).del <;> cases emS (nthW xs i).val <;> simp
theorem vkey_is {a : ByteArray} {u : Bool} (hu : (!emS a && decide (a.size ≤ 32)) = u) (w : World) :
    Calls Tryd.prog 69 #[.string a] w fun e w' => e = .returned (.bool u) ∧ w' = w := by
  subst hu
  have HE : Hid (emS a = decide (a.size = 0)) := em_size a
  by_cases h0 : a.toList = []
  · have HQ : Hid (emS a = true) := by show _ = _; unfold emS; rw [h0]; rfl
    go_enter Tryd.func69, Tryd.ntmps69
    go_wp2_with fail
    go_ret
    exact ⟨ret_bool (by rw [HQ.out]; rfl), rfl⟩
  · have HQ : Hid (emS a = false) := by show _ = _; unfold emS; cases h : a.toList with
      | nil => exact absurd h h0
      | cons _ _ => rfl
    go_enter Tryd.func69, Tryd.ntmps69
    go_wp2_with fail
    go_ret
    exact ⟨ret_bool (by rw [show a.toList.isEmpty = false from HQ.out, HQ.out, Bool.eq_iff_iff]; simp; omega), rfl⟩
theorem vval_is {a : ByteArray} {u : Bool} (hu : decide (a.size ≤ 64) = u) (w : World) :
    Calls Tryd.prog 70 #[.string a] w fun e w' => e = .returned (.bool u) ∧ w' = w := by
  subst hu
  go_enter Tryd.func70, Tryd.ntmps70
  go_wp2_with fail
  go_ret
  exact ⟨ret_bool (by first | rfl | (simp; done) | (simp; omega) | (trace_state; fail)), rfl⟩
theorem vwrite_is {x : Wr} {u : Bool} (hu : wOk x = u) (w : World) :
    Calls Tryd.prog 47 #[.agg #[.string x.key, .bool x.del, .string x.val]] w fun e w' => e = .returned (.bool u) ∧ Below w.heap.size w w' := by
  subst hu
  obtain ⟨k, d, v⟩ := x
  obtain ⟨u1, h1⟩ : ∃ u, (!emS k && decide (k.size ≤ 32)) = u := ⟨_, rfl⟩
  obtain ⟨u2, h2⟩ : ∃ u, decide (v.size ≤ 64) = u := ⟨_, rfl⟩
  obtain ⟨u3, h3⟩ : ∃ u, emS v = u := ⟨_, rfl⟩
  have HQ : Hid (wOk ⟨k, d, v⟩ = (u1 && u2 && (!d || u3))) := by show _ = _; rw [← h1, ← h2, ← h3]; rfl
  have K1 := hid (fun w => vkey_is h1 w)
  have K2 := hid (fun w => vval_is h2 w)
  have h3' : (v.toList = []) = (u3 = true) := by rw [← h3]; simp [emS]
  have H3 : Hid (v.toList.isEmpty = u3) := h3
  clear h1 h2 h3
  cases u1 <;> cases u2 <;> cases d <;> cases u3
  all_goals (try simp only [Bool.false_eq_true] at h3')
  all_goals
    go_enter Tryd.func47, Tryd.ntmps47
    go_wp2_with (first
      | (go_at_call 69; refine (K1.out _).mono ?_; rintro e w' ⟨rfl, rfl⟩)
      | (go_at_call 70; refine (K2.out _).mono ?_; rintro e w' ⟨rfl, rfl⟩))
    go_ret
    exact ⟨ret_bool (by rw [HQ.out]; first | rfl | (rw [H3.out]; rfl)), by (repeat (first | exact Below.refl _ _ | assumption | refine Below.drew ?_ | refine Below.al ?_ _ | refine Below.setCell ?_ (by first | exact Nat.le_refl _ | (simp; omega) | (simp; done)) _ | refine Below.on ?_ (by assumption)))⟩

set_option maxHeartbeats 1000000 in
theorem validWrites_is {a : Option Addr} {c : Nat} {xs : List Wr} {w : World} {u : Bool} (hu : writesOk xs = u) (h : RowW w a xs) (hl : xs.length ≤ 9223372036854775807) :
    Calls Tryd.prog 13 #[.slice a xs.length c] w fun e w' => e = .returned (.bool u) ∧ Below w.heap.size w w' := by
  subst hu
  by_cases h16 : 16 < (xs.length : Int)
  · go_enter Tryd.func13, Tryd.ntmps13
    go_wp2_with fail
    go_ret
    refine ⟨ret_bool ?_, by (repeat (first | exact Below.refl _ _ | assumption | refine Below.drew ?_ | refine Below.al ?_ _ | refine Below.setCell ?_ (by first | exact Nat.le_refl _ | (simp; omega) | (simp; done)) _ | refine Below.on ?_ (by assumption)))⟩
    rw [writesOk, decide_eq_false (by omega)]; rfl
  have H16 := hid h16
  have h16' : decide (16 < (xs.length : Int)) = false := decide_eq_false h16
  clear h16
  go_enter Tryd.func13, Tryd.ntmps13
  go_wp2_with fail
  go_loopg [3, 11] xs.length (fun g s3 s11 wr => ∃ k : Nat, k ≤ xs.length ∧ g = xs.length - k ∧ s3 = .string (prevW xs k) ∧ s11 = .int .i64 k ∧ Below w.heap.size w wr ∧ Hid (allB (writeAt xs) k = true))
  case atStart => exact ⟨0, by omega, by omega, rfl, rfl, Below.refl _ _, rfl⟩
  case round =>
    obtain ⟨k, hk, rfl, rfl, rfl, hb, HA⟩ := hrel
    by_cases hlt : k < xs.length
    · obtain ⟨b, off, rfl, c0, c1, c2⟩ := (h.later hb) k hlt
      obtain ⟨u, hu⟩ : ∃ u, wOk (nthW xs k) = u := ⟨_, rfl⟩
      obtain ⟨v, hv⟩ : ∃ v, ltS (prevW xs k) (nthW xs k).key = v := ⟨_, rfl⟩
      have HP := hid (prevW_succ xs k)
      have HQ : Hid (writeAt xs k = (u && v)) := by show _ = _; rw [writeAt_eq, hu, hv]
      have hle : (Op.bytesLess (nthW xs k).key.toList (prevW xs k).toList || (nthW xs k).key.toList == (prevW xs k).toList) = !v := by rw [leq_less]; rw [← hv]; rfl
      obtain ⟨p, hp⟩ : ∃ p, p = prevW xs k := ⟨_, rfl⟩
      obtain ⟨x, hx⟩ : ∃ x, x = nthW xs k := ⟨_, rfl⟩
      rw [← hx] at c0 c1 c2 hu HP hle
      rw [← hp] at hle ⊢
      have K := hid (fun w => vwrite_is hu w)
      clear hx hp hv hu
      obtain ⟨xk, xd, xv⟩ := x
      cases u
      · go_wp2_with (go_at_call 47; refine (K.out _).mono ?_; rintro e w1 ⟨rfl, hw1⟩)
        go_ret
        refine ⟨ret_bool ?_, Below.on (Below.al hb _) hw1⟩
        rw [writesOk, allB_no (HQ.out.trans (by simp)) _ hlt, Bool.and_false]
      · cases v
        · go_wp2_with (go_at_call 47; refine (K.out _).mono ?_; rintro e w1 ⟨rfl, hw1⟩; have d0 : w1.cell? ⟨wr.heap.size, 0, none⟩ = some (.string xk) := cell_later hw1 (by simp [go_sem]))
          go_ret
          refine ⟨ret_bool ?_, Below.on (Below.al hb _) hw1⟩
          rw [writesOk, allB_no (HQ.out.trans (by simp)) _ hlt, Bool.and_false]
        · go_wp2_with (go_at_call 47; refine (K.out _).mono ?_; rintro e w1 ⟨rfl, hw1⟩; have d0 : w1.cell? ⟨wr.heap.size, 0, none⟩ = some (.string xk) := cell_later hw1 (by simp [go_sem]))
          have hb2 : Below w.heap.size w w1 := Below.on (Below.al hb _) hw1
          go_roundg (xs.length - (k + 1))
          case measure => omega
          case rel => exact ⟨k + 1, by omega, rfl, by rw [HP.out], by go_num, hb2, allB_yes HA.out (HQ.out.trans (by simp))⟩
    · obtain rfl : k = xs.length := by omega
      go_wp2_with fail
      go_ret
      refine ⟨ret_bool ?_, hb⟩
      rw [writesOk, HA.out, decide_eq_true (by have := H16.out; omega)]; rfl

theorem usable_is {a b c : Int} (w : World) :
    Calls Tryd.prog 12 #[stv a b c] w fun e w' => e = .returned (.bool (decide (a < 18446744073709551615))) ∧ Below w.heap.size w w' := by
  go_enter Tryd.func12, Tryd.ntmps12
  go_wp2_with fail
  go_ret
  exact ⟨ret_bool (by simp), by (repeat (first | exact Below.refl _ _ | assumption | refine Below.drew ?_ | refine Below.al ?_ _ | refine Below.setCell ?_ (by first | exact Nat.le_refl _ | (simp; omega) | (simp; done)) _ | refine Below.on ?_ (by assumption)))⟩

end Go.Proofs.YtmlacdfdpdkdaaaDoor
namespace Go.Proofs.YtmlacdfdpdkdaaaDoor
open Go.RowKit

set_option maxHeartbeats 400000 in
theorem less_any (a b c x y z : Int) (w : World) :
    Calls Tryd.prog 15 #[stv a b c, stv x y z] w fun e w' => e = .returned (.bool (lessB a b c x y z)) ∧ Below w.heap.size w w' := by
  by_cases h1 : a = x
  · by_cases h2 : b = y
    · subst h1 h2
      go_enter Tryd.func15, Tryd.ntmps15
      go_wp2
      go_ret
      exact ⟨by simp [lessB], ((Below.refl _ _).alloc (Nat.le_refl _) _).alloc (by simp) _⟩
    · subst h1
      have h2' : (b != y) = true := by simpa using h2
      go_enter Tryd.func15, Tryd.ntmps15
      go_wp2
      go_ret
      exact ⟨by simp [lessB, h2], ((Below.refl _ _).alloc (Nat.le_refl _) _).alloc (by simp) _⟩
  · have h1' : (a != x) = true := by simpa using h1
    go_enter Tryd.func15, Tryd.ntmps15
    go_wp2
    go_ret
    exact ⟨by simp [lessB, h1], ((Below.refl _ _).alloc (Nat.le_refl _) _).alloc (by simp) _⟩

theorem less_is {a b c x y z : Int} {v : Bool} (h : lessB a b c x y z = v) (w : World) :
    Calls Tryd.prog 15 #[stv a b c, stv x y z] w fun e w' => e = .returned (.bool v) ∧ Below w.heap.size w w' := h ▸ less_any a b c x y z w

end Go.Proofs.YtmlacdfdpdkdaaaDoor
