import Derived.Test.YtdllhkjdckcgmaaDoorIRef
namespace Go.Proofs.YtdllhkjdckcgmaaDoor
open Go.RowKit Go.Sort
set_option linter.unusedVariables false

theorem leq_less : ∀ a b : List UInt8, (Op.bytesLess a b || a == b) = !Op.bytesLess b a
  | a, b => by
    rcases bless_tri a b with h | h | h
    · subst h; rw [bless_irrefl]; simp
    · have h2 : Op.bytesLess b a = false := by
        cases hb : Op.bytesLess b a with
        | false => rfl
        | true => exact absurd (bless_trans _ _ _ h hb) (by rw [bless_irrefl]; decide)
      rw [h, h2]; rfl
    · have h2 : Op.bytesLess a b = false := by
        cases hb : Op.bytesLess a b with
        | false => rfl
        | true => exact absurd (bless_trans _ _ _ h hb) (by rw [bless_irrefl]; decide)
      have h3 : (a == b) = false := by
        rw [beq_eq_false_iff_ne]; intro e; subst e; rw [bless_irrefl] at h; cases h
      rw [h, h2, h3]; rfl

theorem in_is {k lo hi : ByteArray} {u : Bool} (hu : inS lo hi k = u) (w : World) :
    Calls Tryd.prog 43 #[.string k, .agg #[.string lo, .string hi]] w fun e w' => e = .returned (.bool u) ∧ Below w.heap.size w w' := by
  subst hu
  obtain ⟨b1, h1⟩ : ∃ b, Op.bytesLess k.toList lo.toList = b := ⟨_, rfl⟩
  have hle : (Op.bytesLess lo.toList k.toList || lo.toList == k.toList) = !b1 := by rw [leq_less, h1]
  obtain ⟨b2, h2⟩ : ∃ b, hi.toList.isEmpty = b := ⟨_, rfl⟩
  obtain ⟨b3, h3⟩ : ∃ b, Op.bytesLess k.toList hi.toList = b := ⟨_, rfl⟩
  have HQ : Hid (inS lo hi k = (!b1 && (b2 || b3))) := by show _ = _; rw [inS, lt, lt, h1, h2, h3]
  have h2' : (hi.toList = []) = (b2 = true) := by rw [← h2]; simp
  clear h1
  cases b1 <;> cases b2 <;> cases b3
  all_goals (try simp only [Bool.false_eq_true] at h2')
  all_goals
    go_enter Tryd.func43, Tryd.ntmps43
    go_wp2_with fail
    go_ret
    exact ⟨ret_boolI (by rw [HQ.out]; simp), by (repeat (first | exact Below.refl _ _ | assumption | refine Below.drew ?_ | refine Below.al ?_ _ | refine Below.setCell ?_ (by first | exact Nat.le_refl _ | (simp; omega) | (simp; done)) _ | refine Below.on ?_ (by assumption)))⟩

set_option maxHeartbeats 1000000 in
theorem has_is {a : Option Addr} {c : Nat} {l : List En} {k : ByteArray} {w : World} {u : Bool} (hu : l.any (fun e => decide (e.1 = k)) = u) (h : RowE w a l) (hl : l.length ≤ 9223372036854775807) :
    Calls Tryd.prog 42 #[.slice a l.length c, .string k] w fun e w' => e = .returned (.bool u) ∧ w' = w := by
  subst hu
  have HR := hid h
  clear h
  go_enter Tryd.func42, Tryd.ntmps42
  go_wp2_with fail
  go_loopg [5] l.length (fun g s5 wr => ∃ i : Nat, i ≤ l.length ∧ g = l.length - i ∧ s5 = .int .i64 i ∧ Hid ((l.take i).any (fun e => decide (e.1 = k)) = false) ∧ wr = w)
  case atStart => exact ⟨0, by omega, by omega, rfl, rfl, rfl⟩
  case round =>
    obtain ⟨i, hi, rfl, rfl, HA, rfl⟩ := hrel
    by_cases hlt : i < l.length
    · obtain ⟨b, off, rfl, d0, d1⟩ := HR.out i hlt
      obtain ⟨x, hx⟩ : ∃ x, x = nthE l i := ⟨_, rfl⟩
      rw [← hx] at d0 d1
      have HT : Hid (l.take (i + 1) = l.take i ++ [x]) := by show _ = _; rw [nthE_take hlt, hx]
      have HM : Hid (x ∈ l) := by show _ ∈ _; rw [hx, nthE, List.getElem?_eq_getElem hlt]; exact List.getElem_mem hlt
      clear hx
      by_cases hk : x.1 = k
      · have q1 := toList_beq (decide_eq_true hk)
        have HE : Hid (l.any (fun e => decide (e.1 = k)) = true) := List.any_eq_true.2 ⟨x, HM.out, decide_eq_true hk⟩
        clear hk
        go_wp2_with fail
        go_ret
        exact ⟨ret_boolI HE.out.symm, rfl⟩
      · have q1 := toList_beq (decide_eq_false hk)
        have HA2 : Hid ((l.take (i + 1)).any (fun e => decide (e.1 = k)) = false) := by show _ = _; rw [HT.out, List.any_append, HA.out]; simp [hk]
        clear hk
        go_wp2_with fail
        go_roundg (l.length - (i + 1))
        case measure => omega
        case rel => exact ⟨i + 1, by omega, rfl, by go_num, HA2, rfl⟩
    · obtain rfl : i = l.length := by omega
      have HE : Hid (l.any (fun e => decide (e.1 = k)) = false) := by have := HA.out; rw [List.take_of_length_le (Nat.le_refl _)] at this; exact this
      go_wp2_with fail
      go_ret
      exact ⟨ret_boolI HE.out.symm, rfl⟩

/-- one more, ahead of the first that is greater -/
def ins : List En → En → List En
  | [], e => [e]
  | x :: l, e => if lt e.1 x.1 then e :: x :: l else x :: ins l e
theorem ins_snoc (m : List En) (x e : En) : ins (m ++ [x]) e = if m.any (fun y => lt e.1 y.1) then ins m e ++ [x] else if lt e.1 x.1 then m ++ [e, x] else m ++ [x, e] := by
  induction m with
  | nil => simp only [List.nil_append, ins, List.any_nil]; split <;> simp
  | cons y m ih =>
    simp only [List.cons_append, ins, List.any_cons]
    by_cases h : lt e.1 y.1 = true
    · simp [h]
    · have hf : lt e.1 y.1 = false := Bool.eq_false_iff.2 h
      rw [hf, ih]
      simp only [Bool.false_or, Bool.false_eq_true, if_false]
      split
      · rfl
      · split <;> rfl
theorem ins_none (m : List En) (e : En) (h : m.any (fun y => lt e.1 y.1) = false) : ins m e = m ++ [e] := by
  induction m with
  | nil => rfl
  | cons y m ih =>
    simp only [List.any_cons, Bool.or_eq_false_iff] at h
    simp [ins, h.1, ih h.2]
theorem ins_set {l : List En} (hr : Rising l) (e : En) (h : l.any (fun y => decide (y.1 = e.1)) = false) : ins l e = setX l e.1 e.2 := by
  induction l with
  | nil => rfl
  | cons y l ih =>
    simp only [List.any_cons, Bool.or_eq_false_iff, decide_eq_false_iff_not] at h
    have hr' := List.pairwise_cons.1 hr
    simp only [ins, setX]
    rcases lt_tri y.1 e.1 with h1 | h1 | h1
    · exact absurd h1 h.1
    · rw [if_pos h1, lt_asymm h1, if_neg (by decide), ih hr'.2 h.2]
    · rw [if_pos h1, lt_asymm h1, if_neg (by decide), if_neg h.1]

end Go.Proofs.YtdllhkjdckcgmaaDoor
