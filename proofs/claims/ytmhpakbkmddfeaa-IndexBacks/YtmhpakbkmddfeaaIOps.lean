import Derived.Test.YtmhpakbkmddfeaaIIndex
namespace Go.Proofs.Ytmhpakbkmddfeaa
open Go.RowKit Go.Sort
set_option linter.unusedVariables false

/-- a step of a script -/
structure Ao where
  k : Int
  pl : Int
  key : ByteArray
  hi : ByteArray
  v : Int
  st : Int
def zao : Ao := ⟨0, 0, ⟨#[]⟩, ⟨#[]⟩, 0, 0⟩
def nthO (l : List Ao) (i : Nat) : Ao := (l[i]?).getD zao
theorem nthO_take {l : List Ao} {i : Nat} (h : i < l.length) : l.take (i + 1) = l.take i ++ [nthO l i] := by
  rw [List.take_add_one, nthO, List.getElem?_eq_getElem h]; rfl
theorem nthO_mem {l : List Ao} {i : Nat} (h : i < l.length) : nthO l i ∈ l := by
  rw [nthO, List.getElem?_eq_getElem h]; exact List.getElem_mem h
def RowO (w : World) (a : Option Addr) (l : List Ao) : Prop :=
  ∀ i, i < l.length → ∃ b off, a = some ⟨b, off, none⟩ ∧ w.cell? ⟨b, off + i * 6, none⟩ = some (.int .i64 (nthO l i).k) ∧ w.cell? ⟨b, off + i * 6 + 1, none⟩ = some (.int .i64 (nthO l i).pl) ∧ w.cell? ⟨b, off + i * 6 + 2, none⟩ = some (.string (nthO l i).key) ∧
    w.cell? ⟨b, off + i * 6 + 3, none⟩ = some (.string (nthO l i).hi) ∧ w.cell? ⟨b, off + i * 6 + 4, none⟩ = some (.int .i64 (nthO l i).v) ∧ w.cell? ⟨b, off + i * 6 + 5, none⟩ = some (.int .i64 (nthO l i).st)
theorem RowO.later {w w' : World} {a : Option Addr} {l : List Ao} (h : RowO w a l) (hb : Below w.heap.size w w') : RowO w' a l := fun i hi => by
  obtain ⟨b, off, e, h0, h1, h2, h3, h4, h5⟩ := h i hi
  exact ⟨b, off, e, cell_later hb h0, cell_later hb h1, cell_later hb h2, cell_later hb h3, cell_later hb h4, cell_later hb h5⟩
/-- nothing that lay below B has changed -/
theorem RowO.below {w w' : World} {B : Nat} {a : Option Addr} {l : List Ao} (h : RowO w a l) (hB : ∀ b off, a = some ⟨b, off, none⟩ → b < B) (hb : Below B w w') : RowO w' a l := fun i hi => by
  obtain ⟨b, off, e, h0, h1, h2, h3, h4, h5⟩ := h i hi
  have hlt := hB b off e
  have key : ∀ o, w'.cell? ⟨b, o, none⟩ = w.cell? ⟨b, o, none⟩ := fun o => hb.cell (p := ⟨b, o, none⟩) hlt
  exact ⟨b, off, e, by rw [key]; exact h0, by rw [key]; exact h1, by rw [key]; exact h2, by rw [key]; exact h3, by rw [key]; exact h4, by rw [key]; exact h5⟩
theorem RowO.drop {w : World} {b off : Nat} {l : List Ao} (h : RowO w (some ⟨b, off, none⟩) l) (j : Nat) : RowO w (some ⟨b, off + j * 6, none⟩) (l.drop j) := fun i hi => by
  rw [List.length_drop] at hi
  obtain ⟨b', off', e, h0, h1, h2, h3, h4, h5⟩ := h (j + i) (by omega)
  injection e with e; injection e with e1 e2 _
  subst e1 e2
  have hn : nthO (l.drop j) i = nthO l (j + i) := by rw [nthO, nthO, List.getElem?_drop]
  rw [hn]
  exact ⟨b, _, rfl, by rw [show off + j * 6 + i * 6 = off + (j + i) * 6 by omega]; exact h0, by rw [show off + j * 6 + i * 6 = off + (j + i) * 6 by omega]; exact h1, by rw [show off + j * 6 + i * 6 = off + (j + i) * 6 by omega]; exact h2, by rw [show off + j * 6 + i * 6 = off + (j + i) * 6 by omega]; exact h3, by rw [show off + j * 6 + i * 6 = off + (j + i) * 6 by omega]; exact h4, by rw [show off + j * 6 + i * 6 = off + (j + i) * 6 by omega]; exact h5⟩

/-- what a script's sets and deletes are -/
def chO (o : Ao) : List Ch := if o.k = 2 then [⟨o.key, o.v, false⟩] else if o.k = 4 then [⟨o.key, 0, true⟩] else []
def chs (l : List Ao) : List Ch := l.flatMap chO
theorem chs_snoc (l : List Ao) (o : Ao) : chs (l ++ [o]) = chs l ++ chO o := by simp [chs]
theorem chs_len (l : List Ao) : (chs l).length ≤ l.length := by
  induction l with
  | nil => simp [chs]
  | cons o l ih =>
    have : chs (o :: l) = chO o ++ chs l := rfl
    have h1 : (chO o).length ≤ 1 := by unfold chO; split <;> (try split) <;> simp
    rw [this, List.length_append, List.length_cons]; omega
theorem getL_chs_snoc (l : List Ao) (o : Ao) (key : ByteArray) : getL (chs (l ++ [o])) key = if o.key = key then (if o.k = 2 then some o.v else if o.k = 4 then none else getL (chs l) key) else getL (chs l) key := by
  rw [chs_snoc]
  unfold chO
  by_cases h2 : o.k = 2
  · rw [if_pos h2, if_pos h2, getL_snoc]; simp
  · rw [if_neg h2, if_neg h2]
    by_cases h4 : o.k = 4
    · rw [if_pos h4, if_pos h4, getL_snoc]; simp
    · rw [if_neg h4, if_neg h4]; simp
theorem ixL_chs_snoc (l : List Ao) (o : Ao) : ixL (chs (l ++ [o])) = if o.k = 2 then setX (ixL (chs l)) o.key o.v else if o.k = 4 then delX (ixL (chs l)) o.key else ixL (chs l) := by
  rw [chs_snoc]
  unfold chO
  by_cases h2 : o.k = 2
  · rw [if_pos h2, if_pos h2, ixL_snoc]; simp
  · rw [if_neg h2, if_neg h2]
    by_cases h4 : o.k = 4
    · rw [if_pos h4, if_pos h4, ixL_snoc]; simp
    · rw [if_neg h4, if_neg h4]; simp
theorem ixL_len (log : List Ch) : (ixL log).length ≤ log.length := by
  induction log using snoc_ind with
  | nil => simp [ixL]
  | snoc log c ih =>
    rw [ixL_snoc, List.length_append]
    split
    · have := delX_len (ixL log) c.key; simp; omega
    · have := setX_len (ixL log) c.key c.v; simp; omega

set_option maxHeartbeats 2000000 in
theorem last_is {w : World} {a : Option Addr} {c : Nat} {l : List Ao} (h : RowO w a l) (hl : l.length ≤ 9223372036854775806) (key : ByteArray) :
    Calls Try.prog 13 #[.slice a l.length c, .string key] w fun e w' => e = .returned (gotX (getL (chs l) key)) ∧ w' = w := by
  have HR := hid h
  clear h
  go_enter Try.func13, Try.ntmps13
  go_wp2_with fail
  go_loopg [6] l.length (fun g s6 wr => ∃ j : Nat, j ≤ l.length ∧ g = j ∧ s6 = .int .i64 ((j : Int) - 1) ∧ Hid (getL (chs l) key = getL (chs (l.take j)) key) ∧ wr = w)
  case atStart => exact ⟨l.length, Nat.le_refl _, rfl, by go_num, by show _ = _; rw [List.take_of_length_le (Nat.le_refl _)], rfl⟩
  case round =>
    obtain ⟨j, hj, rfl, rfl, HG, rfl⟩ := hrel
    cases gk with
    | zero =>
      have HE : Hid (getL (chs l) key = none) := by show _ = _; rw [HG.out]; rfl
      go_wp2_with fail
      go_ret2
      exact ⟨by rw [HE.out]; rfl, rfl⟩
    | succ i =>
      have hi : i < l.length := by omega
      obtain ⟨b, off, rfl, d0, d1, d2, d3, d4, d5⟩ := HR.out i hi
      have HT : Hid (getL (chs (l.take (i + 1))) key = if (nthO l i).key = key then (if (nthO l i).k = 2 then some (nthO l i).v else if (nthO l i).k = 4 then none else getL (chs (l.take i)) key) else getL (chs (l.take i)) key) := by
        show _ = _; rw [nthO_take hi, getL_chs_snoc]
      obtain ⟨x, hx⟩ : ∃ x, x = nthO l i := ⟨_, rfl⟩
      rw [← hx] at d0 d2 d4 HT
      clear hx d1 d3 d5
      rw [show (((i + 1 : Nat) : Int) - 1) = (i : Int) by omega]
      by_cases hk : x.key = key
      · have q1 := toList_beq' (decide_eq_true hk)
        by_cases h2 : x.k = 2
        · have HE : Hid (getL (chs l) key = some x.v) := by show _ = _; rw [HG.out, HT.out, if_pos hk, if_pos h2]
          rw [h2] at d0
          clear hk h2
          go_wp2_with fail
          go_ret2
          exact ⟨by rw [HE.out]; rfl, rfl⟩
        · have p2 : (x.k == 2) = false := by simpa using h2
          by_cases h4 : x.k = 4
          · have HE : Hid (getL (chs l) key = none) := by show _ = _; rw [HG.out, HT.out, if_pos hk, if_neg h2, if_pos h4]
            rw [h4] at d0
            clear hk h2 h4 p2
            go_wp2_with fail
            go_ret2
            exact ⟨by rw [HE.out]; rfl, rfl⟩
          · have p4 : (x.k == 4) = false := by simpa using h4
            have HG2 : Hid (getL (chs l) key = getL (chs (l.take i)) key) := by show _ = _; rw [HG.out, HT.out, if_pos hk, if_neg h2, if_neg h4]
            clear hk h2 h4
            go_wp2_with fail
            go_roundg i
            case measure => omega
            case rel => exact ⟨i, by omega, rfl, by go_num, HG2, rfl⟩
      · have q1 := toList_beq' (decide_eq_false hk)
        have HG2 : Hid (getL (chs l) key = getL (chs (l.take i)) key) := by show _ = _; rw [HG.out, HT.out, if_neg hk]
        clear hk
        go_wp2_with fail
        go_roundg i
        case measure => omega
        case rel => exact ⟨i, by omega, rfl, by go_num, HG2, rfl⟩

/-- is the key set somewhere? -/
def setO (l : List Ao) (key : ByteArray) : Bool := l.any fun o => decide (o.k = 2) && decide (o.key = key)
theorem retB' {a b : Bool} (h : a = b) : Ending.returned (Value.bool a) = Ending.returned (Value.bool b) := by rw [h]
set_option maxHeartbeats 2000000 in
theorem setO_is {w : World} {a : Option Addr} {c : Nat} {l : List Ao} (h : RowO w a l) (hl : l.length ≤ 9223372036854775806) (key : ByteArray) :
    Calls Try.prog 15 #[.slice a l.length c, .string key] w fun e w' => e = .returned (.bool (setO l key)) ∧ w' = w := by
  have HR := hid h
  clear h
  go_enter Try.func15, Try.ntmps15
  go_wp2_with fail
  go_loopg [8] l.length (fun g s8 wr => ∃ i : Nat, i ≤ l.length ∧ g = l.length - i ∧ s8 = .int .i64 i ∧ Hid (setO (l.take i) key = false) ∧ wr = w)
  case atStart => exact ⟨0, by omega, by omega, rfl, rfl, rfl⟩
  case round =>
    obtain ⟨i, hi, rfl, rfl, HA, rfl⟩ := hrel
    by_cases hlt : i < l.length
    · obtain ⟨b, off, rfl, d0, d1, d2, d3, d4, d5⟩ := HR.out i hlt
      obtain ⟨x, hx⟩ : ∃ x, x = nthO l i := ⟨_, rfl⟩
      have HT : Hid (l.take (i + 1) = l.take i ++ [x]) := by show _ = _; rw [nthO_take hlt, hx]
      have HM : Hid (x ∈ l) := by show _ ∈ _; rw [hx]; exact nthO_mem hlt
      rw [← hx] at d0 d2
      clear hx d1 d3 d4 d5
      by_cases h2 : x.k = 2
      · by_cases hk : x.key = key
        · have q1 := toList_beq' (decide_eq_true hk)
          have HE : Hid (setO l key = true) := List.any_eq_true.2 ⟨x, HM.out, by simp [h2, hk]⟩
          rw [h2] at d0
          clear hk h2
          go_wp2_with fail
          go_ret
          exact ⟨retB' HE.out.symm, rfl⟩
        · have q1 := toList_beq' (decide_eq_false hk)
          have HA2 : Hid (setO (l.take (i + 1)) key = false) := by
            show _ = _
            have := HA.out
            unfold setO at this ⊢
            rw [HT.out, List.any_append, this]; simp [hk]
          rw [h2] at d0
          clear hk h2
          go_wp2_with fail
          go_roundg (l.length - (i + 1))
          case measure => omega
          case rel => exact ⟨i + 1, by omega, rfl, by go_num, HA2, rfl⟩
      · have p2 : (x.k == 2) = false := by simpa using h2
        have HA2 : Hid (setO (l.take (i + 1)) key = false) := by
          show _ = _
          have := HA.out
          unfold setO at this ⊢
          rw [HT.out, List.any_append, this]; simp [h2]
        clear h2
        go_wp2_with fail
        go_roundg (l.length - (i + 1))
        case measure => omega
        case rel => exact ⟨i + 1, by omega, rfl, by go_num, HA2, rfl⟩
    · obtain rfl : i = l.length := by omega
      have HE : Hid (setO l key = false) := by have := HA.out; rw [List.take_of_length_le (Nat.le_refl _)] at this; exact this
      go_wp2_with fail
      go_ret
      exact ⟨retB' HE.out.symm, rfl⟩

end Go.Proofs.Ytmhpakbkmddfeaa
