import Derived.Test.YthenfioddnkjbaaGreatDoorRWordP
import Derived.Lib.Split
import Derived.Lib.AtoiAll
import Derived.Lib.SplitLaws
import Derived.Lib.SlTrimSet
import Derived.Lib.ItoaNum
import Derived.Test.YthenfioddnkjbaaGreatDoorDOnl
import Derived.Test.YthenfioddnkjbaaGreatDoorLItoa
import Derived.Shelf.Strings.SlTrimAscii
import Derived.Lib.QuietBelow
import Derived.BigQuiet
import Derived.Test.YthenfioddnkjbaaGreatDoorRzMark
/- How a configuration's text is read: plain. -/
namespace Go.Proofs.YthenfioddnkjbaaGreatDoor.Rt
set_option linter.unusedVariables false

/-- what the lines have said so far: five numbers, and the split keys -/
structure Dr where
  f : Nat → Option Nat
  sp : List (List Nat)
def Dr.none : Dr := ⟨fun _ => .none, []⟩
def Dr.put (d : Dr) (k n : Nat) : Dr := ⟨fun j => if j = k then some n else d.f j, d.sp⟩
def Dr.add (d : Dr) (s : List Nat) : Dr := ⟨d.f, d.sp ++ [s]⟩
def Dr.whole (d : Dr) : Bool := (d.f 0).isSome && (d.f 1).isSome && (d.f 2).isSome && (d.f 3).isSome && (d.f 4).isSome
/-- the lines' names -/
def nm : Nat → List UInt8
  | 0 => [115, 104, 97, 114, 100, 115]
  | 1 => [99, 108, 105, 101, 110, 116, 115]
  | 2 => [99, 97, 112, 97, 99, 105, 116, 121]
  | 3 => [112, 97, 114, 107]
  | 4 => [119, 105, 110, 100, 111, 119]
  | _ => [115, 112, 108, 105, 116]
/-- a number: none, it has not the form; some none, it is beyond all limits -/
def num (w : List UInt8) : Option (Option Nat) :=
  if w.all (fun b => decide (48 ≤ b.toNat) && decide (b.toNat ≤ 57)) = false ∨ (1 < w.length ∧ w.head? = some 48) ∨ w = [] then .none
  else match Lib.parseUint10 0 w with
    | .ok n => some (some n)
    | .range => some .none
    | _ => .none
/-- how a line fares: 0 well, 1 not of the form, 2 beyond a limit -/
def takeN (d : Dr) (k : Nat) (w : List UInt8) : Nat × Dr :=
  if (d.f k).isSome then (1, d) else match num w with
    | .none => (1, d.put k 0)
    | some .none => (2, d.put k 0)
    | some (some n) => (0, d.put k n)
def takeS (d : Dr) (w : List UInt8) : Nat × Dr := match unword (w.map UInt8.toNat) with
  | some s => (0, d.add s)
  | .none => (1, d)
/-- name and word: what stands ahead of the first blank, and behind it -/
def headB (l : List UInt8) : List UInt8 := l.takeWhile (fun b => decide (b ≠ 32))
def tailB (l : List UInt8) : List UInt8 := (l.dropWhile (fun b => decide (b ≠ 32))).drop 1
def takeL (d : Dr) (l : List UInt8) : Nat × Dr :=
  if l = [] ∨ l.head? = some 35 then (0, d)
  else if headB l = nm 0 then takeN d 0 (tailB l)
  else if headB l = nm 1 then takeN d 1 (tailB l)
  else if headB l = nm 2 then takeN d 2 (tailB l)
  else if headB l = nm 3 then takeN d 3 (tailB l)
  else if headB l = nm 4 then takeN d 4 (tailB l)
  else if headB l = nm 5 then takeS d (tailB l)
  else (1, d)
/-- how the lines fare, and what they have said -/
def runL : List (List UInt8) → Dr → Bool → Nat × Dr
  | [], d, b => (if d.whole then (if b then 2 else 0) else 1, d)
  | l :: ls, d, b => if (takeL d l).1 = 0 then runL ls (takeL d l).2 b else if (takeL d l).1 = 2 then runL ls (takeL d l).2 true else (1, (takeL d l).2)

/-- a line of a name and a word -/
def ln (k : Nat) (w : List UInt8) : List UInt8 := nm k ++ 32 :: w
theorem nm_plain (k : Nat) : ∀ b ∈ nm k, decide (b ≠ 32) = true := by
  unfold nm
  split <;> decide
theorem nm_head (k : Nat) : ∃ b t, nm k = b :: t ∧ b ≠ 35 ∧ b ≠ 10 := by
  unfold nm
  split <;> exact ⟨_, _, rfl, by decide, by decide⟩
theorem tw_app {p : UInt8 → Bool} : ∀ {l : List UInt8} {b : UInt8} {t : List UInt8}, (∀ x ∈ l, p x = true) → p b = false → (l ++ b :: t).takeWhile p = l
  | [], b, t, _, hb => by simp [hb]
  | x :: l, b, t, h, hb => by
    have hx := h x (by simp)
    have := tw_app (l := l) (b := b) (t := t) (fun y hy => h y (by simp [hy])) hb
    simp [hx, this]
theorem dw_app {p : UInt8 → Bool} : ∀ {l : List UInt8} {b : UInt8} {t : List UInt8}, (∀ x ∈ l, p x = true) → p b = false → (l ++ b :: t).dropWhile p = b :: t
  | [], b, t, _, hb => by simp [hb]
  | x :: l, b, t, h, hb => by
    have hx := h x (by simp)
    have := dw_app (l := l) (b := b) (t := t) (fun y hy => h y (by simp [hy])) hb
    simp [hx, this]
theorem ln_head (k : Nat) (w : List UInt8) : headB (ln k w) = nm k := tw_app (nm_plain k) (by decide)
theorem ln_tail (k : Nat) (w : List UInt8) : tailB (ln k w) = w := by
  unfold tailB ln
  rw [dw_app (nm_plain k) (by decide)]
  rfl
theorem ln_some (k : Nat) (w : List UInt8) : ¬ (ln k w = [] ∨ (ln k w).head? = some 35) := by
  obtain ⟨b, t, e, h, _⟩ := nm_head k
  unfold ln
  rw [e]
  simp [h]
theorem take_num (d : Dr) {k n : Nat} {w : List UInt8} (hk : k < 5) (h : num w = some (some n)) : takeL d (ln k w) = if (d.f k).isSome then (1, d) else (0, d.put k n) := by
  unfold takeL
  rw [if_neg (ln_some k w), ln_head, ln_tail]
  have hT : ∀ j, takeN d j w = if (d.f j).isSome then (1, d) else (0, d.put j n) := fun j => by simp only [takeN, h]
  match k, hk with
  | 0, _ => rw [if_pos rfl, hT]
  | 1, _ => rw [if_neg (by decide), if_pos rfl, hT]
  | 2, _ => rw [if_neg (by decide), if_neg (by decide), if_pos rfl, hT]
  | 3, _ => rw [if_neg (by decide), if_neg (by decide), if_neg (by decide), if_pos rfl, hT]
  | 4, _ => rw [if_neg (by decide), if_neg (by decide), if_neg (by decide), if_neg (by decide), if_pos rfl, hT]
theorem take_split (d : Dr) {w : List UInt8} {s : List Nat} (h : unword (w.map UInt8.toNat) = some s) : takeL d (ln 5 w) = (0, d.add s) := by
  unfold takeL
  rw [if_neg (ln_some 5 w), ln_head, ln_tail, if_neg (by decide), if_neg (by decide), if_neg (by decide), if_neg (by decide), if_neg (by decide), if_pos rfl]
  simp only [takeS, h]
theorem take_nil (d : Dr) : takeL d [] = (0, d) := by unfold takeL; rw [if_pos (.inl rfl)]
theorem take_note (d : Dr) (t : List UInt8) : takeL d (35 :: t) = (0, d) := by unfold takeL; rw [if_pos (.inr rfl)]
theorem run_num {d : Dr} {k n : Nat} {w : List UInt8} {ls : List (List UInt8)} {b : Bool} (hk : k < 5) (h : num w = some (some n)) (hd : (d.f k).isSome = false) : runL (ln k w :: ls) d b = runL ls (d.put k n) b := by
  have e := take_num d hk h
  rw [hd] at e
  rw [runL, e]
  simp
theorem run_twice {d : Dr} {k n : Nat} {w : List UInt8} {ls : List (List UInt8)} {b : Bool} (hk : k < 5) (h : num w = some (some n)) (hd : (d.f k).isSome = true) : (runL (ln k w :: ls) d b).1 = 1 := by
  have e := take_num d hk h
  rw [hd] at e
  rw [runL, e]
  simp
theorem run_nil {d : Dr} {ls : List (List UInt8)} {b : Bool} : runL ([] :: ls) d b = runL ls d b := by rw [runL, take_nil]; simp
theorem run_note {d : Dr} {t : List UInt8} {ls : List (List UInt8)} {b : Bool} : runL ((35 :: t) :: ls) d b = runL ls d b := by rw [runL, take_note]; simp
/-- the split keys' lines, and the end -/
theorem run_splits : ∀ {ss : List (List Nat)} {ws : List (List UInt8)} {d : Dr} {b : Bool}, ws.map (fun w => unword (w.map UInt8.toNat)) = ss.map some → runL (ws.map (ln 5) ++ [[]]) d b = (if d.whole then (if b then 2 else 0) else 1, ⟨d.f, d.sp ++ ss⟩)
  | [], [], d, b, _ => by
    show runL [[]] d b = _
    rw [run_nil, runL]; simp
  | s :: ss, w :: ws, d, b, h => by
    simp only [List.map_cons, List.cons.injEq] at h
    show runL (ln 5 w :: (ws.map (ln 5) ++ [[]])) d b = _
    rw [runL, take_split d h.1]
    simp only [if_true]
    rw [run_splits h.2]
    simp [Dr.add, Dr.whole]
  | [], w :: ws, d, b, h => by simp at h
  | s :: ss, [], d, b, h => by simp at h
/-- what a whole text says -/
def Dr.of (v : Nat → Nat) (ss : List (List Nat)) : Dr := ⟨fun j => if j < 5 then some (v j) else .none, ss⟩
section
variable {v : Nat → Nat} {w : Nat → List UInt8} {ss : List (List Nat)} {ws : List (List UInt8)}
/-- a text's lines -/
def lines (w : Nat → List UInt8) (ws : List (List UInt8)) : List (List UInt8) := ([0, 1, 2, 3, 4].map fun k => ln k (w k)) ++ ws.map (ln 5)
theorem run_five (o : List Nat) (hv : ∀ k, k < 5 → num (w k) = some (some (v k))) (hs : ws.map (fun w => unword (w.map UInt8.toNat)) = ss.map some) :
    ∀ (d : Dr), (∀ k ∈ o, k < 5 ∧ (d.f k).isSome = false) → o.Nodup → runL (o.map (fun k => ln k (w k)) ++ (ws.map (ln 5) ++ [[]])) d false = (if (⟨fun j => if j ∈ o then some (v j) else d.f j, d.sp⟩ : Dr).whole then 0 else 1, ⟨fun j => if j ∈ o then some (v j) else d.f j, d.sp ++ ss⟩) := by
  induction o with
  | nil => intro d _ _; simpa using run_splits (d := d) (b := false) hs
  | cons k o ih =>
    intro d hd hn
    obtain ⟨hk, hf⟩ := hd k (by simp)
    have hn' := List.nodup_cons.1 hn
    show runL (ln k (w k) :: (o.map (fun k => ln k (w k)) ++ (ws.map (ln 5) ++ [[]]))) d false = _
    rw [run_num hk (hv k hk) hf, ih (d.put k (v k)) (fun j hj => ⟨(hd j (by simp [hj])).1, by
      have hjk : j ≠ k := fun e => hn'.1 (e ▸ hj)
      simp only [Dr.put, if_neg hjk]
      exact (hd j (by simp [hj])).2⟩) hn'.2]
    have e : (fun j => if j ∈ o then some (v j) else (d.put k (v k)).f j) = fun j => if j ∈ k :: o then some (v j) else d.f j := by
      funext j
      by_cases h1 : j ∈ o
      · simp [h1]
      · by_cases h2 : j = k
        · subst h2; simp [h1, Dr.put]
        · simp [h1, h2, Dr.put]
    rw [e]
    rfl
/-- any order of the five, and nothing else: well -/
theorem run_whole (o : List Nat) (hv : ∀ k, k < 5 → num (w k) = some (some (v k))) (hs : ws.map (fun w => unword (w.map UInt8.toNat)) = ss.map some) (h5 : ∀ k, k ∈ o ↔ k < 5) (hn : o.Nodup) :
    runL (o.map (fun k => ln k (w k)) ++ (ws.map (ln 5) ++ [[]])) Dr.none false = (0, Dr.of v ss) := by
  rw [run_five o hv hs Dr.none (fun k hk => ⟨(h5 k).1 hk, rfl⟩) hn]
  have e : (fun j => if j ∈ o then some (v j) else Dr.none.f j) = fun j => if j < 5 then some (v j) else .none := by
    funext j
    by_cases h : j < 5
    · rw [if_pos ((h5 j).2 h), if_pos h]
    · rw [if_neg (fun hj => h ((h5 j).1 hj)), if_neg h]; rfl
  rw [e]
  simp [Dr.whole, Dr.of, Dr.none]
/-- one left out: not of the form -/
theorem run_less (o : List Nat) {x : Nat} (hx : x < 5) (hv : ∀ k, k < 5 → num (w k) = some (some (v k))) (hs : ws.map (fun w => unword (w.map UInt8.toNat)) = ss.map some) (h5 : ∀ k ∈ o, k < 5 ∧ k ≠ x) (hn : o.Nodup) :
    (runL (o.map (fun k => ln k (w k)) ++ (ws.map (ln 5) ++ [[]])) Dr.none false).1 = 1 := by
  rw [run_five o hv hs Dr.none (fun k hk => ⟨(h5 k hk).1, rfl⟩) hn]
  have hno : x ∉ o := fun h => (h5 x h).2 rfl
  have : (⟨fun j => if j ∈ o then some (v j) else Dr.none.f j, Dr.none.sp⟩ : Dr).whole = false := by
    have h0 : ((fun j => if j ∈ o then some (v j) else Dr.none.f j) x : Option Nat).isSome = false := by simp [hno, Dr.none]
    unfold Dr.whole
    match x, hx with
    | 0, _ | 1, _ | 2, _ | 3, _ | 4, _ => simp only [h0, Bool.and_false, Bool.false_and]
  rw [this]
  rfl
/-- one twice: not of the form -/
theorem run_more (o : List Nat) {x : Nat} (hx : x < 5) (hv : ∀ k, k < 5 → num (w k) = some (some (v k))) (r : List (List UInt8)) :
    ∀ (d : Dr), (d.f x).isSome = true → (∀ k ∈ o, k < 5) → x ∈ o → (runL (o.map (fun k => ln k (w k)) ++ r) d false).1 = 1 := by
  induction o with
  | nil => intro d _ _ h; simp at h
  | cons k o ih =>
    intro d hd ho hxo
    have hk := ho k (by simp)
    show (runL (ln k (w k) :: (o.map (fun k => ln k (w k)) ++ r)) d false).1 = 1
    cases hf : (d.f k).isSome with
    | true => exact run_twice hk (hv k hk) hf
    | false =>
      have hkx : x ≠ k := fun e => by rw [e, hf] at hd; cases hd
      rw [run_num hk (hv k hk) hf]
      refine ih (d.put k (v k)) (by simp only [Dr.put, if_neg hkx]; exact hd) (fun j hj => ho j (by simp [hj])) ?_
      rcases List.mem_cons.1 hxo with h | h
      · exact absurd h hkx
      · exact h
end
end Go.Proofs.YthenfioddnkjbaaGreatDoor.Rt
/- Lines, words and numbers of a configuration's text, plain. -/
namespace Go.Proofs.YthenfioddnkjbaaGreatDoor.Rt
set_option linter.unusedVariables false

/-! where a byte stands first -/
theorem ix_none {c : UInt8} : ∀ {l : List UInt8}, c ∉ l → Lib.index l [c] = -1
  | [], _ => rfl
  | b :: l, h => by
    have hb : c ≠ b := fun e => h (by simp [e])
    have ih := ix_none (c := c) (l := l) (fun e => h (by simp [e]))
    simp [Lib.index, List.isPrefixOf, hb, ih]
theorem ix_at {c : UInt8} : ∀ {a t : List UInt8}, c ∉ a → Lib.index (a ++ c :: t) [c] = a.length
  | [], t, _ => by simp [Lib.index, List.isPrefixOf]
  | b :: a, t, h => by
    have hb : c ≠ b := fun e => h (by simp [e])
    have ih := ix_at (c := c) (a := a) (t := t) (fun e => h (by simp [e]))
    have hn : ((a.length : Int) == -1) = false := by rw [beq_eq_false_iff_ne]; omega
    simp [Lib.index, List.isPrefixOf, hb, ih, hn]
/-! a text's lines -/
def lns : List UInt8 → List (List UInt8)
  | [] => [[]]
  | b :: t => if b = 10 then [] :: lns t else match lns t with
    | l :: r => (b :: l) :: r
    | [] => [[b]]
theorem lns_none : ∀ {l : List UInt8}, (10 : UInt8) ∉ l → lns l = [l]
  | [], _ => rfl
  | b :: l, h => by
    have hb : b ≠ 10 := fun e => h (by simp [e])
    have ih := lns_none (l := l) (fun e => h (by simp [e]))
    simp [lns, hb, ih]
theorem lns_line : ∀ {a t : List UInt8}, (10 : UInt8) ∉ a → lns (a ++ 10 :: t) = a :: lns t
  | [], t, _ => by simp [lns]
  | b :: a, t, h => by
    have hb : b ≠ 10 := fun e => h (by simp [e])
    have ih := lns_line (a := a) (t := t) (fun e => h (by simp [e]))
    simp [lns, hb, ih]
theorem split_lns : ∀ (k : Nat) (l : List UInt8), l.count 10 ≤ k → Lib.splitK [10] 0 k l = lns l
  | 0, l, h => by
    have hn : (10 : UInt8) ∉ l := List.count_eq_zero.1 (by omega)
    rw [lns_none hn]; rfl
  | k + 1, l, h => by
    by_cases hm : (10 : UInt8) ∈ l
    · obtain ⟨a, t, rfl, ha⟩ := List.eq_append_cons_of_mem hm
      have hi := ix_at (t := t) ha
      have hc : t.count 10 ≤ k := by
        rw [List.count_append, List.count_cons_self, List.count_eq_zero.2 ha] at h
        omega
      have hne : ((a.length : Int) == -1) = false := by rw [beq_eq_false_iff_ne]; omega
      rw [Lib.splitK, hi, hne, lns_line ha, ← split_lns k t hc]
      simp
    · rw [Lib.splitK, ix_none hm, lns_none hm]; rfl
theorem count_lns : ∀ (f : Nat) (l : List UInt8), l.length < f → l.count 10 = Lib.countFrom [10] f l
  | 0, l, h => by omega
  | f + 1, l, h => by
    by_cases hm : (10 : UInt8) ∈ l
    · obtain ⟨a, t, rfl, ha⟩ := List.eq_append_cons_of_mem hm
      have hi := ix_at (t := t) ha
      have hne : ((a.length : Int) == -1) = false := by rw [beq_eq_false_iff_ne]; omega
      have ih := count_lns f t (by simp at h; omega)
      rw [Lib.countFrom, hi, hne, List.count_append, List.count_cons_self, List.count_eq_zero.2 ha, ih]
      simp
      omega
    · rw [Lib.countFrom, ix_none hm, List.count_eq_zero.2 hm]; rfl
theorem split_is (s : ByteArray) : (Lib.splitB ⟨#[10]⟩ 0 (Lib.countB s ⟨#[10]⟩) s).map (·.data.toList) = lns s.data.toList := by
  rw [Lib.splitB_data]
  refine split_lns _ _ ?_
  rw [count_lns (s.data.toList.length + 1) _ (by omega)]
  exact Nat.le_refl _
/-- lines, each ended -/
def flat (ls : List (List UInt8)) : List UInt8 := ls.flatMap (fun l => l ++ [10])
theorem lns_flat : ∀ {ls : List (List UInt8)} {t : List UInt8}, (∀ l ∈ ls, (10 : UInt8) ∉ l) → lns (flat ls ++ t) = ls ++ lns t
  | [], t, _ => rfl
  | l :: ls, t, h => by
    have ih := lns_flat (ls := ls) (t := t) (fun x hx => h x (by simp [hx]))
    show lns ((l ++ [10]) ++ flat ls ++ t) = _
    rw [List.append_assoc, List.append_assoc]
    show lns (l ++ 10 :: (flat ls ++ t)) = _
    rw [lns_line (h l (by simp)), ih]
    rfl
theorem dw_nil {p : UInt8 → Bool} : ∀ {l : List UInt8}, l.dropWhile p = [] ↔ ∀ x ∈ l, p x = true
  | [] => by simp
  | x :: l => by
    have ih := dw_nil (p := p) (l := l)
    cases h : p x with
    | true => rw [List.dropWhile_cons, if_pos h, ih]; simp [h]
    | false => rw [List.dropWhile_cons, if_neg (by simp [h])]; simp [h]
theorem tw_mem {p : UInt8 → Bool} {x : UInt8} : ∀ {l : List UInt8}, x ∈ l.takeWhile p → p x = true
  | [], h => by simp at h
  | y :: l, h => by
    rw [List.takeWhile_cons] at h
    cases hy : p y with
    | true =>
      rw [if_pos hy] at h
      rcases List.mem_cons.1 h with e | e
      · rw [e]; exact hy
      · exact tw_mem e
    | false => rw [if_neg (by simp [hy])] at h; simp at h
theorem tw_self {p : UInt8 → Bool} : ∀ {l : List UInt8}, (∀ x ∈ l, p x = true) → l.takeWhile p = l
  | [], _ => rfl
  | x :: l, h => by
    rw [List.takeWhile_cons, if_pos (h x (by simp)), tw_self (fun y hy => h y (by simp [hy]))]
/-! a name and a word -/
theorem lcut_is (l : List UInt8) : (Lib.cut l [32]).1 = headB l ∧ (Lib.cut l [32]).2.1 = tailB l := by
  by_cases hm : (32 : UInt8) ∈ l
  · obtain ⟨a, t, rfl, ha⟩ := List.eq_append_cons_of_mem hm
    have hp : ∀ x ∈ a, decide (x ≠ 32) = true := fun x hx => decide_eq_true (fun e => ha (e ▸ hx))
    have e1 : headB (a ++ 32 :: t) = a := tw_app hp (by decide)
    have e2 : tailB (a ++ 32 :: t) = t := by unfold tailB; rw [dw_app hp (by decide)]; rfl
    rw [e1, e2, Lib.cut, ix_at ha, if_pos (by omega)]
    simp
  · have hp : ∀ x ∈ l, decide (x ≠ 32) = true := fun x hx => decide_eq_true (fun e => hm (e ▸ hx))
    have e1 : headB l = l := by unfold headB; rw [tw_self hp]
    have e2 : tailB l = [] := by unfold tailB; rw [dw_nil.2 hp]; rfl
    rw [e1, e2, Lib.cut, ix_none hm, if_neg (by omega)]
    simp
/-! numbers -/
theorem trim_nil (l cs : List UInt8) : Lib.trimS l cs = [] ↔ ∀ b ∈ l, cs.contains b = true := by
  unfold Lib.trimS Lib.trimLeftS Lib.trimRightS
  rw [dw_nil]
  constructor
  · intro h b hb
    cases hc : cs.contains b with
    | true => rfl
    | false =>
      have hmem : b ∈ (l.reverse.dropWhile (cs.contains ·)).reverse := by
        rw [List.mem_reverse]
        have hb' : b ∈ l.reverse := by simpa using hb
        rw [← List.takeWhile_append_dropWhile (p := (cs.contains ·)) (l := l.reverse)] at hb'
        rcases List.mem_append.1 hb' with h1 | h1
        · have := tw_mem h1
          simp only [hc] at this
          cases this
        · exact h1
      rw [h b hmem] at hc
      cases hc
  · intro h b hb
    have hb' : b ∈ l := by
      have := (List.dropWhile_suffix (cs.contains ·) (l := l.reverse)).subset (by simpa using hb)
      simpa using this
    exact h b hb'
theorem dig_toNat {d : Nat} (h : d < 10) : (UInt8.ofNat (48 + d)).toNat = 48 + d := by
  rw [UInt8.toNat_ofNat']
  omega
theorem parse_dec : ∀ (n u : Nat) (r : List UInt8), u ≤ n → u < 18446744073709551616 → Lib.parseUint10 0 (Lib.decDigits u ++ r) = Lib.parseUint10 u r
  | n, u, r, hn, hu => by
    by_cases h : u < 10
    · rw [Lib.decDigits, dif_pos h]
      show Lib.parseUint10 0 (UInt8.ofNat (48 + u) :: r) = _
      rw [Lib.parseUint10, dig_toNat h, if_pos (by omega), if_neg (by omega), if_neg (by omega)]
      congr 1
      omega
    · rw [Lib.decDigits, dif_neg h, List.append_assoc]
      match n, hn with
      | 0, hn => omega
      | n + 1, hn =>
        rw [parse_dec n (u / 10) _ (by omega) (by omega)]
        show Lib.parseUint10 (u / 10) (UInt8.ofNat (48 + u % 10) :: r) = _
        rw [Lib.parseUint10, dig_toNat (by omega), if_pos (by omega), if_neg (by omega), if_neg (by omega)]
        congr 1
        omega
theorem dec_digits : ∀ (n u : Nat), u ≤ n → (∀ b ∈ Lib.decDigits u, 48 ≤ b.toNat ∧ b.toNat ≤ 57) ∧ Lib.decDigits u ≠ [] ∧ (1 ≤ u → (Lib.decDigits u).head? ≠ some 48)
  | n, u, hn => by
    by_cases h : u < 10
    · rw [Lib.decDigits, dif_pos h]
      refine ⟨fun b hb => ?_, by simp, fun h1 e => ?_⟩
      · rw [List.mem_singleton.1 hb, dig_toNat h]; omega
      · have e' : UInt8.ofNat (48 + u) = 48 := by simpa using e
        have := congrArg UInt8.toNat e'
        rw [dig_toNat h] at this
        have h48 : (48 : UInt8).toNat = 48 := rfl
        omega
    · match n, hn with
      | 0, hn => omega
      | n + 1, hn =>
        obtain ⟨h1, h2, h3⟩ := dec_digits n (u / 10) (by omega)
        rw [Lib.decDigits, dif_neg h]
        refine ⟨fun b hb => ?_, by simp, fun _ => ?_⟩
        · rcases List.mem_append.1 hb with hb | hb
          · exact h1 b hb
          · rw [List.mem_singleton.1 hb, dig_toNat (by omega)]; omega
        · cases hd : Lib.decDigits (u / 10) with
          | nil => exact absurd hd h2
          | cons x xs =>
            have := h3 (by omega)
            rw [hd] at this
            simpa using this
theorem num_dec {u : Nat} (hu : u < 18446744073709551616) : num (Lib.decDigits u) = some (some u) := by
  obtain ⟨h1, h2, h3⟩ := dec_digits u u (Nat.le_refl _)
  unfold num
  rw [if_neg]
  · have := parse_dec u u [] (Nat.le_refl _) hu
    rw [List.append_nil] at this
    rw [this]
    rfl
  · rintro (h | h | h)
    · have : (Lib.decDigits u).all (fun b => decide (48 ≤ b.toNat) && decide (b.toNat ≤ 57)) = true := List.all_eq_true.2 fun b hb => by simpa using h1 b hb
      rw [this] at h; cases h
    · by_cases h0 : 1 ≤ u
      · exact h3 h0 h.2
      · have : u = 0 := by omega
        subst this
        rw [Lib.decDigits, dif_pos (by decide)] at h
        simp at h
    · exact h2 h
end Go.Proofs.YthenfioddnkjbaaGreatDoor.Rt
/- A number, read by the program. -/
namespace Go.Proofs.YthenfioddnkjbaaGreatDoor.Rt
open Go.RowKit Go.Sort
set_option linter.unusedVariables false

def digits : ByteArray := ⟨#[48, 49, 50, 51, 52, 53, 54, 55, 56, 57]⟩
theorem dig_in {b : UInt8} (h : 48 ≤ b.toNat ∧ b.toNat ≤ 57) : digits.data.toList.contains b = true := by
  have : ∀ n : Fin 256, 48 ≤ n.val ∧ n.val ≤ 57 → digits.data.toList.contains (UInt8.ofNat n.val) = true := by decide +kernel
  have e := this ⟨b.toNat, b.toNat_lt⟩ h
  simpa using e
theorem drew_n {B : Nat} {a w : World} (h : RowKit.Below B a w) (n : Nat) : RowKit.Below B a (w.drewN n) := ⟨h.os, h.tape, h.output, h.size, h.block⟩
theorem trim_is {t : ByteArray} (h0 : 0 < t.size) (hs : t.size ≤ 1000) (hd : ∀ b ∈ t.data.toList, 48 ≤ b.toNat ∧ b.toNat ≤ 57) (w : World) :
    Calls Tryz.prog 133 #[.string t, .string ⟨#[48, 49, 50, 51, 52, 53, 54, 55, 56, 57]⟩] w fun e w' => e = .returned (.string ⟨#[]⟩) ∧ Below w.heap.size w w' := by
  refine (Any.strings_Trim_set Tryz.lays160 (by intro w; kernel_rfl) (by kernel_rfl) t digits w (by decide) h0 (by omega) (by decide) (fun j b hj => ?_)).mono ?_
  · have : ∀ x ∈ digits.data.toList, x.toNat < 128 := by decide
    exact this b (List.mem_of_getElem? hj)
  · rintro e w' ⟨rfl, q, rfl⟩
    have e0 : Lib.trimS t.data.toList digits.data.toList = [] := (trim_nil _ _).2 fun b hb => dig_in (hd b hb)
    rw [e0]
    refine ⟨rfl, ?_⟩
    exact drew_n (Below.al (Below.al (Below.refl _ _) _) _) q
set_option maxRecDepth 16000 in
theorem is_nil {ty : TypeId} {a : Option Addr} (w : World) : Calls Tryz.prog 56 #[.nilIface, .iface ty (.pointer a)] w fun e w' => e = .returned (.bool false) ∧ w' = w := by
  go_enter Tryz.func56, Tryz.ntmps56
  have hq : ∀ w, (binOp .eql 57 .nilIface (.iface ty (.pointer a))).run Tryz.prog w = .ok (.bool false) w := fun w => by kernel_rfl
  go_wp2_with fail
  go_ret
  exact ⟨rfl, rfl⟩
theorem bytes_below (w : World) (e : TypeId) (s : ByteArray) : Below w.heap.size w (Lib.bytesWorld w e s) :=
  ⟨rfl, rfl, rfl, by simp [Lib.bytesWorld, World.freeze], fun k hk => Lib.bytesWorld_at_old w e s k hk⟩
/-- a number's digits, read -/
theorem parse_is {u : Nat} {t : ByteArray} (hu : u < 18446744073709551616) (ht : t.data.toList = Lib.decDigits u) (hs : t.size ≤ 1000) (w : World) :
    Calls Tryz.prog 134 #[.string t, .int .i64 10, .int .i64 64] w fun e w' => e = .returned (.tuple #[.int .u64 (u : Nat), .nilIface]) ∧ Below w.heap.size w w' := by
  refine (Tryz.strconv_ParseUint_10_at64_ok t (by omega) u ?_ w).mono ?_
  · have h := parse_dec u u [] (Nat.le_refl _) hu
    rw [List.append_nil] at h
    have hne := (dec_digits u u (Nat.le_refl _)).2.1
    rw [ht]
    unfold Lib.parseUintB
    simp [hne, h, Lib.parseUintM_64, Lib.parseUint10]
  · rintro e w' ⟨rfl, rfl | rfl⟩
    · exact ⟨rfl, Below.refl _ _⟩
    · exact ⟨rfl, bytes_below w _ t⟩
set_option maxRecDepth 16000 in
set_option maxHeartbeats 2000000 in
theorem number_is {u : Nat} {t : ByteArray} {ty : TypeId} {a : Option Addr} {w : World} (hu : u < 18446744073709551616) (ht : t.data.toList = Lib.decDigits u) (hs : t.size ≤ 1000) (hg : w.cell? ⟨4, 0, none⟩ = some (.iface ty (.pointer a))) :
    Calls Tryz.prog 122 #[.string t] w fun e w' => e = .returned (.tuple #[.int .u64 (u : Nat), .nilIface]) ∧ Below w.heap.size w w' := by
  obtain ⟨h1, h2, h3⟩ := dec_digits u u (Nat.le_refl _)
  have h0 : 0 < t.size := by
    rw [Lib.size_eq, ht]
    exact List.length_pos_iff.2 h2
  have HT : Hid (∀ wz, _) := hid fun wz => trim_is (t := t) h0 hs (fun b hb => h1 b (by rw [← ht]; exact hb)) wz
  have HP : Hid (∀ wz, _) := hid fun wz => parse_is hu ht hs wz
  have HG := hid hg
  obtain ⟨n, hn⟩ : ∃ n, n = t.size := ⟨_, rfl⟩
  by_cases hl : 1 < t.size
  · have hI : (1 : Int) < (t.size : Int) := by omega
    have hx : (((t[0]'h0).toNat : Int) == 48) = false := by
      have h4 : 1 ≤ u := by
        rcases Nat.eq_zero_or_pos u with h | h
        · subst h
          have : t.size = 1 := by rw [Lib.size_eq, ht, Lib.decDigits, dif_pos (by decide)]; rfl
          omega
        · exact h
      have h5 := h3 h4
      rw [← ht] at h5
      have h6 : t.data.toList.head? = some (t[0]'h0) := by
        rw [List.head?_eq_getElem?, Array.getElem?_toList]
        exact Array.getElem?_eq_getElem (by exact h0)
      rw [h6] at h5
      rw [beq_eq_false_iff_ne]
      intro h7
      apply h5
      congr 1
      apply UInt8.toNat_inj.1
      have : (48 : UInt8).toNat = 48 := rfl
      omega
    go_enter Tryz.func122, Tryz.ntmps122
    go_wp2_with fail
    refine (HT.out _).mono ?_
    rintro e w1 ⟨rfl, hb1⟩
    go_wp2_with fail
    refine (HP.out _).mono ?_
    rintro e w2 ⟨rfl, hb2⟩
    have hb02 := Below.on hb1 hb2
    have g := cell_later hb02 hg
    go_wp2_with fail
    refine (is_nil _).mono ?_
    rintro e w3 ⟨rfl, rfl⟩
    go_wp2_with fail
    go_ret2
    exact ⟨rfl, hb02⟩
  · have hI : ¬ (1 : Int) < (t.size : Int) := by omega
    have hd : decide ((1 : Int) < (t.size : Int)) = false := decide_eq_false hI
    go_enter Tryz.func122, Tryz.ntmps122
    go_wp2_with fail
    refine (HT.out _).mono ?_
    rintro e w1 ⟨rfl, hb1⟩
    go_wp2_with fail
    refine (HP.out _).mono ?_
    rintro e w2 ⟨rfl, hb2⟩
    have hb02 := Below.on hb1 hb2
    have g := cell_later hb02 hg
    go_wp2_with fail
    refine (is_nil _).mono ?_
    rintro e w3 ⟨rfl, rfl⟩
    go_wp2_with fail
    go_ret2
    exact ⟨rfl, hb02⟩
end Go.Proofs.YthenfioddnkjbaaGreatDoor.Rt
/- The document's reading of a configuration's text, plain, and that it is the program's. -/
namespace Go.Proofs.YthenfioddnkjbaaGreatDoor.Rt
set_option linter.unusedVariables false

/-- what the lines have said, as the document keeps it: how often each of the five stood, its value, whether one is beyond all numbers, the splits -/
structure Sd where
  t : Nat → Nat
  v : Nat → Nat
  ov : Bool
  sp : List (List Nat)
def Sd.none : Sd := ⟨fun _ => 0, fun _ => 0, false, []⟩
def Sd.num (s : Sd) (k n : Nat) (o : Bool) : Sd := ⟨fun j => if j = k then s.t j + 1 else s.t j, fun j => if j = k then n else s.v j, s.ov || o, s.sp⟩
def Sd.split (s : Sd) (x : List Nat) : Sd := ⟨s.t, s.v, s.ov, s.sp ++ [x]⟩
/-- which of the five names it is; 5: split; 6: none -/
def nameK (l : List UInt8) : Nat := if headB l = nm 0 then 0 else if headB l = nm 1 then 1 else if headB l = nm 2 then 2 else if headB l = nm 3 then 3 else if headB l = nm 4 then 4 else if headB l = nm 5 then 5 else 6
/-- a line is taken; none: it is of none of the forms -/
def docL (s : Sd) (l : List UInt8) : Option Sd :=
  if l = [] ∨ l.head? = some 35 then some s
  else if nameK l < 5 then
    match num (tailB l) with
    | .none => .none
    | some .none => some (s.num (nameK l) 18446744073709551615 true)
    | some (some n) => some (s.num (nameK l) n false)
  else if nameK l = 5 then (unword ((tailB l).map UInt8.toNat)).map s.split
  else .none
def docR : List (List UInt8) → Sd → Option Sd
  | [], s => some s
  | l :: ls, s => match docL s l with
    | .none => .none
    | some s' => docR ls s'
def Sd.once (s : Sd) : Bool := decide (s.t 0 = 1) && decide (s.t 1 = 1) && decide (s.t 2 = 1) && decide (s.t 3 = 1) && decide (s.t 4 = 1)
/-- how the lines fare -/
def docC : Option Sd → Nat
  | .none => 1
  | some s => if s.once then (if s.ov then 2 else 0) else 1
theorem take_name (d : Dr) (l : List UInt8) (h : ¬ (l = [] ∨ l.head? = some 35)) : takeL d l = if nameK l < 5 then takeN d (nameK l) (tailB l) else if nameK l = 5 then takeS d (tailB l) else (1, d) := by
  unfold takeL nameK
  rw [if_neg h]
  split
  · simp
  · split
    · simp
    · split
      · simp
      · split
        · simp
        · split
          · simp
          · split <;> simp
theorem docL_t {s s' : Sd} {l : List UInt8} (h : docL s l = some s') (k : Nat) : s.t k ≤ s'.t k := by
  unfold docL at h
  split at h
  · injection h with h; subst h; exact Nat.le_refl _
  · split at h
    · cases hn : num (tailB l) with
      | none => rw [hn] at h; cases h
      | some o =>
        rw [hn] at h
        cases o with
        | none => injection h with h; subst h; simp only [Sd.num]; split <;> omega
        | some n => injection h with h; subst h; simp only [Sd.num]; split <;> omega
    · split at h
      · cases hu : unword ((tailB l).map UInt8.toNat) with
        | none => rw [hu] at h; cases h
        | some x => rw [hu] at h; injection h with h; subst h; exact Nat.le_refl _
      · cases h
theorem docR_t : ∀ {ls : List (List UInt8)} {s s' : Sd} (h : docR ls s = some s') (k : Nat), s.t k ≤ s'.t k
  | [], s, s', h, k => by injection h with h; subst h; exact Nat.le_refl _
  | l :: ls, s, s', h, k => by
    rw [docR] at h
    cases hl : docL s l with
    | none => rw [hl] at h; cases h
    | some s1 =>
      rw [hl] at h
      exact Nat.le_trans (docL_t hl k) (docR_t h k)
theorem once_not {s : Sd} {k : Nat} (hk : k < 5) (h : 2 ≤ s.t k) : s.once = false := by
  have h1 : decide (s.t k = 1) = false := by simp; omega
  unfold Sd.once
  match k, hk with
  | 0, _ | 1, _ | 2, _ | 3, _ | 4, _ => simp only [h1, Bool.and_false, Bool.false_and]
theorem docC_twice {ls : List (List UInt8)} {s : Sd} {k : Nat} (hk : k < 5) (h : 2 ≤ s.t k) : docC (docR ls s) = 1 := by
  cases hr : docR ls s with
  | none => rfl
  | some s' =>
    have := docR_t hr k
    show (if s'.once then (if s'.ov then 2 else 0) else 1) = 1
    rw [once_not hk (by omega)]
    rfl
/-- both have heard the same -/
structure Rel (d : Dr) (b : Bool) (s : Sd) : Prop where
  t : ∀ k, k < 5 → s.t k = if (d.f k).isSome then 1 else 0
  ov : s.ov = b
  sp : s.sp = d.sp
  v : b = false → ∀ k, k < 5 → ∀ x, d.f k = some x → s.v k = x
theorem Rel.none : Rel Dr.none false Sd.none := ⟨fun k _ => rfl, rfl, rfl, fun _ k _ x h => by cases h⟩
theorem Rel.num {d : Dr} {b : Bool} {s : Sd} (h : Rel d b s) {k n : Nat} (hk : k < 5) (hd : (d.f k).isSome = false) : Rel (d.put k n) b (s.num k n false) := by
  refine ⟨fun j hj => ?_, by simp [Sd.num, h.ov], h.sp, fun hb j hj x hx => ?_⟩
  · by_cases e : j = k
    · subst e; simp [Sd.num, Dr.put, h.t j hj, hd]
    · simp [Sd.num, Dr.put, e, h.t j hj]
  · by_cases e : j = k
    · subst e; simp [Dr.put] at hx; simp [Sd.num, hx]
    · simp [Dr.put, e] at hx; simp [Sd.num, e, h.v hb j hj x hx]
theorem Rel.over {d : Dr} {b : Bool} {s : Sd} (h : Rel d b s) {k n : Nat} (hk : k < 5) (hd : (d.f k).isSome = false) : Rel (d.put k 0) true (s.num k n true) := by
  refine ⟨fun j hj => ?_, by simp [Sd.num], h.sp, fun hb => by cases hb⟩
  by_cases e : j = k
  · subst e; simp [Sd.num, Dr.put, h.t j hj, hd]
  · simp [Sd.num, Dr.put, e, h.t j hj]
theorem Rel.split {d : Dr} {b : Bool} {s : Sd} (h : Rel d b s) (x : List Nat) : Rel (d.add x) b (s.split x) := ⟨h.t, h.ov, by simp [Sd.split, Dr.add, h.sp], h.v⟩
theorem Rel.whole {d : Dr} {b : Bool} {s : Sd} (h : Rel d b s) : s.once = d.whole := by
  have e : ∀ k, k < 5 → decide (s.t k = 1) = (d.f k).isSome := fun k hk => by
    rw [h.t k hk]
    cases (d.f k).isSome <;> rfl
  unfold Sd.once Dr.whole
  rw [e 0 (by omega), e 1 (by omega), e 2 (by omega), e 3 (by omega), e 4 (by omega)]
/-- the lines fare alike -/
theorem run_doc : ∀ (ls : List (List UInt8)) (d : Dr) (b : Bool) (s : Sd), Rel d b s → (runL ls d b).1 = docC (docR ls s) ∧ ((runL ls d b).1 = 0 → ∃ s', docR ls s = some s' ∧ Rel (runL ls d b).2 false s' ∧ (runL ls d b).2.whole = true)
  | [], d, b, s, h => by
    rw [runL, docR]
    show (if d.whole then (if b then 2 else 0) else 1) = (if s.once then (if s.ov then 2 else 0) else 1) ∧ _
    rw [h.whole, h.ov]
    refine ⟨rfl, fun h0 => ⟨s, rfl, ?_, ?_⟩⟩
    · have h0 : (if d.whole then (if b then 2 else 0) else 1) = 0 := h0
      cases b with
      | false => exact h
      | true => exfalso; revert h0; cases d.whole <;> simp
    · have h0 : (if d.whole then (if b then 2 else 0) else 1) = 0 := h0
      show d.whole = true
      cases hw : d.whole with
      | true => rfl
      | false => rw [hw] at h0; simp at h0
  | l :: ls, d, b, s, h => by
    rw [runL, docR]
    by_cases hsk : l = [] ∨ l.head? = some 35
    · have e1 : takeL d l = (0, d) := by unfold takeL; rw [if_pos hsk]
      have e2 : docL s l = some s := by unfold docL; rw [if_pos hsk]
      rw [e1, e2]
      exact run_doc ls d b s h
    · rw [take_name d l hsk]
      have e2 : docL s l = if nameK l < 5 then (match num (tailB l) with
          | .none => .none
          | some .none => some (s.num (nameK l) 18446744073709551615 true)
          | some (some n) => some (s.num (nameK l) n false)) else if nameK l = 5 then (unword ((tailB l).map UInt8.toNat)).map s.split else .none := by
        unfold docL; rw [if_neg hsk]
      rw [e2]
      by_cases hk : nameK l < 5
      · simp only [hk, if_true]
        unfold takeN
        cases hd : (d.f (nameK l)).isSome with
        | true =>
          have h1 := h.t _ hk
          rw [hd] at h1
          have ht : ∀ n o, 2 ≤ (s.num (nameK l) n o).t (nameK l) := fun n o => by simp [Sd.num, h1]
          cases hn : num (tailB l) with
          | none => simp [docC]
          | some o =>
            cases o with
            | none => simp [docC_twice hk (ht _ _)]
            | some n => simp [docC_twice hk (ht _ _)]
        | false =>
          cases hn : num (tailB l) with
          | none => simp [docC]
          | some o =>
            cases o with
            | none => simpa using run_doc ls _ true _ (h.over (n := 18446744073709551615) hk hd)
            | some n => simpa using run_doc ls _ b _ (h.num (n := n) hk hd)
      · simp only [hk, if_false]
        by_cases h5 : nameK l = 5
        · simp only [h5, if_true]
          unfold takeS
          cases hu : unword ((tailB l).map UInt8.toNat) with
          | none => simp [docC]
          | some x => simpa using run_doc ls _ b _ (h.split x)
        · simp only [h5, if_false]
          simp [docC]
/-- the document's way with words: whatever it reads, its word must be the word -/
def dgR (c : Nat) : Nat := (hv c).getD 16
def lax : Nat → List Nat → List Nat
  | 0, _ => []
  | f + 1, l => match l with
    | [] => []
    | 37 :: x :: y :: r => (dgR x * 16 + dgR y) % 256 :: lax f r
    | c :: r => c :: lax f r
theorem lax_cases (f : Nat) (l : List Nat) : (l = [] ∧ lax (f + 1) l = []) ∨ (∃ x y r, l = 37 :: x :: y :: r ∧ lax (f + 1) l = (dgR x * 16 + dgR y) % 256 :: lax f r) ∨ (∃ c r, l = c :: r ∧ (c ≠ 37 ∨ r.length < 2) ∧ lax (f + 1) l = c :: lax f r) := by
  cases l with
  | nil => exact .inl ⟨rfl, rfl⟩
  | cons c r =>
    refine .inr ?_
    by_cases h37 : c = 37
    · subst h37
      match r with
      | [] => exact .inr ⟨37, [], rfl, .inr (by simp), rfl⟩
      | [x] => exact .inr ⟨37, [x], rfl, .inr (by simp), rfl⟩
      | x :: y :: r => exact .inl ⟨x, y, r, rfl, rfl⟩
    · refine .inr ⟨c, r, rfl, .inl h37, ?_⟩
      rw [lax]
      intro x y q h1 _
      exact absurd h1 h37
theorem lax_wbs : ∀ (s : List Nat) (f : Nat), B8 s → s.length ≤ f → lax f (wbs s) = s
  | [], f, _, _ => by cases f <;> rfl
  | b :: s, 0, _, h => by simp at h
  | b :: s, f + 1, h8, h => by
    have hb : b < 256 := h8 b (by simp)
    have ih := lax_wbs s f (fun x hx => h8 x (by simp [hx])) (by simpa using h)
    have e : wbs (b :: s) = wb b ++ wbs s := by simp [wbs]
    rw [e]
    unfold wb
    by_cases hp : plB b = true
    · rw [if_pos hp]
      have h37 : b ≠ 37 := by intro e; subst e; simp [plB] at hp
      have e1 : lax (f + 1) (b :: wbs s) = b :: lax f (wbs s) := by
        rw [lax]
        intro x y r h1 _
        exact absurd h1 h37
      show lax (f + 1) (b :: wbs s) = _
      rw [e1, ih]
    · rw [if_neg hp]
      show lax (f + 1) (37 :: hx (b / 16) :: hx (b % 16) :: wbs s) = _
      rw [lax, ih]
      unfold dgR
      rw [hv_hx (by omega), hv_hx (by omega)]
      congr 1
      simp only [Option.getD_some]
      omega
theorem lax_fuel : ∀ (f g : Nat) (l : List Nat), l.length ≤ f → l.length ≤ g → lax f l = lax g l
  | 0, 0, l, _, _ => rfl
  | 0, g + 1, l, h, _ => by
    have : l = [] := List.eq_nil_of_length_eq_zero (by omega)
    subst this; rfl
  | f + 1, 0, l, _, h => by
    have : l = [] := List.eq_nil_of_length_eq_zero (by omega)
    subst this; rfl
  | f + 1, g + 1, l, h1, h2 => by
    rcases lax_cases f l with ⟨e, e1⟩ | ⟨x, y, r, e, e1⟩ | ⟨c, r, e, hc, e1⟩
    · subst e; rfl
    · subst e
      rw [lax, lax, lax_fuel f g r (by simp at h1; omega) (by simp at h2; omega)]
    · rcases lax_cases g l with ⟨e', _⟩ | ⟨x, y, r', e', e2⟩ | ⟨c', r', e', hc', e2⟩
      · rw [e] at e'; cases e'
      · rw [e] at e'
        injection e' with h3 h4
        subst h4
        rcases hc with hc | hc
        · exact absurd h3 hc
        · simp at hc; omega
      · rw [e1, e2]
        rw [e] at e'
        injection e' with h3 h4
        subst h3 h4
        rw [e] at h1 h2
        rw [lax_fuel f g r (by simp at h1; omega) (by simp at h2; omega)]
def laxL (l : List Nat) : List Nat := lax l.length l
theorem laxL_three (x y : Nat) (r : List Nat) : laxL (37 :: x :: y :: r) = (dgR x * 16 + dgR y) % 256 :: laxL r := by
  unfold laxL
  show lax (r.length + 2 + 1) (37 :: x :: y :: r) = _
  rw [lax, lax_fuel (r.length + 2) r.length r (by omega) (by omega)]
theorem laxL_one {c : Nat} {r : List Nat} (h : c ≠ 37 ∨ r.length < 2) : laxL (c :: r) = c :: laxL r := by
  unfold laxL
  show lax (r.length + 1) (c :: r) = _
  rw [lax]
  intro x y q h1 h2
  subst h2
  rcases h with h | h
  · exact absurd h1 h
  · simp at h; omega
theorem dgR_lt {c : Nat} (h : c < 256) : dgR c ≤ 16 := by
  unfold dgR
  cases hc : hv c with
  | none => simp
  | some n => have := (hx_hv hc).2; simp; omega
theorem lax_b8 : ∀ (f : Nat) (l : List Nat), B8 l → B8 (lax f l)
  | 0, l, _ => fun b hb => by cases hb
  | f + 1, l, h => by
    rcases lax_cases f l with ⟨e, e1⟩ | ⟨x, y, r, e, e1⟩ | ⟨c, r, e, hc, e1⟩
    · rw [e1]; exact fun b hb => by cases hb
    · rw [e1]
      intro b hb
      rcases List.mem_cons.1 hb with rfl | hb
      · omega
      · exact lax_b8 f r (fun z hz => h z (by rw [e]; simp [hz])) b hb
    · rw [e1]
      intro b hb
      rcases List.mem_cons.1 hb with rfl | hb
      · exact h _ (by rw [e]; simp)
      · exact lax_b8 f r (fun z hz => h z (by rw [e]; simp [hz])) b hb
theorem lax_len : ∀ (f : Nat) (l : List Nat), (lax f l).length ≤ l.length
  | 0, l => by simp [lax]
  | f + 1, l => by
    rcases lax_cases f l with ⟨e, e1⟩ | ⟨x, y, r, e, e1⟩ | ⟨c, r, e, hc, e1⟩
    · rw [e1]; simp
    · rw [e1, e]; have := lax_len f r; simp; omega
    · rw [e1, e]; have := lax_len f r; simp; omega
/-- what the document reads -/
def decR (l : List Nat) : List Nat := if l = [37] then [] else laxL l
theorem decR_b8 {l : List Nat} (h : B8 l) : B8 (decR l) := by
  unfold decR
  split
  · exact fun b hb => by cases hb
  · exact lax_b8 _ _ h
theorem wbs_not {s : List Nat} (h : s ≠ []) : wbs s ≠ [37] := by
  cases s with
  | nil => exact absurd rfl h
  | cons b s =>
    intro e
    have e1 : wb b ++ wbs s = [37] := by simpa [wbs] using e
    unfold wb at e1
    by_cases hp : plB b = true
    · rw [if_pos hp] at e1
      have : b = 37 := by injection e1
      subst this; simp [plB] at hp
    · rw [if_neg hp] at e1
      simp at e1
theorem decR_is {l : List Nat} (h8 : B8 l) : (if wordL (decR l) = l then (decR l, (0 : Int)) else ([], 120)) = (match unword l with
    | some s => (s, 0)
    | .none => ([], 120)) := by
  cases hu : unword l with
  | some s =>
    obtain ⟨hw, hs8⟩ := word_unword h8 hu
    have e : decR l = s := by
      by_cases hs : s = []
      · subst hs
        have : l = [37] := by rw [← hw]; rfl
        rw [this]; rfl
      · have hl : wbs s = l := by rw [← hw, wordL, if_neg hs]
        have h9 := (wbs_len s).1
        rw [decR, if_neg (by rw [← hl]; exact wbs_not hs), laxL, ← hl, lax_wbs s _ hs8 h9]
    rw [e, hw, if_pos rfl]
  | none =>
    rw [if_neg]
    intro e
    have := unword_word (decR_b8 h8)
    rw [e, hu] at this
    cases this
end Go.Proofs.YthenfioddnkjbaaGreatDoor.Rt
/- The document's number. -/
namespace Go.Proofs.YthenfioddnkjbaaGreatDoor.Rt
open Go.RowKit Go.Sort
set_option linter.unusedVariables false

/-- a text's byte -/
theorem index_bytes {t : ByteArray} {k : Nat} {c : UInt8} (hc : t.data.toList[k]? = some c) (w : World) : (Instr.index 9 (.string t) (.int .i64 (k : Int))).run Tryz.prog w = .ok (.int .u8 (c.toNat : Int)) w := by
  have hk : k < t.size := by
    have := (List.getElem?_eq_some_iff.1 hc).1
    rw [Lib.size_eq]; exact this
  rw [run_index_string w 9 t .i64 k Tryz.underlying9, dif_pos (by omega)]
  have h2 : t[k]'hk = c := by
    have h3 := (List.getElem?_eq_some_iff.1 hc).2
    rw [← h3]; rfl
  simp [h2]
def isD (b : UInt8) : Bool := decide (48 ≤ b.toNat) && decide (b.toNat ≤ 57)
/-- the digits up to here: whether they went beyond, and their number -/
def Dg (l : List UInt8) (k v : Nat) (o : Bool) : Prop := (∀ b ∈ l.take k, isD b = true) ∧ v < 18446744073709551616 ∧ (o = false → Lib.parseUint10 0 l = Lib.parseUint10 v (l.drop k)) ∧ (o = true → Lib.parseUint10 0 l = .range)
theorem Dg.zero (l : List UInt8) : Dg l 0 0 false := ⟨fun b hb => by simp at hb, by omega, fun _ => rfl, fun h => by cases h⟩
theorem Dg.more {l : List UInt8} {k v d : Nat} {o : Bool} {c : UInt8} (h : Dg l k v o) (hc : l[k]? = some c) (hd : c.toNat = 48 + d) (hd9 : d ≤ 9) : Dg l (k + 1) ((v * 10 + d) % 18446744073709551616) (o || decide ((18446744073709551615 - d) / 10 < v)) := by
  obtain ⟨h1, h2, h3, h4⟩ := h
  have hk : k < l.length := (List.getElem?_eq_some_iff.1 hc).1
  have hD : l.drop k = c :: l.drop (k + 1) := by
    rw [List.drop_eq_getElem_cons hk, (List.getElem?_eq_some_iff.1 hc).2]
  have hcd : isD c = true := by unfold isD; simp; omega
  refine ⟨fun b hb => ?_, Nat.mod_lt _ (by decide), fun ho => ?_, fun ho => ?_⟩
  · rw [List.take_add_one, hc] at hb
    rcases List.mem_append.1 hb with hb | hb
    · exact h1 b hb
    · simp at hb; subst hb; exact hcd
  · rw [Bool.or_eq_false_iff] at ho
    obtain ⟨ho1, ho2⟩ := ho
    rw [decide_eq_false_iff_not] at ho2
    rw [h3 ho1, hD, Lib.parseUint10, if_pos (by omega), if_neg (by omega), if_neg (by omega)]
    have e1 : (v * 10 + d) % 18446744073709551616 = v * 10 + (c.toNat - 48) := by omega
    rw [e1]
  · cases o with
    | true => exact h4 rfl
    | false =>
      simp at ho
      rw [h3 rfl, hD, Lib.parseUint10, if_pos (by omega)]
      by_cases hv : 1844674407370955162 ≤ v
      · rw [if_pos hv]
      · rw [if_neg hv, if_pos (by omega)]
/-- what the document's number answers -/
def numA (l : List UInt8) : Bool × Nat × Bool := match num l with
  | .none => (false, 0, false)
  | some .none => (true, 18446744073709551615, true)
  | some (some n) => (true, n, false)
theorem num_bad {l : List UInt8} {k : Nat} {c : UInt8} (hc : l[k]? = some c) (h : isD c = false) : numA l = (false, 0, false) := by
  unfold numA num
  have ha : l.all (fun b => decide (48 ≤ b.toNat) && decide (b.toNat ≤ 57)) = false := by
    rw [List.all_eq_false]
    refine ⟨c, List.mem_of_getElem? hc, ?_⟩
    unfold isD at h
    simp only [h, Bool.false_eq_true, not_false_eq_true]
  rw [if_pos (.inl ha)]
theorem num_zero {l : List UInt8} (h : (1 < l.length ∧ l.head? = some 48) ∨ l = []) : numA l = (false, 0, false) := by
  unfold numA num
  rw [if_pos (.inr h)]
theorem Dg.end {l : List UInt8} {v : Nat} {o : Bool} (h : Dg l l.length v o) (hz : ¬ ((1 < l.length ∧ l.head? = some 48) ∨ l = [])) : numA l = if o then (true, 18446744073709551615, true) else (true, v, false) := by
  obtain ⟨h1, h2, h3, h4⟩ := h
  rw [List.take_length] at h1
  have ha : l.all (fun b => decide (48 ≤ b.toNat) && decide (b.toNat ≤ 57)) = true := List.all_eq_true.2 h1
  unfold numA num
  rw [if_neg (by rw [ha]; simp; simpa using hz)]
  cases o with
  | true => rw [h4 rfl]; rfl
  | false => rw [h3 rfl, List.drop_length]; rfl
set_option maxRecDepth 100000 in
set_option maxHeartbeats 4000000 in
theorem rnumber_is {t : ByteArray} {l : List UInt8} (hl : l = t.data.toList) (hs : t.size ≤ 1000) (w : World) :
    Calls Tryz.prog 98 #[.string t] w fun e w' => e = .returned (.tuple #[.bool (numA l).1, .int .u64 ((numA l).2.1 : Int), .bool (numA l).2.2]) ∧ Below w.heap.size w w' := by
  have hz : t.size = l.length := by rw [hl, Lib.size_eq]
  have HL := hid hl
  clear hl
  go_enter Tryz.func98, Tryz.ntmps98
  cases hq : (t.toList == []) with
  | true =>
    have HF : Hid (numA l = (false, 0, false)) := num_zero (.inr (by rw [beq_iff_eq] at hq; rw [HL.out, ← ByteArray.toList_eq, hq]))
    go_wp2_with fail
    go_ret3
    exact ⟨by rw [HF.out]; rfl, Below.refl _ _⟩
  | false =>
    have hn : l ≠ [] := fun h => by
      rw [beq_eq_false_iff_ne] at hq
      apply hq
      rw [ByteArray.toList_eq, ← HL.out, h]
    have h0 : 0 < l.length := List.length_pos_iff.2 hn
    have hc0 : t.data.toList[0]? = some l[0] := by rw [← HL.out]; exact List.getElem?_eq_getElem h0
    have hx0 := index_bytes (k := 0) hc0
    obtain ⟨c0, hc0'⟩ : ∃ c : Nat, c = l[0].toNat := ⟨_, rfl⟩
    rw [← hc0'] at hx0
    have hx0 : ∀ w, (Instr.index 9 (.string t) (.int .i64 0)).run Tryz.prog w = .ok (.int .u8 (c0 : Int)) w := hx0
    have hhd : l.head? = some l[0] := by rw [List.head?_eq_getElem?]; exact List.getElem?_eq_getElem h0
    obtain ⟨b1, hb1⟩ : ∃ b, b = decide ((1 : Int) < (l.length : Int)) := ⟨_, rfl⟩
    obtain ⟨b2, hb2⟩ : ∃ b, b = ((c0 : Int) == 48) := ⟨_, rfl⟩
    by_cases hb : b1 = true ∧ b2 = true
    · obtain ⟨rfl, rfl⟩ := hb
      replace hb1 := hb1.symm
      replace hb2 := hb2.symm
      have HF : Hid (numA l = (false, 0, false)) := num_zero (.inl ⟨by simp at hb1; omega, by
        rw [hhd]; congr 1; apply UInt8.toNat_inj.1
        simp at hb2
        have : (48 : UInt8).toNat = 48 := rfl
        omega⟩)
      clear hhd hc0 hc0'
      go_wp2_with fail
      go_ret3
      exact ⟨by rw [HF.out]; rfl, Below.refl _ _⟩
    · have HZ : Hid (¬ ((1 < l.length ∧ l.head? = some 48) ∨ l = [])) := by
        rintro (⟨h1, h2⟩ | h)
        · apply hb
          rw [hhd] at h2
          injection h2 with h2
          refine ⟨by rw [hb1]; simp; omega, ?_⟩
          rw [hb2, hc0', h2]; rfl
        · exact hn h
      clear hhd hc0 hc0' hn
      have KEY : ∀ (P : Prop), (b1 = false → P) → (b1 = true → b2 = false → P) → P := fun P p1 p2 => by
        cases b1 with
        | false => exact p1 rfl
        | true => cases b2 with
          | false => exact p2 rfl rfl
          | true => exact absurd ⟨rfl, rfl⟩ hb
      clear hb
      apply KEY
      all_goals
        intros
        first
        | (replace hb1 : decide ((1 : Int) < (l.length : Int)) = false := by rw [← hb1]; assumption)
        | (replace hb1 : decide ((1 : Int) < (l.length : Int)) = true := by rw [← hb1]; assumption
           replace hb2 : ((c0 : Int) == 48) = false := by rw [← hb2]; assumption)
        clear KEY
        go_wp2_with fail
        go_loopg [5, 6, 7] l.length (fun g s4 s5 s6 wr => ∃ (k v : Nat) (o : Bool), k ≤ l.length ∧ g = l.length - k ∧ s4 = .int .u64 v ∧ s5 = .bool o ∧ s6 = .int .i64 k ∧ Hid (Dg l k v o) ∧ Hid (Below w.heap.size w wr))
        case atStart => exact ⟨0, 0, false, by omega, by omega, rfl, rfl, rfl, hid (Dg.zero _), hid (Below.refl _ _)⟩
        case round =>
          clear hb1
          try clear hb2
          obtain ⟨k, v, o, hk, rfl, rfl, rfl, rfl, HD, HB⟩ := hrel
          by_cases hlt : k < l.length
          · obtain ⟨c, hc⟩ : ∃ c, l[k]? = some c := ⟨_, List.getElem?_eq_getElem hlt⟩
            have hix := index_bytes (t := t) (k := k) (c := c) (by rw [← HL.out]; exact hc)
            have HC := hid hc
            have hc8 : c.toNat < 256 := c.toNat_lt
            clear hc
            by_cases h1 : c.toNat < 48
            · have HF : Hid (numA l = (false, 0, false)) := num_bad HC.out (by unfold isD; simp; omega)
              have d1 : decide ((c.toNat : Int) < 48) = true := by simp; omega
              go_wp2_with fail
              go_ret3
              exact ⟨by rw [HF.out]; rfl, HB.out⟩
            · by_cases h2 : 57 < c.toNat
              · have HF : Hid (numA l = (false, 0, false)) := num_bad HC.out (by unfold isD; simp; omega)
                have d1 : decide ((c.toNat : Int) < 48) = false := by simp; omega
                have d2 : decide ((57 : Int) < (c.toNat : Int)) = true := by simp; omega
                go_wp2_with fail
                go_ret3
                exact ⟨by rw [HF.out]; rfl, HB.out⟩
              · obtain ⟨d, hd⟩ : ∃ d, c.toNat = 48 + d := ⟨c.toNat - 48, by omega⟩
                have HM : Hid _ := hid (HD.out.more HC.out hd (by omega))
                obtain ⟨x, hx⟩ : ∃ x, x = c.toNat := ⟨_, rfl⟩
                rw [← hx] at hix hd hc8 h1 h2
                clear hx
                have hd9 : d ≤ 9 := by omega
                have hv : v < 18446744073709551616 := HD.out.2.1
                have d1 : decide ((x : Int) < 48) = false := by simp; omega
                have d2 : decide ((57 : Int) < (x : Int)) = false := by simp; omega
                have e1 : IntKind.u8.wrap ((x : Int) - 48) = (d : Int) := by rw [IntKind.wrap_u8]; omega
                have e2 : IntKind.u64.wrap (d : Int) = (d : Int) := by rw [IntKind.wrap_u64]; omega
                have e3 : IntKind.u64.wrap (18446744073709551615 - (d : Int)) = 18446744073709551615 - (d : Int) := by rw [IntKind.wrap_u64]; omega
                obtain ⟨q, hq'⟩ : ∃ q, q = (18446744073709551615 - d) / 10 := ⟨_, rfl⟩
                obtain ⟨v', hv'⟩ : ∃ v', v' = (v * 10 + d) % 18446744073709551616 := ⟨_, rfl⟩
                obtain ⟨m, hm⟩ : ∃ m, m = v * 10 % 18446744073709551616 := ⟨_, rfl⟩
                rw [← hq', ← hv'] at HM
                have e4 : IntKind.u64.wrap ((v : Int) * 10) = (m : Int) := by rw [IntKind.wrap_u64]; omega
                have e5 : IntKind.u64.wrap ((m : Int) + (d : Int)) = (v' : Int) := by rw [IntKind.wrap_u64]; omega
                clear h1 h2 hd hv' hm hv hc8
                cases hb : decide (q < v) with
                | true =>
                  have hqv : decide ((18446744073709551615 - (d : Int)) / 10 < (v : Int)) = true := by simp at hb ⊢; omega
                  rw [hb, Bool.or_true] at HM
                  clear hb hq'
                  go_wp2_with fail
                  go_roundg (l.length - (k + 1))
                  case measure => omega
                  case rel => exact ⟨k + 1, v', true, by omega, rfl, rfl, rfl, by go_num, HM, HB⟩
                | false =>
                  have hqv : decide ((18446744073709551615 - (d : Int)) / 10 < (v : Int)) = false := by simp at hb ⊢; omega
                  rw [hb, Bool.or_false] at HM
                  clear hb hq'
                  go_wp2_with fail
                  go_roundg (l.length - (k + 1))
                  case measure => omega
                  case rel => exact ⟨k + 1, v', o, by omega, rfl, rfl, rfl, by go_num, HM, HB⟩
          · obtain rfl : k = l.length := by omega
            have HF := hid (HD.out.end HZ.out)
            cases o with
            | true =>
              go_wp2_with fail
              go_ret3
              exact ⟨by rw [HF.out]; rfl, HB.out⟩
            | false =>
              go_wp2_with fail
              go_ret3
              exact ⟨by rw [HF.out]; rfl, HB.out⟩
end Go.Proofs.YthenfioddnkjbaaGreatDoor.Rt
