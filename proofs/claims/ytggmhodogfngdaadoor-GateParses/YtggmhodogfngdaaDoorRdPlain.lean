import Derived.Test.YtggmhodogfngdaaDoorRWordP
import Derived.Lib.Split
import Derived.Lib.AtoiAll
/- How a configuration's text is read: plain. -/
namespace Go.Proofs.YtggmhodogfngdaaDoor.Rt
set_option linter.unusedVariables false

/-- what the lines have said so far: five numbers, and the split keys -/
structure Dr where
  f : Nat → Option Nat
  sp : List (List Nat)
def Dr.none : Dr := ⟨fun _ => .none, []⟩
def Dr.put (d : Dr) (k n : Nat) : Dr := ⟨fun j => if j = k then some n else d.f j, d.sp⟩
def Dr.add (d : Dr) (s : List Nat) : Dr := ⟨d.f, d.sp ++ [s]⟩
def Dr.whole (d : Dr) : Bool := (d.f 0).isSome && (d.f 1).isSome && (d.f 2).isSome && (d.f 3).isSome && (d.f 4).isSome
/-- the lines' names -/
def nm : Nat → List UInt8
  | 0 => [115, 104, 97, 114, 100, 115]
  | 1 => [99, 108, 105, 101, 110, 116, 115]
  | 2 => [99, 97, 112, 97, 99, 105, 116, 121]
  | 3 => [112, 97, 114, 107]
  | 4 => [119, 105, 110, 100, 111, 119]
  | _ => [115, 112, 108, 105, 116]
/-- a number: none, it has not the form; some none, it is beyond all limits -/
def num (w : List UInt8) : Option (Option Nat) :=
  if w.all (fun b => decide (48 ≤ b.toNat) && decide (b.toNat ≤ 57)) = false ∨ (1 < w.length ∧ w.head? = some 48) ∨ w = [] then .none
  else match Lib.parseUint10 0 w with
    | .ok n => some (some n)
    | .range => some .none
    | _ => .none
/-- how a line fares: 0 well, 1 not of the form, 2 beyond a limit -/
def takeN (d : Dr) (k : Nat) (w : List UInt8) : Nat × Dr :=
  if (d.f k).isSome then (1, d) else match num w with
    | .none => (1, d.put k 0)
    | some .none => (2, d.put k 0)
    | some (some n) => (0, d.put k n)
def takeS (d : Dr) (w : List UInt8) : Nat × Dr := match unword (w.map UInt8.toNat) with
  | some s => (0, d.add s)
  | .none => (1, d)
/-- name and word: what stands ahead of the first blank, and behind it -/
def headB (l : List UInt8) : List UInt8 := l.takeWhile (fun b => decide (b ≠ 32))
def tailB (l : List UInt8) : List UInt8 := (l.dropWhile (fun b => decide (b ≠ 32))).drop 1
def takeL (d : Dr) (l : List UInt8) : Nat × Dr :=
  if l = [] ∨ l.head? = some 35 then (0, d)
  else if headB l = nm 0 then takeN d 0 (tailB l)
  else if headB l = nm 1 then takeN d 1 (tailB l)
  else if headB l = nm 2 then takeN d 2 (tailB l)
  else if headB l = nm 3 then takeN d 3 (tailB l)
  else if headB l = nm 4 then takeN d 4 (tailB l)
  else if headB l = nm 5 then takeS d (tailB l)
  else (1, d)
/-- how the lines fare, and what they have said -/
def runL : List (List UInt8) → Dr → Bool → Nat × Dr
  | [], d, b => (if d.whole then (if b then 2 else 0) else 1, d)
  | l :: ls, d, b => if (takeL d l).1 = 0 then runL ls (takeL d l).2 b else if (takeL d l).1 = 2 then runL ls (takeL d l).2 true else (1, (takeL d l).2)

/-- a line of a name and a word -/
def ln (k : Nat) (w : List UInt8) : List UInt8 := nm k ++ 32 :: w
theorem nm_plain (k : Nat) : ∀ b ∈ nm k, decide (b ≠ 32) = true := by
  unfold nm
  split <;> decide
theorem nm_head (k : Nat) : ∃ b t, nm k = b :: t ∧ b ≠ 35 ∧ b ≠ 10 := by
  unfold nm
  split <;> exact ⟨_, _, rfl, by decide, by decide⟩
theorem tw_app {p : UInt8 → Bool} : ∀ {l : List UInt8} {b : UInt8} {t : List UInt8}, (∀ x ∈ l, p x = true) → p b = false → (l ++ b :: t).takeWhile p = l
  | [], b, t, _, hb => by simp [hb]
  | x :: l, b, t, h, hb => by
    have hx := h x (by simp)
    have := tw_app (l := l) (b := b) (t := t) (fun y hy => h y (by simp [hy])) hb
    simp [hx, this]
theorem dw_app {p : UInt8 → Bool} : ∀ {l : List UInt8} {b : UInt8} {t : List UInt8}, (∀ x ∈ l, p x = true) → p b = false → (l ++ b :: t).dropWhile p = b :: t
  | [], b, t, _, hb => by simp [hb]
  | x :: l, b, t, h, hb => by
    have hx := h x (by simp)
    have := dw_app (l := l) (b := b) (t := t) (fun y hy => h y (by simp [hy])) hb
    simp [hx, this]
theorem ln_head (k : Nat) (w : List UInt8) : headB (ln k w) = nm k := tw_app (nm_plain k) (by decide)
theorem ln_tail (k : Nat) (w : List UInt8) : tailB (ln k w) = w := by
  unfold tailB ln
  rw [dw_app (nm_plain k) (by decide)]
  rfl
theorem ln_some (k : Nat) (w : List UInt8) : ¬ (ln k w = [] ∨ (ln k w).head? = some 35) := by
  obtain ⟨b, t, e, h, _⟩ := nm_head k
  unfold ln
  rw [e]
  simp [h]
theorem take_num (d : Dr) {k n : Nat} {w : List UInt8} (hk : k < 5) (h : num w = some (some n)) : takeL d (ln k w) = if (d.f k).isSome then (1, d) else (0, d.put k n) := by
  unfold takeL
  rw [if_neg (ln_some k w), ln_head, ln_tail]
  have hT : ∀ j, takeN d j w = if (d.f j).isSome then (1, d) else (0, d.put j n) := fun j => by simp only [takeN, h]
  match k, hk with
  | 0, _ => rw [if_pos rfl, hT]
  | 1, _ => rw [if_neg (by decide), if_pos rfl, hT]
  | 2, _ => rw [if_neg (by decide), if_neg (by decide), if_pos rfl, hT]
  | 3, _ => rw [if_neg (by decide), if_neg (by decide), if_neg (by decide), if_pos rfl, hT]
  | 4, _ => rw [if_neg (by decide), if_neg (by decide), if_neg (by decide), if_neg (by decide), if_pos rfl, hT]
theorem take_split (d : Dr) {w : List UInt8} {s : List Nat} (h : unword (w.map UInt8.toNat) = some s) : takeL d (ln 5 w) = (0, d.add s) := by
  unfold takeL
  rw [if_neg (ln_some 5 w), ln_head, ln_tail, if_neg (by decide), if_neg (by decide), if_neg (by decide), if_neg (by decide), if_neg (by decide), if_pos rfl]
  simp only [takeS, h]
theorem take_nil (d : Dr) : takeL d [] = (0, d) := by unfold takeL; rw [if_pos (.inl rfl)]
theorem take_note (d : Dr) (t : List UInt8) : takeL d (35 :: t) = (0, d) := by unfold takeL; rw [if_pos (.inr rfl)]
theorem run_num {d : Dr} {k n : Nat} {w : List UInt8} {ls : List (List UInt8)} {b : Bool} (hk : k < 5) (h : num w = some (some n)) (hd : (d.f k).isSome = false) : runL (ln k w :: ls) d b = runL ls (d.put k n) b := by
  have e := take_num d hk h
  rw [hd] at e
  rw [runL, e]
  simp
theorem run_twice {d : Dr} {k n : Nat} {w : List UInt8} {ls : List (List UInt8)} {b : Bool} (hk : k < 5) (h : num w = some (some n)) (hd : (d.f k).isSome = true) : (runL (ln k w :: ls) d b).1 = 1 := by
  have e := take_num d hk h
  rw [hd] at e
  rw [runL, e]
  simp
theorem run_nil {d : Dr} {ls : List (List UInt8)} {b : Bool} : runL ([] :: ls) d b = runL ls d b := by rw [runL, take_nil]; simp
theorem run_note {d : Dr} {t : List UInt8} {ls : List (List UInt8)} {b : Bool} : runL ((35 :: t) :: ls) d b = runL ls d b := by rw [runL, take_note]; simp
/-- the split keys' lines, and the end -/
theorem run_splits : ∀ {ss : List (List Nat)} {ws : List (List UInt8)} {d : Dr} {b : Bool}, ws.map (fun w => unword (w.map UInt8.toNat)) = ss.map some → runL (ws.map (ln 5) ++ [[]]) d b = (if d.whole then (if b then 2 else 0) else 1, ⟨d.f, d.sp ++ ss⟩)
  | [], [], d, b, _ => by
    show runL [[]] d b = _
    rw [run_nil, runL]; simp
  | s :: ss, w :: ws, d, b, h => by
    simp only [List.map_cons, List.cons.injEq] at h
    show runL (ln 5 w :: (ws.map (ln 5) ++ [[]])) d b = _
    rw [runL, take_split d h.1]
    simp only [if_true]
    rw [run_splits h.2]
    simp [Dr.add, Dr.whole]
  | [], w :: ws, d, b, h => by simp at h
  | s :: ss, [], d, b, h => by simp at h
/-- what a whole text says -/
def Dr.of (v : Nat → Nat) (ss : List (List Nat)) : Dr := ⟨fun j => if j < 5 then some (v j) else .none, ss⟩
section
variable {v : Nat → Nat} {w : Nat → List UInt8} {ss : List (List Nat)} {ws : List (List UInt8)}
/-- a text's lines -/
def lines (w : Nat → List UInt8) (ws : List (List UInt8)) : List (List UInt8) := ([0, 1, 2, 3, 4].map fun k => ln k (w k)) ++ ws.map (ln 5)
theorem run_five (o : List Nat) (hv : ∀ k, k < 5 → num (w k) = some (some (v k))) (hs : ws.map (fun w => unword (w.map UInt8.toNat)) = ss.map some) :
    ∀ (d : Dr), (∀ k ∈ o, k < 5 ∧ (d.f k).isSome = false) → o.Nodup → runL (o.map (fun k => ln k (w k)) ++ (ws.map (ln 5) ++ [[]])) d false = (if (⟨fun j => if j ∈ o then some (v j) else d.f j, d.sp⟩ : Dr).whole then 0 else 1, ⟨fun j => if j ∈ o then some (v j) else d.f j, d.sp ++ ss⟩) := by
  induction o with
  | nil => intro d _ _; simpa using run_splits (d := d) (b := false) hs
  | cons k o ih =>
    intro d hd hn
    obtain ⟨hk, hf⟩ := hd k (by simp)
    have hn' := List.nodup_cons.1 hn
    show runL (ln k (w k) :: (o.map (fun k => ln k (w k)) ++ (ws.map (ln 5) ++ [[]]))) d false = _
    rw [run_num hk (hv k hk) hf, ih (d.put k (v k)) (fun j hj => ⟨(hd j (by simp [hj])).1, by
      have hjk : j ≠ k := fun e => hn'.1 (e ▸ hj)
      simp only [Dr.put, if_neg hjk]
      exact (hd j (by simp [hj])).2⟩) hn'.2]
    have e : (fun j => if j ∈ o then some (v j) else (d.put k (v k)).f j) = fun j => if j ∈ k :: o then some (v j) else d.f j := by
      funext j
      by_cases h1 : j ∈ o
      · simp [h1]
      · by_cases h2 : j = k
        · subst h2; simp [h1, Dr.put]
        · simp [h1, h2, Dr.put]
    rw [e]
    rfl
/-- any order of the five, and nothing else: well -/
theorem run_whole (o : List Nat) (hv : ∀ k, k < 5 → num (w k) = some (some (v k))) (hs : ws.map (fun w => unword (w.map UInt8.toNat)) = ss.map some) (h5 : ∀ k, k ∈ o ↔ k < 5) (hn : o.Nodup) :
    runL (o.map (fun k => ln k (w k)) ++ (ws.map (ln 5) ++ [[]])) Dr.none false = (0, Dr.of v ss) := by
  rw [run_five o hv hs Dr.none (fun k hk => ⟨(h5 k).1 hk, rfl⟩) hn]
  have e : (fun j => if j ∈ o then some (v j) else Dr.none.f j) = fun j => if j < 5 then some (v j) else .none := by
    funext j
    by_cases h : j < 5
    · rw [if_pos ((h5 j).2 h), if_pos h]
    · rw [if_neg (fun hj => h ((h5 j).1 hj)), if_neg h]; rfl
  rw [e]
  simp [Dr.whole, Dr.of, Dr.none]
/-- one left out: not of the form -/
theorem run_less (o : List Nat) {x : Nat} (hx : x < 5) (hv : ∀ k, k < 5 → num (w k) = some (some (v k))) (hs : ws.map (fun w => unword (w.map UInt8.toNat)) = ss.map some) (h5 : ∀ k ∈ o, k < 5 ∧ k ≠ x) (hn : o.Nodup) :
    (runL (o.map (fun k => ln k (w k)) ++ (ws.map (ln 5) ++ [[]])) Dr.none false).1 = 1 := by
  rw [run_five o hv hs Dr.none (fun k hk => ⟨(h5 k hk).1, rfl⟩) hn]
  have hno : x ∉ o := fun h => (h5 x h).2 rfl
  have : (⟨fun j => if j ∈ o then some (v j) else Dr.none.f j, Dr.none.sp⟩ : Dr).whole = false := by
    have h0 : ((fun j => if j ∈ o then some (v j) else Dr.none.f j) x : Option Nat).isSome = false := by simp [hno, Dr.none]
    unfold Dr.whole
    match x, hx with
    | 0, _ | 1, _ | 2, _ | 3, _ | 4, _ => simp only [h0, Bool.and_false, Bool.false_and]
  rw [this]
  rfl
/-- one twice: not of the form -/
theorem run_more (o : List Nat) {x : Nat} (hx : x < 5) (hv : ∀ k, k < 5 → num (w k) = some (some (v k))) (r : List (List UInt8)) :
    ∀ (d : Dr), (d.f x).isSome = true → (∀ k ∈ o, k < 5) → x ∈ o → (runL (o.map (fun k => ln k (w k)) ++ r) d false).1 = 1 := by
  induction o with
  | nil => intro d _ _ h; simp at h
  | cons k o ih =>
    intro d hd ho hxo
    have hk := ho k (by simp)
    show (runL (ln k (w k) :: (o.map (fun k => ln k (w k)) ++ r)) d false).1 = 1
    cases hf : (d.f k).isSome with
    | true => exact run_twice hk (hv k hk) hf
    | false =>
      have hkx : x ≠ k := fun e => by rw [e, hf] at hd; cases hd
      rw [run_num hk (hv k hk) hf]
      refine ih (d.put k (v k)) (by simp only [Dr.put, if_neg hkx]; exact hd) (fun j hj => ho j (by simp [hj])) ?_
      rcases List.mem_cons.1 hxo with h | h
      · exact absurd h hkx
      · exact h
end
end Go.Proofs.YtggmhodogfngdaaDoor.Rt
