import Derived.Test.YtmbmagfdeadibaaDOnl
/- Rows of the document's cells: a byte, and is it sure. -/
namespace Go.Proofs.Ytmbmagfdeadibaa
open Go.RowKit Go.Sort
set_option linter.unusedVariables false

structure Cc where
  b : Nat
  s : Bool
def Cc.cs (c : Cc) : List Value := [.int .u8 (c.b : Int), .bool c.s]
def zcc : Cc := ⟨0, false⟩
def nthC (xs : List Cc) (i : Nat) : Cc := (xs[i]?).getD zcc
theorem nthC_take {xs : List Cc} {k : Nat} (h : k < xs.length) : xs.take (k + 1) = xs.take k ++ [nthC xs k] := by
  rw [List.take_succ_eq_append_getElem h]; simp [nthC, h]
def flatC (xs : List Cc) : List Value := xs.flatMap Cc.cs
theorem flatC_length (xs : List Cc) : (flatC xs).length = xs.length * 2 := by
  induction xs with
  | nil => rfl
  | cons x xs ih => simp only [flatC, List.flatMap_cons, List.length_append, List.length_cons] at *; rw [ih]; simp [Cc.cs]; omega
theorem flatC_append (xs ys : List Cc) : flatC (xs ++ ys) = flatC xs ++ flatC ys := by simp [flatC]
theorem flatC_one (x : Cc) : flatC [x] = x.cs := by simp [flatC]
theorem flatC_at (xs : List Cc) (i : Nat) (h : i < xs.length) : (flatC xs)[i * 2]? = some (.int .u8 ((nthC xs i).b : Int)) ∧ (flatC xs)[i * 2 + 1]? = some (.bool (nthC xs i).s) := by
  induction xs generalizing i with
  | nil => simp at h
  | cons x xs ih =>
    have e : flatC (x :: xs) = x.cs ++ flatC xs := by simp [flatC]
    rw [e]
    cases i with
    | zero => exact ⟨rfl, rfl⟩
    | succ i =>
      have := ih i (by simpa using h)
      have n1 : nthC (x :: xs) (i + 1) = nthC xs i := by simp [nthC]
      rw [n1]
      have hl : x.cs.length = 2 := rfl
      refine ⟨?_, ?_⟩
      · rw [List.getElem?_append_right (by rw [hl]; omega), hl, show (i + 1) * 2 - 2 = i * 2 by omega]; exact this.1
      · rw [List.getElem?_append_right (by rw [hl]; omega), hl, show (i + 1) * 2 + 1 - 2 = i * 2 + 1 by omega]; exact this.2
abbrev ccv (b : Int) (s : Bool) : Value := .agg #[.int .u8 b, .bool s]
theorem Try.infoCc : (Try.prog.info? 72).map (fun i => (i.zero, i.size, i.bytes)) = some (some (ccv 0 false), 2, 2) := by kernel_rfl
theorem info_of {P : Program} {t : TypeId} {z : Value} {n m : Nat} (h : (P.info? t).map (fun i => (i.zero, i.size, i.bytes)) = some (some z, n, m)) : ∃ i, P.info? t = some i ∧ i.zero = some z ∧ i.size = n ∧ i.bytes = m := by
  obtain ⟨i, hi, he⟩ := Option.map_eq_some_iff.1 h
  simp only [Prod.mk.injEq] at he
  exact ⟨i, hi, he.1, he.2.1, he.2.2⟩
/-- a row of cells, to be read -/
def RowC (w : World) (a : Option Addr) (xs : List Cc) : Prop :=
  ∀ i, i < xs.length → ∃ b off, a = some ⟨b, off, none⟩ ∧ w.cell? ⟨b, off + i * 2, none⟩ = some (.int .u8 ((nthC xs i).b : Int)) ∧ w.cell? ⟨b, off + i * 2 + 1, none⟩ = some (.bool (nthC xs i).s)
theorem RowC.later {w w' : World} {a : Option Addr} {xs : List Cc} (h : RowC w a xs) (hb : Below w.heap.size w w') : RowC w' a xs := fun i hi => by
  obtain ⟨b, off, e, h0, h1⟩ := h i hi
  exact ⟨b, off, e, cell_later hb h0, cell_later hb h1⟩
theorem rowC_of_owns {w : World} {base : Nat} {v : Value} {xs : List Cc} (h : w.ownsRow base 72 2 v xs.length (flatC xs)) :
    ∃ a c, v = .slice a xs.length c ∧ RowC w a xs := by
  have h' := h
  obtain ⟨hl, ⟨rfl, h0⟩ | ⟨g, cap, cur, rfl, _⟩⟩ := h'
  · exact ⟨none, 0, by rw [h0], fun i hi => by omega⟩
  · refine ⟨_, cap, rfl, fun i hi => ⟨g, 0, rfl, ?_⟩⟩
    have hc := fun j hj => h.cellAt j hj
    obtain ⟨f0, f1⟩ := flatC_at xs i hi
    simp only [Nat.zero_add]
    exact ⟨by rw [hc _ (by omega)]; exact f0, by rw [hc _ (by omega)]; exact f1⟩

set_option maxHeartbeats 1000000 in
theorem first_any {a : Option Addr} {c n : Nat} {xs : List Cc} {w : World} (h : RowC w a xs) (hn : n ≤ xs.length) (hl : xs.length ≤ 1048576) :
    Calls Try.prog 31 #[.slice a xs.length c, .int .i64 (n : Int)] w fun e w' => ∃ v, e = .returned v ∧ w'.ownsRow w.heap.size 72 2 v n (flatC (xs.take n)) ∧ Below w.heap.size w w' := by
  obtain ⟨i0, hi, hz0, hz1, hz2⟩ := info_of Try.infoCc
  go_enter Try.func31, Try.ntmps31
  go_wp2_with fail
  go_loopg [5, 6] n (fun g s5 s6 wr => ∃ k : Nat, k ≤ n ∧ g = n - k ∧ s6 = .int .i64 k ∧ wr.ownsRow w.heap.size 72 2 s5 k (flatC (xs.take k)) ∧ Below w.heap.size w wr)
  case atStart => exact ⟨0, by omega, by omega, rfl, World.ownsRow_nil _ _ _ _, Below.refl _ _⟩
  case round =>
    obtain ⟨k, hk, rfl, rfl, hown, hb⟩ := hrel
    by_cases hlt : k < n
    · have hlx : k < xs.length := by omega
      have hs : flatC (xs.take (k + 1)) = flatC (xs.take k) ++ (nthC xs k).cs := by rw [nthC_take hlx, flatC_append, flatC_one]
      have HS := hid hs
      obtain ⟨b, off, rfl, c0, c1⟩ := (h.later hb) k hlx
      obtain ⟨x, hx⟩ : ∃ x, x = nthC xs k := ⟨_, rfl⟩
      rw [← hx] at c0 c1 HS
      clear hs hx
      go_wp2_with (first
        | (at_builtin; refine wpList_append_own _ rfl _ _ 65 rfl w.heap.size 72 i0 (ccv 0 false) 2 2 Try.underlying65 hi hz0 hz1 hz2 rfl (by decide) _ _ _ rfl (hown.alloc _) ⟨wr.heap.size, 0, none⟩ 1 1 x.cs rfl rfl ?c1 ?c2 ?c3 ?c4 ?c5 ?_)
        | go_in)
      case c1 =>
        intro j u hj
        match j, hj with
        | 0, hj => simp [Cc.cs] at hj; subst hj; simp [go_sem]
        | 1, hj => simp [Cc.cs] at hj; subst hj; simp [go_sem]
      case c2 => intro u hu; simp [Cc.cs] at hu; rcases hu with rfl | rfl <;> rfl
      case c3 => unfold maxLen; omega
      case c4 => omega
      case c5 => have := hb.size; simp; omega
      · intro v' w1 hown' hgrow _
        rw [← HS.out] at hown'
        have hb1 : Below w.heap.size w w1 := Below.grown (Below.al hb _) hgrow (by have := hb.size; simp; omega) (fun g hg => by
          obtain ⟨_, ⟨rfl, _⟩ | ⟨g', cap, cur, rfl, hg', _⟩⟩ := hown
          · simp [Value.ownBlock] at hg
          · simp [Value.ownBlock] at hg; omega)
        clear hgrow hown HS c0 c1
        go_wp2_with fail
        go_roundg (n - (k + 1))
        case measure => omega
        case rel => exact ⟨k + 1, by omega, rfl, by go_num, hown', hb1⟩
    · obtain rfl : k = n := by omega
      go_wp2_with fail
      go_ret
      exact ⟨_, rfl, hown, hb⟩

/-- what a crash leaves, cell by cell: the row and how many loose ones may still be kept -/
def keptStep (p : List Cc × Int) (c : Cc) : List Cc × Int :=
  if c.s then (p.1 ++ [c], p.2) else if 0 < p.2 then (p.1 ++ [⟨c.b, true⟩], p.2 - 1) else p
def keptF (keep : Int) (xs : List Cc) : List Cc × Int := xs.foldl keptStep ([], keep)
theorem keptF_snoc (keep : Int) (xs : List Cc) (c : Cc) : keptF keep (xs ++ [c]) = keptStep (keptF keep xs) c := by simp [keptF]
theorem keptF_length (keep : Int) (xs : List Cc) : (keptF keep xs).1.length ≤ xs.length := by
  have : ∀ (xs : List Cc) (p : List Cc × Int), (xs.foldl keptStep p).1.length ≤ p.1.length + xs.length := by
    intro xs
    induction xs with
    | nil => intro p; simp
    | cons x xs ih =>
      intro p
      have h1 := ih (keptStep p x)
      have h2 : (keptStep p x).1.length ≤ p.1.length + 1 := by
        unfold keptStep
        repeat' split
        all_goals simp
      simp only [List.foldl_cons, List.length_cons]
      omega
  simpa [keptF] using this xs ([], keep)
theorem keptF_low (keep : Int) (xs : List Cc) (h : -9223372036854775808 ≤ keep) (h' : keep ≤ 9223372036854775807) : -9223372036854775808 ≤ (keptF keep xs).2 ∧ (keptF keep xs).2 ≤ 9223372036854775807 := by
  have : ∀ (xs : List Cc) (p : List Cc × Int), -9223372036854775808 ≤ p.2 → p.2 ≤ 9223372036854775807 → -9223372036854775808 ≤ (xs.foldl keptStep p).2 ∧ (xs.foldl keptStep p).2 ≤ 9223372036854775807 := by
    intro xs
    induction xs with
    | nil => intro p h1 h2; exact ⟨h1, h2⟩
    | cons x xs ih =>
      intro p h1 h2
      have h3 : -9223372036854775808 ≤ (keptStep p x).2 ∧ (keptStep p x).2 ≤ 9223372036854775807 := by
        unfold keptStep; split
        · exact ⟨h1, h2⟩
        · split
          · dsimp only; omega
          · exact ⟨h1, h2⟩
      exact ih _ h3.1 h3.2
  exact this xs ([], keep) h h'

end Go.Proofs.Ytmbmagfdeadibaa
