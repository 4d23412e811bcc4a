import Derived.Test.YtchfoipkaookmabDoorWMark
import Derived.Test.YtchfoipkaookmabDoorWEncs
import Derived.Test.YtchfoipkaookmabDoorWTTexts0
import Derived.Laws.IdiomCopy
namespace Go.Proofs.YtchfoipkaookmabDoor
open Go.RowKit Go.Sort
set_option linter.unusedVariables false

/-- the length of the longest -/
def longestN (ts : List (List Nat)) : Nat := ts.foldl (fun n t => max n t.length) 0
theorem longest_snoc (ts : List (List Nat)) (t : List Nat) : longestN (ts ++ [t]) = max (longestN ts) t.length := by simp [longestN]
theorem longest_ge : ∀ (ts : List (List Nat)) (m : Nat), m ≤ ts.foldl (fun n t => max n t.length) m ∧ ∀ t ∈ ts, t.length ≤ ts.foldl (fun n t => max n t.length) m
  | [], m => ⟨Nat.le_refl _, fun t ht => by simp at ht⟩
  | x :: xs, m => by
    obtain ⟨h1, h2⟩ := longest_ge xs (max m x.length)
    refine ⟨Nat.le_trans (Nat.le_max_left _ _) h1, fun t ht => ?_⟩
    rcases List.mem_cons.1 ht with h | h
    · subst h; exact Nat.le_trans (Nat.le_max_right _ _) h1
    · exact h2 t h
theorem longest_le {ts : List (List Nat)} {B : Nat} (h : ∀ t ∈ ts, t.length ≤ B) : longestN ts ≤ B := by
  have key : ∀ (ts : List (List Nat)) (m : Nat), m ≤ B → (∀ t ∈ ts, t.length ≤ B) → ts.foldl (fun n t => max n t.length) m ≤ B := by
    intro ts
    induction ts with
    | nil => intro m hm _; exact hm
    | cons x xs ih => intro m hm hx; exact ih _ (Nat.max_le.2 ⟨hm, hx x (by simp)⟩) (fun t ht => hx t (by simp [ht]))
  exact key ts 0 (Nat.zero_le _) h

set_option maxHeartbeats 400000 in
theorem longest_any {w : World} {a : Option Addr} {cap : Nat} {ts : List (List Nat)} (hr : TRow w a ts) (hn : ts.length ≤ 1099511627776) (hl : ∀ t ∈ ts, t.length ≤ 1099511627776) :
    Calls Tryd.prog 30 #[.slice a ts.length cap] w fun e w' => e = .returned (.int .i64 (longestN ts : Int)) ∧ w' = w := by
  have HR := hid hr
  have HL := hid hl
  clear hr hl
  go_enter Tryd.func30, Tryd.ntmps30
  go_wp2_with fail
  go_loop [3, 4] (fun s3 s4 => ∃ k : Nat, k ≤ ts.length ∧ s3 = .int .i64 (longestN (ts.take k) : Int) ∧ s4 = .int .i64 (k : Int)) (fun _ i => ts.length - (intOf i).toNat)
  case atStart => exact ⟨0, by omega, rfl, rfl⟩
  case round =>
    obtain ⟨k, hk, rfl, rfl⟩ := hrel
    by_cases hlt : k < ts.length
    · obtain ⟨t, ht⟩ : ∃ t, ts[k]? = some t := ⟨_, List.getElem?_eq_getElem hlt⟩
      obtain ⟨-, c, off, rfl, hcell⟩ := HR.out k t ht
      have hsn := longest_snoc (ts.take k) t
      have htk : ts.take (k + 1) = ts.take k ++ [t] := by
        rw [List.take_succ_eq_append_getElem hlt]
        rw [List.getElem?_eq_getElem hlt] at ht
        injection ht with ht
        rw [ht]
      rw [← htk] at hsn
      have HS := hid hsn
      have hts : ((ofNats t).size : Int) = (t.length : Int) := by rw [ofNats_size]
      obtain ⟨x, hx⟩ : ∃ x, x = longestN (ts.take k) := ⟨_, rfl⟩
      rw [← hx] at HS ⊢
      clear hsn htk hx ht
      go_wp2
      refine ⟨⟨k + 1, by omega, ?_, by go_num⟩, ?_⟩
      · rw [HS.out]; congr 1; omega
      · simp [intOf]; omega
    · obtain rfl : k = ts.length := by omega
      rw [List.take_of_length_le (Nat.le_refl _)]
      clear hlt hk
      go_wp2
      go_ret
      exact ⟨rfl, rfl⟩

set_option maxHeartbeats 1000000 in
theorem same_eq {w : World} {a a' : Option Addr} {cap cap' : Nat} {ts : List (List Nat)} (hr : TRow w a ts) (hr' : TRow w a' ts) (hn : ts.length ≤ 1099511627776) :
    Calls Tryd.prog 29 #[.slice a ts.length cap, .slice a' ts.length cap'] w fun e w' => e = .returned (.bool true) ∧ Below w.heap.size w w' := by
  have HR := hid hr
  have HR' := hid hr'
  clear hr hr'
  go_enter Tryd.func29, Tryd.ntmps29
  go_wp2_with fail
  go_loopg [5] ts.length (fun g s5 wr => ∃ k : Nat, k ≤ ts.length ∧ g = ts.length - k ∧ s5 = .int .i64 (k : Int) ∧ Hid (Below w.heap.size w wr))
  case atStart => exact ⟨0, by omega, by omega, rfl, Below.refl _ _⟩
  case round =>
    obtain ⟨k, hk, rfl, rfl, HB⟩ := hrel
    by_cases hlt : k < ts.length
    · obtain ⟨t, ht⟩ : ∃ t, ts[k]? = some t := ⟨_, List.getElem?_eq_getElem hlt⟩
      obtain ⟨-, c, off, rfl, hcell⟩ := (HR.out.later HB.out) k t ht
      obtain ⟨-, c', off', rfl, hcell'⟩ := (HR'.out.later HB.out) k t ht
      have k1 : (0 : Int) ≤ (k : Int) := by omega
      have k2 : (k : Int) < (ts.length : Int) := by omega
      clear ht
      go_wp2_with fail
      go_region
      all_goals go_wp2_with fail
      all_goals go_roundg (ts.length - (k + 1))
      all_goals first
        | omega
        | exact ⟨k + 1, by omega, rfl, by go_num, HB.out.drew⟩
    · obtain rfl : k = ts.length := by omega
      clear hlt hk
      go_wp2_with fail
      go_ret
      exact ⟨rfl, HB.out⟩

end Go.Proofs.YtchfoipkaookmabDoor
