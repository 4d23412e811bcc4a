import Derived.Test.YtggmhodogfngdaaDoorGtP
/- A reply of the gate, plain (chapter 21), and lines cut out of a run of bytes. -/
namespace Go.Proofs.YtggmhodogfngdaaDoor.Gt
open Go.Proofs.YtggmhodogfngdaaDoor Go.Proofs.YtggmhodogfngdaaDoor.Rt
set_option linter.unusedVariables false

/-- bytes that can be seen, blanks among them -/
def Vis (l : List Nat) : Prop := ∀ b ∈ l, 32 ≤ b ∧ b ≤ 126
theorem Vis.app {a b : List Nat} (h1 : Vis a) (h2 : Vis b) : Vis (a ++ b) := fun x hx => by
  rcases List.mem_append.1 hx with h | h
  · exact h1 x h
  · exact h2 x h
theorem Vis.cons {a : Nat} {b : List Nat} (h1 : 32 ≤ a ∧ a ≤ 126) (h2 : Vis b) : Vis (a :: b) := fun x hx => by
  rcases List.mem_cons.1 hx with h | h
  · rw [h]; exact h1
  · exact h2 x h
theorem vis_nil : Vis [] := fun x hx => by cases hx
theorem vis_word {l : List Nat} (h : B8 l) : Vis (wordL l) := fun x hx => by have := wordL_range h x hx; omega
theorem vis_dec (n : Nat) : Vis (decN n) := fun x hx => by have := decN_range n x hx; omega
/-- a stamp's text -/
def stampL (w l n : Nat) : List Nat := decN w ++ 46 :: (decN l ++ 46 :: decN n)
theorem vis_stamp (w l n : Nat) : Vis (stampL w l n) :=
  (vis_dec w).app (Vis.cons (by omega) ((vis_dec l).app (Vis.cons (by omega) (vis_dec n))))
/-- a number with its sign -/
def decI (n : Int) : List Nat := if n < 0 then 45 :: decN (-n).toNat else decN n.toNat
theorem vis_decI (n : Int) : Vis (decI n) := by
  unfold decI
  split
  · exact Vis.cons (by omega) (vis_dec _)
  · exact vis_dec _
/-- the pairs of a scan -/
def pairsL : List (List Nat × List Nat) → List Nat
  | [] => []
  | (k, v) :: r => 32 :: (wordL k ++ 32 :: (wordL v ++ pairsL r))
theorem pairs_snoc : ∀ (r : List (List Nat × List Nat)) (k v : List Nat), pairsL (r ++ [(k, v)]) = pairsL r ++ 32 :: (wordL k ++ 32 :: wordL v)
  | [], k, v => by simp [pairsL]
  | (a, b) :: r, k, v => by
    show 32 :: (wordL a ++ 32 :: (wordL b ++ pairsL (r ++ [(k, v)]))) = _
    rw [pairs_snoc r k v]
    simp [pairsL]
theorem vis_pairs : ∀ {r : List (List Nat × List Nat)}, (∀ x ∈ r, B8 x.1 ∧ B8 x.2) → Vis (pairsL r)
  | [], _ => vis_nil
  | (k, v) :: r, h => by
    have h1 := h (k, v) (by simp)
    exact Vis.cons (by omega) ((vis_word h1.1).app (Vis.cons (by omega) ((vis_word h1.2).app (vis_pairs (fun x hx => h x (by simp [hx]))))))

/-- lines cut out of a run of bytes: 'cur' stands of the line that has not ended -/
def cutLn : List Nat → List Nat → List (List Nat) × List Nat
  | cur, [] => ([], cur)
  | cur, b :: t => if b = 10 then let r := cutLn [] t; (cur :: r.1, r.2) else cutLn (cur ++ [b]) t
theorem cutLn_app : ∀ (cur x y : List Nat), cutLn cur (x ++ y) = ((cutLn cur x).1 ++ (cutLn (cutLn cur x).2 y).1, (cutLn (cutLn cur x).2 y).2)
  | cur, [], y => by simp [cutLn]
  | cur, b :: x, y => by
    show cutLn cur (b :: (x ++ y)) = _
    by_cases hb : b = 10
    · simp only [cutLn, if_pos hb, cutLn_app [] x y, List.cons_append]
    · simp only [cutLn, if_neg hb, cutLn_app (cur ++ [b]) x y]
theorem cutLn_rest : ∀ (cur x : List Nat), 10 ∉ x → cutLn cur x = ([], cur ++ x)
  | cur, [], _ => by simp [cutLn]
  | cur, b :: x, h => by
    have hb : b ≠ 10 := fun e => h (by simp [e])
    rw [cutLn, if_neg hb, cutLn_rest (cur ++ [b]) x (fun e => h (by simp [e]))]
    simp
theorem cutLn_line (cur x y : List Nat) (h : 10 ∉ x) : cutLn cur (x ++ 10 :: y) = ((cur ++ x) :: (cutLn [] y).1, (cutLn [] y).2) := by
  rw [cutLn_app, cutLn_rest cur x h]
  simp [cutLn]
/-- what waits has no end of a line -/
theorem cutLn_no : ∀ (cur x : List Nat), 10 ∉ cur → 10 ∉ (cutLn cur x).2 ∧ ∀ l ∈ (cutLn cur x).1, 10 ∉ l
  | cur, [], h => by simp [cutLn, h]
  | cur, b :: x, h => by
    by_cases hb : b = 10
    · have ih := cutLn_no [] x (by simp)
      simp only [cutLn, if_pos hb]
      refine ⟨ih.1, fun l hl => ?_⟩
      rcases List.mem_cons.1 hl with rfl | hl
      · exact h
      · exact ih.2 l hl
    · simp only [cutLn, if_neg hb]
      exact cutLn_no (cur ++ [b]) x (by simp [h]; omega)
/-- a line without the one 0d ahead of its end -/
def noCr (l : List Nat) : List Nat := if l.getLast? = some 13 then l.dropLast else l
/-- the requests among lines: all that aren't empty -/
def reqsL (ls : List (List Nat)) : List (List Nat) := (ls.map noCr).filter (fun l => !l.isEmpty)
theorem reqs_app (a b : List (List Nat)) : reqsL (a ++ b) = reqsL a ++ reqsL b := by simp [reqsL]
/-- requests and rest of two chunks, one behind the other -/
theorem reqs_cut (cur x y : List Nat) : reqsL (cutLn cur (x ++ y)).1 = reqsL (cutLn cur x).1 ++ reqsL (cutLn (cutLn cur x).2 y).1 := by
  rw [cutLn_app, reqs_app]

/-- no field of an operation's line has a blank, and there is one -/
theorem req_nb {o : Og} {fs : List (List Nat)} (h : reqF o = some fs) (h1 : B8 o.tok) (h2 : B8 o.key) (h3 : B8 o.hi) (h4 : B8 o.val) : fs ≠ [] ∧ ∀ l ∈ fs, 32 ∉ l := by
  have w1 := word_nb h1; have w2 := word_nb h2; have w3 := word_nb h3; have w4 := word_nb h4
  have w5 := dec_nb o.lim.toNat
  unfold reqF at h
  repeat' split at h
  all_goals first
    | cases h; done
    | (injection h with h; subst h; refine ⟨by simp, fun l hl => ?_⟩
       simp only [List.mem_cons, List.not_mem_nil, or_false] at hl
       first
         | (rcases hl with rfl | rfl | rfl | rfl <;> first | assumption | decide)
         | (rcases hl with rfl | rfl | rfl <;> first | assumption | decide)
         | (rcases hl with rfl | rfl <;> first | assumption | decide)
         | (subst hl; first | assumption | decide))
/-- the line of an operation, at most M bytes -/
def lineOf (M : Nat) (o : Og) : Option (List Nat) := (reqF o).bind fun fs => if (joinB fs).length ≤ M then some (joinB fs) else none
/-- the operation of a line -/
def opOf (M : Nat) (s : List Nat) : Option Og := if s.length ≤ M then parF (fld s) else none
theorem op_line {M : Nat} {o : Og} {s : List Nat} (h : lineOf M o = some s) (h1 : B8 o.tok) (h2 : B8 o.key) (h3 : B8 o.hi) (h4 : B8 o.val) : opOf M s = some o := by
  unfold lineOf at h
  cases hr : reqF o with
  | none => rw [hr] at h; cases h
  | some fs =>
    rw [hr] at h
    simp only [Option.bind_some] at h
    split at h
    · rename_i hl
      injection h with h
      subst h
      have hn := req_nb hr h1 h2 h3 h4
      unfold opOf
      rw [if_pos hl, fld_join hn.1 hn.2, par_req hr h1 h2 h3 h4]
    · cases h
theorem line_op {M : Nat} {o : Og} {s : List Nat} (h8 : B8 s) (h : opOf M s = some o) : lineOf M o = some s ∧ B8 o.tok ∧ B8 o.key ∧ B8 o.hi ∧ B8 o.val := by
  unfold opOf at h
  split at h
  · rename_i hl
    have hr := req_par (fun l hm b hb => h8 b ((fld_mem s l hm).2 b hb)) h
    refine ⟨?_, hr.2⟩
    unfold lineOf
    rw [hr.1]
    simp only [Option.bind_some]
    rw [join_fld, if_pos hl]
  · cases h
end Go.Proofs.YtggmhodogfngdaaDoor.Gt
