import Derived.Test.YtggmhodogfngdaaDoorGtQ
/- How the program reads an operation off the fields, and how the document guesses it: plain. -/
namespace Go.Proofs.YtggmhodogfngdaaDoor.Gt
open Go.Proofs.YtggmhodogfngdaaDoor Go.Proofs.YtggmhodogfngdaaDoor.Rt
set_option linter.unusedVariables false
set_option linter.unusedSimpArgs false

/-- the text that a word stands for; of what is none, the empty text -/
def unT (l : List Nat) : List Nat := (unword l).getD []
/-- is it none? -/
def badT (l : List Nat) : Bool := (unword l).isNone
def badN (l : List Nat) : Bool := (undec l).isNone
def hdF (fs : List (List Nat)) : List Nat := fs.headD []
theorem hdF_cons (b : List Nat) (r : List (List Nat)) : hdF (b :: r) = b := by unfold hdF; simp
theorem hdF_nil : hdF [] = [] := by unfold hdF; simp
/-- what says which operation it is, and the fields behind it -/
def nameF (fs : List (List Nat)) : List Nat × List (List Nat) := if hdF fs = nBegin then (nBegin ++ 32 :: hdF fs.tail, fs.tail.tail) else (hdF fs, fs.tail)
/-- what is read of a line: the operation, was a field wrong, what is left -/
structure Got where
  op : Og
  wrong : Bool
  left : List (List Nat)
abbrev bAt : List Nat := [98, 101, 103, 105, 110, 32, 97, 116]
abbrev bRo : List Nat := [98, 101, 103, 105, 110, 32, 114, 111]
abbrev bRw : List Nat := [98, 101, 103, 105, 110, 32, 114, 119]
def opF (nm : List Nat) (r : List (List Nat)) (n : Int) : Got :=
  if nm = bAt then ⟨⟨1, true, true, false, unT (hdF r), [], [], [], 0⟩, badT (hdF r), r.tail⟩
  else if nm = bRo then ⟨⟨1, true, false, false, unT (hdF r), [], [], [], 0⟩, badT (hdF r), r.tail⟩
  else if nm = bRw then ⟨⟨1, false, false, false, unT (hdF r), [], [], [], 0⟩, badT (hdF r), r.tail⟩
  else if nm = nGet then ⟨⟨2, false, false, false, [], unT (hdF r), [], [], 0⟩, badT (hdF r), r.tail⟩
  else if nm = nRscan then ⟨⟨3, false, false, true, [], unT (hdF r), unT (hdF r.tail), [], n⟩, badT (hdF r) || badT (hdF r.tail) || badN (hdF r.tail.tail), r.tail.tail.tail⟩
  else if nm = nScan then ⟨⟨3, false, false, false, [], unT (hdF r), unT (hdF r.tail), [], n⟩, badT (hdF r) || badT (hdF r.tail) || badN (hdF r.tail.tail), r.tail.tail.tail⟩
  else if nm = nPut then ⟨⟨4, false, false, false, [], unT (hdF r), [], unT (hdF r.tail), 0⟩, badT (hdF r) || badT (hdF r.tail), r.tail.tail⟩
  else if nm = nDel then ⟨⟨5, false, false, false, [], unT (hdF r), [], [], 0⟩, badT (hdF r), r.tail⟩
  else if nm = nCommit then ⟨⟨6, false, false, false, [], [], [], [], 0⟩, false, r⟩
  else if nm = nAbort then ⟨⟨7, false, false, false, [], [], [], [], 0⟩, false, r⟩
  else ⟨Og.zero, true, r⟩
/-- the number that the program reads -/
def LimOk (l : List Nat) (n : Int) : Prop := ∀ z, undec l = some z → n = (z : Int)
theorem bad_nil : badT [] = true := rfl
theorem badN_nil : badN [] = true := by
  have h : decN (valN []) ≠ [] := by
    show decN 0 ≠ []
    rw [decN_eq]; simp
  have : undec [] = none := by unfold undec; rw [if_neg (fun e => h e.1)]
  simp [badN, this]
/-- what was read counts just where the fields are an operation's -/
def gotO (g : Got) : Option Og := if g.wrong || !g.left.isEmpty then none else some g.op
theorem got_ite (c : Prop) [Decidable c] (a b : Got) : gotO (if c then a else b) = if c then gotO a else gotO b := by split <;> rfl
theorem unT_some {l x : List Nat} (h : unword l = some x) : unT l = x ∧ badT l = false := by simp [unT, badT, h]
theorem badT_none {l : List Nat} (h : unword l = none) : badT l = true := by simp [badT, h]
theorem badN_none {l : List Nat} (h : undec l = none) : badN l = true := by simp [badN, h]
theorem badN_some {l : List Nat} {z : Nat} (h : undec l = some z) : badN l = false := by simp [badN, h]
theorem ne_app {l x : List Nat} (h : 32 ∉ l) (hx : 32 ∈ x) : l ≠ x := fun e => h (e ▸ hx)
theorem gotO_is {fs : List (List Nat)} {n : Int} (h0 : fs ≠ []) (hb : ∀ l ∈ fs, 32 ∉ l) (hn : ∀ s l h d, fs = [s, l, h, d] → s ≠ nBegin → LimOk d n) :
    gotO (opF (nameF fs).1 (nameF fs).2 n) = parF fs := by
  have a1 : (32 : Nat) ∈ bAt := by decide
  have a2 : (32 : Nat) ∈ bRo := by decide
  have a3 : (32 : Nat) ∈ bRw := by decide
  rcases fs with _ | ⟨a, r⟩
  · exact absurd rfl h0
  have ha := hb a (by simp)
  have n1 := ne_app ha a1; have n2 := ne_app ha a2; have n3 := ne_app ha a3
  by_cases hB : a = nBegin
  · have e : nameF (a :: r) = (nBegin ++ 32 :: hdF r, r.tail) := by simp [nameF, hdF, hB]
    rw [e]
    have m1 : ∀ x : List Nat, (nBegin ++ 32 :: hdF r = nBegin ++ 32 :: x) = (hdF r = x) := fun x => by simp
    have q1 : bAt = nBegin ++ 32 :: nAt := rfl
    have q2 : bRo = nBegin ++ 32 :: nRo := rfl
    have q3 : bRw = nBegin ++ 32 :: nRw := rfl
    have z : ∀ x : List Nat, 32 ∉ x → (nBegin ++ 32 :: hdF r = x) = False := fun x hx => by
      simp only [eq_iff_iff, iff_false]
      intro e; apply hx; rw [← e]; simp
    unfold opF
    simp only [q1, q2, q3, m1, z nGet (by decide), z nRscan (by decide), z nScan (by decide), z nPut (by decide), z nDel (by decide), z nCommit (by decide), z nAbort (by decide), if_false]
    subst hB
    rcases r with _ | ⟨b, _ | ⟨c, _ | ⟨d, _ | ⟨x, y⟩⟩⟩⟩
    · simp [hdF, gotO, parF, par1]
    · simp only [hdF_cons, hdF_nil, List.tail_cons, List.tail_nil, parF, par2]
      have : (unword b).bind (fun x => if nBegin = nGet then some (⟨2, false, false, false, [], x, [], [], 0⟩ : Og) else if nBegin = nDel then some ⟨5, false, false, false, [], x, [], [], 0⟩ else none) = none := by cases unword b <;> rfl
      rw [this]
      simp only [got_ite]
      repeat' split
      all_goals simp [gotO, bad_nil, Og.zero]
    · simp only [hdF_cons, hdF_nil, List.tail_cons, List.tail_nil, parF, par3]
      cases hu : unword c with
      | none =>
        have hbad := badT_none hu
        clear hb hn z m1 e ha n1 n2 n3 h0
        simp only [got_ite]
        repeat' split
        all_goals simp [gotO, hbad]
      | some x =>
        obtain ⟨u1, u2⟩ := unT_some hu
        by_cases p1 : b = nAt
        · subst p1; simp [gotO, u1, u2]
        by_cases p2 : b = nRo
        · subst p2; simp [gotO, u1, u2]
        by_cases p3 : b = nRw
        · subst p3; simp [gotO, u1, u2]
        simp [gotO, p1, p2, p3]
    · simp only [hdF_cons, hdF_nil, List.tail_cons, List.tail_nil, parF, par4]
      have : ((unword b).bind fun x => (unword c).bind fun y => (undec d).bind fun z => if nBegin = nScan then some (⟨3, false, false, false, [], x, y, [], z⟩ : Og) else if nBegin = nRscan then some ⟨3, false, false, true, [], x, y, [], z⟩ else none) = none := by
        cases unword b <;> cases unword c <;> cases undec d <;> rfl
      rw [this]
      simp only [got_ite]
      repeat' split
      all_goals simp [gotO]
    · simp only [hdF_cons, hdF_nil, List.tail_cons, List.tail_nil, parF]
      simp only [got_ite]
      repeat' split
      all_goals simp [gotO]
  · have e : nameF (a :: r) = (a, r) := by simp [nameF, hdF, hB]
    rw [e]
    unfold opF
    simp only [n1, n2, n3, if_false]
    rcases r with _ | ⟨b, _ | ⟨c, _ | ⟨d, _ | ⟨x, y⟩⟩⟩⟩
    · simp only [hdF_cons, hdF_nil, List.tail_cons, List.tail_nil, parF, par1]
      by_cases p1 : a = nGet
      · subst p1; simp [gotO, bad_nil]
      by_cases p2 : a = nRscan
      · subst p2; simp [gotO, bad_nil]
      by_cases p3 : a = nScan
      · subst p3; simp [gotO, bad_nil]
      by_cases p4 : a = nPut
      · subst p4; simp [gotO, bad_nil]
      by_cases p5 : a = nDel
      · subst p5; simp [gotO, bad_nil]
      by_cases p6 : a = nCommit
      · subst p6; simp [gotO]
      by_cases p7 : a = nAbort
      · subst p7; simp [gotO]
      simp [gotO, p1, p2, p3, p4, p5, p6, p7]
    · simp only [hdF_cons, hdF_nil, List.tail_cons, List.tail_nil, parF, par2]
      cases hu : unword b with
      | none =>
        have hbad := badT_none hu
        clear hb hn e ha n1 n2 n3 h0
        simp only [got_ite]
        repeat' split
        all_goals simp [gotO, hbad]
      | some x =>
        obtain ⟨u1, u2⟩ := unT_some hu
        by_cases p1 : a = nGet
        · subst p1; simp [gotO, u1, u2]
        by_cases p2 : a = nRscan
        · subst p2; simp [gotO, bad_nil]
        by_cases p3 : a = nScan
        · subst p3; simp [gotO, bad_nil]
        by_cases p4 : a = nPut
        · subst p4; simp [gotO, bad_nil]
        by_cases p5 : a = nDel
        · subst p5; simp [gotO, u1, u2]
        by_cases p6 : a = nCommit
        · subst p6; simp [gotO]
        by_cases p7 : a = nAbort
        · subst p7; simp [gotO]
        simp [gotO, p1, p2, p3, p4, p5, p6, p7]
    · simp only [hdF_cons, hdF_nil, List.tail_cons, List.tail_nil, parF, par3]
      cases hu : unword c with
      | none =>
        have hbad := badT_none hu
        clear hb hn e ha n1 n2 n3 h0
        simp only [got_ite]
        repeat' split
        all_goals simp [gotO, hbad, badN_nil]
      | some x =>
        obtain ⟨u1, u2⟩ := unT_some hu
        by_cases p1 : a = nGet
        · subst p1; simp [gotO]
        by_cases p2 : a = nRscan
        · subst p2; simp [gotO, badN_nil]
        by_cases p3 : a = nScan
        · subst p3; simp [gotO, badN_nil]
        by_cases p4 : a = nPut
        · subst p4
          cases hv : unword b with
          | none => simp [gotO, badT_none hv]
          | some y => obtain ⟨v1, v2⟩ := unT_some hv; simp [gotO, u1, u2, v1, v2]
        by_cases p5 : a = nDel
        · subst p5; simp [gotO]
        by_cases p6 : a = nCommit
        · subst p6; simp [gotO]
        by_cases p7 : a = nAbort
        · subst p7; simp [gotO]
        simp [gotO, p1, p2, p3, p4, p5, p6, p7, hB]
    · simp only [hdF_cons, hdF_nil, List.tail_cons, List.tail_nil, parF, par4]
      by_cases p1 : a = nGet
      · subst p1; simp [gotO]
      by_cases p4 : a = nPut
      · subst p4; simp [gotO]
      by_cases p5 : a = nDel
      · subst p5; simp [gotO]
      by_cases p6 : a = nCommit
      · subst p6; simp [gotO]
      by_cases p7 : a = nAbort
      · subst p7; simp [gotO]
      cases hu : unword b with
      | none =>
        have hbad := badT_none hu
        clear hb hn e ha n1 n2 n3 h0
        simp only [got_ite]
        repeat' split
        all_goals simp [gotO, hbad]
      | some x =>
        cases hv : unword c with
        | none =>
          have hbad := badT_none hv
          clear hb hn e ha n1 n2 n3 h0
          simp only [got_ite]
          repeat' split
          all_goals simp [gotO, hbad]
        | some y =>
          cases hz : undec d with
          | none =>
            have hbad := badN_none hz
            clear hb hn e ha n1 n2 n3 h0
            simp only [got_ite]
            repeat' split
            all_goals simp [gotO, hbad]
          | some z =>
            obtain ⟨u1, u2⟩ := unT_some hu
            obtain ⟨v1, v2⟩ := unT_some hv
            have z1 := badN_some hz
            have z2 := hn _ _ _ _ rfl hB z hz
            by_cases p2 : a = nRscan
            · subst p2; simp [gotO, u1, u2, v1, v2, z1, z2]
            by_cases p3 : a = nScan
            · subst p3; simp [gotO, u1, u2, v1, v2, z1, z2]
            simp [gotO, p1, p2, p3, p4, p5, p6, p7]
    · simp only [hdF_cons, hdF_nil, List.tail_cons, List.tail_nil, parF]
      simp only [got_ite]
      repeat' split
      all_goals simp [gotO]
end Go.Proofs.YtggmhodogfngdaaDoor.Gt
