import Derived.Test.YtfafkohghgliaabDoorRWordP
import Derived.Lib.ItoaNum
/- A request line of the gate, plain (chapter 21): fields between blanks, words, a number. -/
namespace Go.Proofs.YtfafkohghgliaabDoor.Gt
open Go.Proofs.YtfafkohghgliaabDoor Go.Proofs.YtfafkohghgliaabDoor.Rt
set_option linter.unusedVariables false

/-- what stands between the blanks -/
def fld : List Nat → List (List Nat)
  | [] => [[]]
  | b :: t => if b = 32 then [] :: fld t else match fld t with
    | l :: r => (b :: l) :: r
    | [] => [[b]]
/-- fields with one blank between each two -/
def joinB : List (List Nat) → List Nat
  | [] => []
  | [l] => l
  | l :: r => l ++ 32 :: joinB r
theorem fld_ne (s : List Nat) : fld s ≠ [] := by
  cases s with
  | nil => simp [fld]
  | cons b t =>
    unfold fld
    split
    · simp
    · split <;> simp
theorem join_fld : ∀ s : List Nat, joinB (fld s) = s
  | [] => rfl
  | b :: t => by
    have ih := join_fld t
    unfold fld
    by_cases hb : b = 32
    · rw [if_pos hb]
      cases h : fld t with
      | nil => exact absurd h (fld_ne t)
      | cons l r => rw [h] at ih; subst hb; show [] ++ 32 :: joinB (l :: r) = _; rw [ih]; rfl
    · rw [if_neg hb]
      cases h : fld t with
      | nil => exact absurd h (fld_ne t)
      | cons l r =>
        rw [h] at ih
        show joinB ((b :: l) :: r) = _
        cases r with
        | nil => show b :: l = _; rw [← ih]; rfl
        | cons x r => show b :: (l ++ 32 :: joinB (x :: r)) = _; rw [← ih]; rfl
theorem fld_one : ∀ {l : List Nat}, 32 ∉ l → fld l = [l]
  | [], _ => rfl
  | b :: l, h => by
    have hb : b ≠ 32 := fun e => h (by simp [e])
    unfold fld
    rw [if_neg hb, fld_one (l := l) (fun e => h (by simp [e]))]
theorem fld_cons : ∀ {l : List Nat} (r : List Nat), 32 ∉ l → fld (l ++ 32 :: r) = l :: fld r
  | [], r, _ => by show fld (32 :: r) = _; rw [fld, if_pos rfl]
  | b :: l, r, h => by
    have hb : b ≠ 32 := fun e => h (by simp [e])
    show fld (b :: (l ++ 32 :: r)) = _
    rw [fld, if_neg hb, fld_cons r (fun e => h (by simp [e]))]
theorem fld_join : ∀ {ls : List (List Nat)}, ls ≠ [] → (∀ l ∈ ls, 32 ∉ l) → fld (joinB ls) = ls
  | [], h, _ => absurd rfl h
  | [l], _, h => fld_one (h l (by simp))
  | l :: x :: r, _, h => by
    show fld (l ++ 32 :: joinB (x :: r)) = _
    rw [fld_cons _ (h l (by simp)), fld_join (by simp) (fun y hy => h y (by simp [hy]))]
theorem fld_mem : ∀ (s : List Nat), ∀ l ∈ fld s, 32 ∉ l ∧ ∀ b ∈ l, b ∈ s
  | [], l, h => by simp [fld] at h; subst h; simp
  | b :: t, l, h => by
    have ih := fld_mem t
    unfold fld at h
    by_cases hb : b = 32
    · rw [if_pos hb] at h
      rcases List.mem_cons.1 h with rfl | h
      · simp
      · exact ⟨(ih l h).1, fun x hx => List.mem_cons_of_mem _ ((ih l h).2 x hx)⟩
    · rw [if_neg hb] at h
      cases hf : fld t with
      | nil => exact absurd hf (fld_ne t)
      | cons y r =>
        rw [hf] at h ih
        rcases List.mem_cons.1 h with rfl | h
        · have := ih y (by simp)
          refine ⟨fun e => ?_, fun x hx => ?_⟩
          · rcases List.mem_cons.1 e with e | e
            · exact hb e.symm
            · exact this.1 e
          · rcases List.mem_cons.1 hx with rfl | hx
            · simp
            · exact List.mem_cons_of_mem _ (this.2 x hx)
        · have := ih l (by simp [h])
          exact ⟨this.1, fun x hx => List.mem_cons_of_mem _ (this.2 x hx)⟩
/-- a number's digits -/
def decN (n : Nat) : List Nat := (Lib.decDigits n).map (·.toNat)
def valN (l : List Nat) : Nat := l.foldl (fun a b => a * 10 + (b - 48)) 0
theorem decN_eq (n : Nat) : decN n = if n < 10 then [48 + n] else decN (n / 10) ++ [48 + n % 10] := by
  unfold decN
  rw [Lib.decDigits]
  by_cases h : n < 10
  · rw [dif_pos h, if_pos h]
    simp; omega
  · rw [dif_neg h, if_neg h, List.map_append]
    simp; omega
theorem val_dec : ∀ n : Nat, valN (decN n) = n := by
  intro n
  induction n using Nat.strongRecOn with
  | _ n ih =>
    rw [decN_eq]
    by_cases h : n < 10
    · rw [if_pos h]; simp [valN]
    · rw [if_neg h]
      have := ih (n / 10) (by omega)
      unfold valN at this ⊢
      rw [List.foldl_append, this]
      simp
      omega
theorem decN_range : ∀ n : Nat, ∀ b ∈ decN n, 48 ≤ b ∧ b ≤ 57 := by
  intro n
  induction n using Nat.strongRecOn with
  | _ n ih =>
    intro b hb
    rw [decN_eq] at hb
    by_cases h : n < 10
    · rw [if_pos h] at hb; simp at hb; omega
    · rw [if_neg h] at hb
      rcases List.mem_append.1 hb with hb | hb
      · exact ih (n / 10) (by omega) b hb
      · simp at hb; omega
/-- a number that is told so, at most the greatest int -/
def undec (l : List Nat) : Option Nat := if decN (valN l) = l ∧ valN l ≤ 9223372036854775807 then some (valN l) else none
theorem undec_dec {n : Nat} (h : n ≤ 9223372036854775807) : undec (decN n) = some n := by
  unfold undec
  rw [val_dec, if_pos ⟨rfl, h⟩]
theorem dec_undec {l : List Nat} {n : Nat} (h : undec l = some n) : decN n = l ∧ n ≤ 9223372036854775807 := by
  unfold undec at h
  split at h
  · rename_i hc
    injection h with h
    subst h
    exact hc
  · cases h
/-- no word and no number has a blank -/
theorem word_nb {l : List Nat} (h : B8 l) : 32 ∉ wordL l := fun e => by have := wordL_range h 32 e; omega
theorem dec_nb (n : Nat) : 32 ∉ decN n := fun e => by have := decN_range n 32 e; omega
/-- an operation -/
structure Og where
  kd : Int
  ro : Bool
  asof : Bool
  back : Bool
  tok : List Nat
  key : List Nat
  hi : List Nat
  val : List Nat
  lim : Int
def Og.zero : Og := ⟨0, false, false, false, [], [], [], [], 0⟩
abbrev nBegin : List Nat := [98, 101, 103, 105, 110]
abbrev nGet : List Nat := [103, 101, 116]
abbrev nScan : List Nat := [115, 99, 97, 110]
abbrev nRscan : List Nat := [114, 115, 99, 97, 110]
abbrev nPut : List Nat := [112, 117, 116]
abbrev nDel : List Nat := [100, 101, 108]
abbrev nCommit : List Nat := [99, 111, 109, 109, 105, 116]
abbrev nAbort : List Nat := [97, 98, 111, 114, 116]
abbrev nRw : List Nat := [114, 119]
abbrev nRo : List Nat := [114, 111]
abbrev nAt : List Nat := [97, 116]
/-- the fields of an operation that has a line -/
def reqF (o : Og) : Option (List (List Nat)) :=
  if o.kd = 1 then
    if o.back = false ∧ o.key = [] ∧ o.hi = [] ∧ o.val = [] ∧ o.lim = 0 then
      (if o.asof then (if o.ro then some [nBegin, nAt, wordL o.tok] else none) else if o.ro then some [nBegin, nRo, wordL o.tok] else some [nBegin, nRw, wordL o.tok])
    else none
  else if o.kd = 2 then
    if o.ro = false ∧ o.asof = false ∧ o.back = false ∧ o.tok = [] ∧ o.hi = [] ∧ o.val = [] ∧ o.lim = 0 then some [nGet, wordL o.key] else none
  else if o.kd = 3 then
    if o.ro = false ∧ o.asof = false ∧ o.tok = [] ∧ o.val = [] ∧ 0 ≤ o.lim ∧ o.lim ≤ 9223372036854775807 then some [if o.back then nRscan else nScan, wordL o.key, wordL o.hi, decN o.lim.toNat] else none
  else if o.kd = 4 then
    if o.ro = false ∧ o.asof = false ∧ o.back = false ∧ o.tok = [] ∧ o.hi = [] ∧ o.lim = 0 then some [nPut, wordL o.key, wordL o.val] else none
  else if o.kd = 5 then
    if o.ro = false ∧ o.asof = false ∧ o.back = false ∧ o.tok = [] ∧ o.hi = [] ∧ o.val = [] ∧ o.lim = 0 then some [nDel, wordL o.key] else none
  else if o.kd = 6 then
    if o.ro = false ∧ o.asof = false ∧ o.back = false ∧ o.tok = [] ∧ o.key = [] ∧ o.hi = [] ∧ o.val = [] ∧ o.lim = 0 then some [nCommit] else none
  else if o.kd = 7 then
    if o.ro = false ∧ o.asof = false ∧ o.back = false ∧ o.tok = [] ∧ o.key = [] ∧ o.hi = [] ∧ o.val = [] ∧ o.lim = 0 then some [nAbort] else none
  else none
/-- the operation of fields -/
def par1 (c : List Nat) : Option Og := if c = nCommit then some ⟨6, false, false, false, [], [], [], [], 0⟩ else if c = nAbort then some ⟨7, false, false, false, [], [], [], [], 0⟩ else none
def par2 (g k : List Nat) : Option Og := (unword k).bind fun x => if g = nGet then some ⟨2, false, false, false, [], x, [], [], 0⟩ else if g = nDel then some ⟨5, false, false, false, [], x, [], [], 0⟩ else none
def par3 (b m t : List Nat) : Option Og := (unword t).bind fun x =>
  if b = nBegin then (if m = nRw then some ⟨1, false, false, false, x, [], [], [], 0⟩ else if m = nRo then some ⟨1, true, false, false, x, [], [], [], 0⟩ else if m = nAt then some ⟨1, true, true, false, x, [], [], [], 0⟩ else none)
  else if b = nPut then (unword m).bind fun k => some ⟨4, false, false, false, [], k, [], x, 0⟩ else none
def par4 (s l h n : List Nat) : Option Og := (unword l).bind fun x => (unword h).bind fun y => (undec n).bind fun z =>
  if s = nScan then some ⟨3, false, false, false, [], x, y, [], z⟩ else if s = nRscan then some ⟨3, false, false, true, [], x, y, [], z⟩ else none
def parF : List (List Nat) → Option Og
  | [c] => par1 c
  | [g, k] => par2 g k
  | [b, m, t] => par3 b m t
  | [s, l, h, n] => par4 s l h n
  | _ => none
theorem par_req {o : Og} {fs : List (List Nat)} (h : reqF o = some fs) (h1 : B8 o.tok) (h2 : B8 o.key) (h3 : B8 o.hi) (h4 : B8 o.val) : parF fs = some o := by
  obtain ⟨kd, ro, asof, back, tok, key, hi, val, lim⟩ := o
  unfold reqF at h
  simp only at h h1 h2 h3 h4
  have u1 := unword_word h1; have u2 := unword_word h2; have u3 := unword_word h3; have u4 := unword_word h4
  split at h
  · rename_i hk; subst hk
    split at h
    · rename_i hc; obtain ⟨rfl, rfl, rfl, rfl, rfl⟩ := hc
      cases asof <;> cases ro <;> simp at h <;> subst h <;> simp [parF, par3, u1]
    · cases h
  split at h
  · rename_i hk; subst hk
    split at h
    · rename_i hc; obtain ⟨rfl, rfl, rfl, rfl, rfl, rfl, rfl⟩ := hc
      injection h with h; subst h; simp [parF, par2, u2]
    · cases h
  split at h
  · rename_i hk; subst hk
    split at h
    · rename_i hc; obtain ⟨rfl, rfl, rfl, rfl, hl, hm⟩ := hc
      have u5 := undec_dec (n := lim.toNat) (by omega)
      have e : ((lim.toNat : Nat) : Int) = lim := by omega
      injection h with h; subst h
      cases back <;> simp [parF, par4, u2, u3, u5] <;> omega
    · cases h
  split at h
  · rename_i hk; subst hk
    split at h
    · rename_i hc; obtain ⟨rfl, rfl, rfl, rfl, rfl, rfl⟩ := hc
      injection h with h; subst h; simp [parF, par3, u2, u4]
    · cases h
  split at h
  · rename_i hk; subst hk
    split at h
    · rename_i hc; obtain ⟨rfl, rfl, rfl, rfl, rfl, rfl, rfl⟩ := hc
      injection h with h; subst h; simp [parF, par2, u2]
    · cases h
  split at h
  · rename_i hk; subst hk
    split at h
    · rename_i hc; obtain ⟨rfl, rfl, rfl, rfl, rfl, rfl, rfl, rfl⟩ := hc
      injection h with h; subst h; simp [parF, par1]
    · cases h
  split at h
  · rename_i hk; subst hk
    split at h
    · rename_i hc; obtain ⟨rfl, rfl, rfl, rfl, rfl, rfl, rfl, rfl⟩ := hc
      injection h with h; subst h; simp [parF, par1]
    · cases h
  · cases h
theorem b8_nil : B8 [] := fun b hb => by cases hb
theorem req_par {o : Og} {fs : List (List Nat)} (h8 : ∀ l ∈ fs, B8 l) (h : parF fs = some o) : reqF o = some fs ∧ B8 o.tok ∧ B8 o.key ∧ B8 o.hi ∧ B8 o.val := by
  rcases fs with _ | ⟨a, _ | ⟨b, _ | ⟨c, _ | ⟨d, _ | ⟨e, r⟩⟩⟩⟩⟩
  · cases h
  · replace h : par1 a = some o := h
    unfold par1 at h
    split at h
    · rename_i hc; injection h with h; subst h hc; exact ⟨rfl, b8_nil, b8_nil, b8_nil, b8_nil⟩
    · split at h
      · rename_i hc; injection h with h; subst h hc; exact ⟨rfl, b8_nil, b8_nil, b8_nil, b8_nil⟩
      · cases h
  · replace h : par2 a b = some o := h
    unfold par2 at h
    cases hu : unword b with
    | none => rw [hu] at h; cases h
    | some x =>
      rw [hu] at h
      obtain ⟨e1, hx⟩ := word_unword (h8 b (by simp)) hu
      simp only [Option.bind_some] at h
      split at h
      · rename_i hc; injection h with h; subst h hc; exact ⟨by simp [reqF, e1], b8_nil, hx, b8_nil, b8_nil⟩
      · split at h
        · rename_i hc; injection h with h; subst h hc; exact ⟨by simp [reqF, e1], b8_nil, hx, b8_nil, b8_nil⟩
        · cases h
  · replace h : par3 a b c = some o := h
    unfold par3 at h
    cases hu : unword c with
    | none => rw [hu] at h; cases h
    | some x =>
      rw [hu] at h
      obtain ⟨e1, hx⟩ := word_unword (h8 c (by simp)) hu
      simp only [Option.bind_some] at h
      split at h
      · rename_i hb; subst hb
        split at h
        · rename_i hc; injection h with h; subst h hc; exact ⟨by simp [reqF, e1], hx, b8_nil, b8_nil, b8_nil⟩
        · split at h
          · rename_i hc; injection h with h; subst h hc; exact ⟨by simp [reqF, e1], hx, b8_nil, b8_nil, b8_nil⟩
          · split at h
            · rename_i hc; injection h with h; subst h hc; exact ⟨by simp [reqF, e1], hx, b8_nil, b8_nil, b8_nil⟩
            · cases h
      · split at h
        · rename_i hb; subst hb
          cases hv : unword b with
          | none => rw [hv] at h; cases h
          | some y =>
            rw [hv] at h
            obtain ⟨e2, hy⟩ := word_unword (h8 b (by simp)) hv
            simp only [Option.bind_some] at h
            injection h with h; subst h
            exact ⟨by simp [reqF, e1, e2], b8_nil, hy, b8_nil, hx⟩
        · cases h
  · replace h : par4 a b c d = some o := h
    unfold par4 at h
    cases hu : unword b with
    | none => rw [hu] at h; cases h
    | some x =>
      cases hv : unword c with
      | none => rw [hu, hv] at h; cases h
      | some y =>
        cases hn : undec d with
        | none => rw [hu, hv, hn] at h; cases h
        | some z =>
          rw [hu, hv, hn] at h
          obtain ⟨e1, hx⟩ := word_unword (h8 b (by simp)) hu
          obtain ⟨e2, hy⟩ := word_unword (h8 c (by simp)) hv
          obtain ⟨e3, hz⟩ := dec_undec hn
          simp only [Option.bind_some] at h
          split at h
          · rename_i hc; injection h with h; subst h hc; exact ⟨by simp [reqF, e1, e2, e3]; omega, b8_nil, hx, hy, b8_nil⟩
          · split at h
            · rename_i hc; injection h with h; subst h hc; exact ⟨by simp [reqF, e1, e2, e3]; omega, b8_nil, hx, hy, b8_nil⟩
            · cases h
  · cases h
end Go.Proofs.YtfafkohghgliaabDoor.Gt
