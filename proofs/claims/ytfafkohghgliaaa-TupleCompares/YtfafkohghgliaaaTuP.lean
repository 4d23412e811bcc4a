import Derived.Test.YtfafkohghgliaaaRBytes
/- Tuples as bytes, plain (chapter 25): codes, their reading, their order. -/
namespace Go.Proofs.Ytfafkohghgliaaa.Tu
open Go.Proofs.Ytfafkohghgliaaa
set_option linter.unusedVariables false

/-- a value: its kind, its flag, its integer, its text's bytes -/
structure Vl where
  kd : Int
  fl : Bool
  n : Int
  s : List Nat
theorem Vl.ext' {u v : Vl} (h1 : u.kd = v.kd) (h2 : u.fl = v.fl) (h3 : u.n = v.n) (h4 : u.s = v.s) : u = v := by
  cases u; cases v; simp only at h1 h2 h3 h4; subst h1 h2 h3 h4; rfl

def decVl : DecidableEq Vl := fun u v =>
  if h : u.kd = v.kd ∧ u.fl = v.fl ∧ u.n = v.n ∧ u.s = v.s then isTrue (Vl.ext' h.1 h.2.1 h.2.2.1 h.2.2.2)
  else isFalse fun e => h (by subst e; exact ⟨rfl, rfl, rfl, rfl⟩)

/-- an integer's digits to the base 256, the highest first; none of 0 -/
def mb (m : Nat) : List Nat := if h : m = 0 then [] else mb (m / 256) ++ [m % 256]
  termination_by m
  decreasing_by omega
/-- the number of digits -/
def vb (l : List Nat) : Nat := l.foldl (fun a d => a * 256 + d) 0
theorem mb_zero : mb 0 = [] := by rw [mb]; simp
theorem mb_pos {m : Nat} (h : m ≠ 0) : mb m = mb (m / 256) ++ [m % 256] := by rw [mb, dif_neg h]
theorem vb_nil : vb [] = 0 := rfl
theorem vb_snoc (l : List Nat) (d : Nat) : vb (l ++ [d]) = vb l * 256 + d := by simp [vb]
theorem vb_mb (m : Nat) : vb (mb m) = m := by
  induction m using Nat.strongRecOn with
  | _ m ih =>
    by_cases h : m = 0
    · subst h; rw [mb_zero]; rfl
    · rw [mb_pos h, vb_snoc, ih (m / 256) (by omega)]; omega
theorem mb_b8 (m : Nat) : B8 (mb m) := by
  induction m using Nat.strongRecOn with
  | _ m ih =>
    by_cases h : m = 0
    · subst h; rw [mb_zero]; exact B8.nil
    · rw [mb_pos h]; exact (ih (m / 256) (by omega)).append (B8.one (Nat.mod_lt _ (by decide)))
theorem mb_len {m : Nat} : ∀ k, m < 256 ^ k → (mb m).length ≤ k := by
  induction m using Nat.strongRecOn with
  | _ m ih =>
    intro k hk
    by_cases h : m = 0
    · subst h; rw [mb_zero]; exact Nat.zero_le _
    · cases k with
      | zero => simp at hk; exact absurd hk h
      | succ k =>
        rw [mb_pos h, List.length_append]
        have := ih (m / 256) (by omega) k (by rw [Nat.pow_succ] at hk; omega)
        simp; omega
theorem mb_head {m : Nat} : (mb m).head? ≠ some 0 := by
  induction m using Nat.strongRecOn with
  | _ m ih =>
    by_cases h : m = 0
    · subst h; rw [mb_zero]; simp
    · rw [mb_pos h]
      by_cases h2 : m / 256 = 0
      · rw [h2, mb_zero]
        have : m % 256 = m := by omega
        simp [this, h]
      · have := ih (m / 256) (by omega)
        cases h3 : mb (m / 256) with
        | nil => rw [← vb_mb (m / 256), h3, vb_nil] at h2; exact absurd rfl h2
        | cons a r => rw [h3] at this; simpa using this
theorem mb_ne {m : Nat} (h : m ≠ 0) : mb m ≠ [] := by rw [mb_pos h]; simp
/-- what is led by no zero is told so -/
theorem mb_vb : ∀ l : List Nat, B8 l → l.head? ≠ some 0 → mb (vb l) = l := by
  intro l
  induction h : l.length generalizing l with
  | zero => intro _ _; rw [List.eq_nil_of_length_eq_zero h]; exact mb_zero
  | succ n ih =>
    intro h8 h0
    have hne : l ≠ [] := by intro e; subst e; simp at h
    obtain ⟨r, d, rfl⟩ : ∃ r d, l = r ++ [d] := ⟨l.dropLast, l.getLast hne, (List.dropLast_concat_getLast hne).symm⟩
    have hd : d < 256 := h8 d (by simp)
    have hr : r.length = n := by simpa using h
    rw [vb_snoc]
    by_cases h3 : r = []
    · subst h3
      rw [vb_nil]
      have hd0 : d ≠ 0 := fun e => h0 (by subst e; rfl)
      rw [mb_pos (by omega)]
      have e1 : (0 * 256 + d) / 256 = 0 := by omega
      have e2 : (0 * 256 + d) % 256 = d := by omega
      rw [e1, e2, mb_zero]
    · have hr0 : r.head? ≠ some 0 := by
        cases r with
        | nil => exact absurd rfl h3
        | cons a r => simpa using h0
      have i := ih r hr h8.left hr0
      have hv : vb r ≠ 0 := fun e => h3 (by rw [← i, e, mb_zero])
      rw [mb_pos (by omega)]
      have e1 : (vb r * 256 + d) / 256 = vb r := by omega
      have e2 : (vb r * 256 + d) % 256 = d := by omega
      rw [e1, e2, i]
theorem vb_lt : ∀ l : List Nat, B8 l → vb l < 256 ^ l.length := by
  intro l
  induction h : l.length generalizing l with
  | zero => intro _; rw [List.eq_nil_of_length_eq_zero h]; decide
  | succ n ih =>
    intro h8
    have hne : l ≠ [] := by intro e; subst e; simp at h
    obtain ⟨r, d, rfl⟩ : ∃ r d, l = r ++ [d] := ⟨l.dropLast, l.getLast hne, (List.dropLast_concat_getLast hne).symm⟩
    have hd : d < 256 := h8 d (by simp)
    have hr : r.length = n := by simpa using h
    have := ih r hr h8.left
    rw [vb_snoc, Nat.pow_succ]
    omega

/-- a digit turned over -/
def cpl (d : Nat) : Nat := 255 - d
def cps (l : List Nat) : List Nat := l.map cpl
theorem cps_cps {l : List Nat} (h : B8 l) : cps (cps l) = l := by
  unfold cps
  rw [List.map_map]
  conv => rhs; rw [← List.map_id l]
  refine List.map_congr_left fun x hx => ?_
  have := h x hx
  simp only [Function.comp, id, cpl]; omega
theorem cps_b8 (l : List Nat) : B8 (cps l) := by
  intro x hx
  obtain ⟨y, _, rfl⟩ := List.mem_map.1 hx
  unfold cpl; omega
theorem cps_len (l : List Nat) : (cps l).length = l.length := List.length_map _

/-- an integer's code -/
def intC (n : Int) : List Nat := if 0 ≤ n then (24 + (mb n.toNat).length) :: mb n.toNat else (24 - (mb (-n).toNat).length) :: cps (mb (-n).toNat)
/-- a text's bytes, each 00 as 00 ff -/
def esc (l : List Nat) : List Nat := l.flatMap fun b => if b = 0 then [0, 255] else [b]
def codeV (v : Vl) : List Nat := if v.kd = 1 then [if v.fl then 3 else 2] else if v.kd = 2 then intC v.n else if v.kd = 3 then 48 :: (esc v.s ++ [0]) else [1]
/-- a tuple's bytes -/
def encL (t : List Vl) : List Nat := t.flatMap codeV
/-- a value is valid -/
def okV (v : Vl) : Bool :=
  if v.kd = 0 then !v.fl && decide (v.n = 0) && decide (v.s = [])
  else if v.kd = 1 then decide (v.n = 0) && decide (v.s = [])
  else if v.kd = 2 then !v.fl && decide (v.s = [])
  else if v.kd = 3 then !v.fl && decide (v.n = 0)
  else false
/-- 64 bits with a sign -/
abbrev In64 (n : Int) : Prop := -9223372036854775808 ≤ n ∧ n ≤ 9223372036854775807
/-- a value as a machine has it -/
structure Vl.ok (v : Vl) : Prop where
  n64 : In64 v.n
  b8 : B8 v.s
def okT (t : List Vl) : Bool := t.all okV
def OkT (t : List Vl) : Prop := ∀ v ∈ t, v.ok
theorem OkT.nil : OkT [] := fun _ h => by cases h
theorem OkT.head {v : Vl} {t : List Vl} (h : OkT (v :: t)) : v.ok := h v (by simp)
theorem OkT.tail {v : Vl} {t : List Vl} (h : OkT (v :: t)) : OkT t := fun x hx => h x (by simp [hx])
theorem OkT.append {a b : List Vl} (ha : OkT a) (hb : OkT b) : OkT (a ++ b) := fun v hv => (List.mem_append.1 hv).elim (ha v) (hb v)
theorem encL_nil : encL [] = [] := rfl
theorem encL_cons (v : Vl) (t : List Vl) : encL (v :: t) = codeV v ++ encL t := rfl
theorem encL_append (a b : List Vl) : encL (a ++ b) = encL a ++ encL b := by simp [encL]
theorem encL_snoc (t : List Vl) (v : Vl) : encL (t ++ [v]) = encL t ++ codeV v := by simp [encL]
theorem int_len {n : Int} (h : In64 n) : (mb n.toNat).length ≤ 8 ∧ (mb (-n).toNat).length ≤ 8 := by
  obtain ⟨h1, h2⟩ := h
  exact ⟨mb_len 8 (by simp; omega), mb_len 8 (by simp; omega)⟩
theorem esc_b8 {l : List Nat} (h : B8 l) : B8 (esc l) := by
  intro x hx
  obtain ⟨y, hy, hxy⟩ := List.mem_flatMap.1 hx
  have := h y hy
  split at hxy <;> simp at hxy <;> omega
theorem intC_b8 {n : Int} (h : In64 n) : B8 (intC n) := by
  have := int_len h
  unfold intC
  split
  · intro x hx; rcases List.mem_cons.1 hx with rfl | hx
    · omega
    · exact mb_b8 _ x hx
  · intro x hx; rcases List.mem_cons.1 hx with rfl | hx
    · omega
    · exact cps_b8 _ x hx
theorem codeV_b8 {v : Vl} (h : v.ok) : B8 (codeV v) := by
  unfold codeV
  split
  · intro x hx; simp at hx; split at hx <;> omega
  · split
    · exact intC_b8 h.n64
    · split
      · intro x hx
        rcases List.mem_cons.1 hx with rfl | hx
        · omega
        · exact ((esc_b8 h.b8).append (B8.one (by omega))) x hx
      · exact B8.one (by omega)
theorem encL_b8 {t : List Vl} (h : OkT t) : B8 (encL t) := by
  intro x hx
  obtain ⟨v, hv, hxv⟩ := List.mem_flatMap.1 hx
  exact codeV_b8 (h v hv) x hxv
/-- how long a code may be -/
theorem esc_len : ∀ l : List Nat, l.length ≤ (esc l).length ∧ (esc l).length ≤ 2 * l.length
  | [] => by simp [esc]
  | b :: l => by
    have := esc_len l
    have e : esc (b :: l) = (if b = 0 then [0, 255] else [b]) ++ esc l := rfl
    rw [e, List.length_append, List.length_cons]
    split
    · show 2 + _ ≥ _ ∧ 2 + _ ≤ _; omega
    · show 1 + _ ≥ _ ∧ 1 + _ ≤ _; omega
theorem codeV_len {v : Vl} (h : In64 v.n) : 1 ≤ (codeV v).length ∧ (codeV v).length ≤ 2 * v.s.length + 9 := by
  have h1 := int_len h
  have h2 := esc_len v.s
  unfold codeV
  split
  · simp
  · split
    · unfold intC; split <;> simp [cps_len] <;> omega
    · split <;> simp <;> omega

/-- a text's code is read: up to its first 00 that no ff follows -/
def unesc : List Nat → Option (List Nat × List Nat)
  | [] => none
  | [b] => if b = 0 then some ([], []) else none
  | b :: c :: r => if b = 0 then (if c = 255 then (unesc r).map fun p => (0 :: p.1, p.2) else some ([], c :: r)) else (unesc (c :: r)).map fun p => (b :: p.1, p.2)
def vNull : Vl := ⟨0, false, 0, []⟩
def vBool (f : Bool) : Vl := ⟨1, f, 0, []⟩
def vInt (n : Int) : Vl := ⟨2, false, n, []⟩
def vText (s : List Nat) : Vl := ⟨3, false, 0, s⟩
/-- how many digits a first byte says -/
def dgs (c : Nat) : Nat := if 24 ≤ c then c - 24 else 24 - c
def dgL (c : Nat) (d : List Nat) : List Nat := if c < 24 then cps d else d
def dgI (c : Nat) (m : Nat) : Int := if c < 24 then -(m : Int) else (m : Int)
def takeI (c : Nat) (r : List Nat) : Option (Vl × List Nat) :=
  if r.length < dgs c then none
  else if (dgL c (r.take (dgs c))).head? ≠ some 0 ∧ In64 (dgI c (vb (dgL c (r.take (dgs c))))) then some (vInt (dgI c (vb (dgL c (r.take (dgs c))))), r.drop (dgs c)) else none
/-- one value is read -/
def takeV : List Nat → Option (Vl × List Nat)
  | [] => none
  | c :: r => if c = 1 then some (vNull, r) else if c = 2 then some (vBool false, r) else if c = 3 then some (vBool true, r)
    else if c = 48 then (unesc r).map fun p => (vText p.1, p.2)
    else if 16 ≤ c ∧ c ≤ 32 then takeI c r else none
theorem takeV_cons (c : Nat) (r : List Nat) : takeV (c :: r) = if c = 1 then some (vNull, r) else if c = 2 then some (vBool false, r) else if c = 3 then some (vBool true, r)
    else if c = 48 then (unesc r).map fun p => (vText p.1, p.2)
    else if 16 ≤ c ∧ c ≤ 32 then takeI c r else none := rfl
theorem unesc_esc : ∀ (s : List Nat) {r : List Nat}, r.head? ≠ some 255 → unesc (esc s ++ 0 :: r) = some (s, r)
  | [], r, h => by
    show unesc (0 :: r) = _
    cases r with
    | nil => rfl
    | cons c r =>
      have : c ≠ 255 := fun e => h (by subst e; rfl)
      simp [unesc, this]
  | b :: s, r, h => by
    have ih := unesc_esc s h
    by_cases hb : b = 0
    · subst hb
      show unesc (0 :: 255 :: (esc s ++ 0 :: r)) = _
      simp [unesc, ih]
    · have e : esc (b :: s) ++ 0 :: r = b :: (esc s ++ 0 :: r) := by simp [esc, hb]
      rw [e]
      cases hx : esc s ++ 0 :: r with
      | nil => simp at hx
      | cons c q => rw [hx] at ih; simp [unesc, hb, ih]
theorem unesc_only : ∀ (l : List Nat) {s r : List Nat}, unesc l = some (s, r) → l = esc s ++ 0 :: r ∧ r.head? ≠ some 255
  | [], s, r, h => by simp [unesc] at h
  | [b], s, r, h => by
    unfold unesc at h
    split at h
    · rename_i hb
      injection h with h; injection h with h1 h2; subst h1 h2 hb
      exact ⟨rfl, by simp⟩
    · cases h
  | b :: c :: l, s, r, h => by
    unfold unesc at h
    split at h
    · rename_i hb
      subst hb
      split at h
      · rename_i hc
        subst hc
        obtain ⟨p, hp, he⟩ := Option.map_eq_some_iff.1 h
        injection he with h1 h2
        subst h1 h2
        have := unesc_only l hp
        exact ⟨by rw [this.1]; rfl, this.2⟩
      · rename_i hc
        injection h with h; injection h with h1 h2; subst h1 h2
        exact ⟨rfl, by simpa using hc⟩
    · rename_i hb
      obtain ⟨p, hp, he⟩ := Option.map_eq_some_iff.1 h
      injection he with h1 h2
      subst h1 h2
      have := unesc_only (c :: l) hp
      refine ⟨?_, this.2⟩
      rw [this.1]
      simp [esc, hb]
/-- what a valid value is -/
theorem okV_iff {v : Vl} (h : okV v = true) : v = vNull ∨ (∃ f, v = vBool f) ∨ (∃ n, v = vInt n) ∨ ∃ s, v = vText s := by
  obtain ⟨k, f, n, s⟩ := v
  unfold okV at h
  simp only at h
  split at h
  · rename_i hk; simp at h; obtain ⟨⟨h1, h2⟩, h3⟩ := h; subst hk h1 h2 h3; exact .inl rfl
  · split at h
    · rename_i hk; simp at h; obtain ⟨h2, h3⟩ := h; subst hk h2 h3; exact .inr (.inl ⟨f, rfl⟩)
    · split at h
      · rename_i hk; simp at h; obtain ⟨h2, h3⟩ := h; subst hk h2 h3; exact .inr (.inr (.inl ⟨n, rfl⟩))
      · split at h
        · rename_i hk; simp at h; obtain ⟨h2, h3⟩ := h; subst hk h2 h3; exact .inr (.inr (.inr ⟨s, rfl⟩))
        · cases h
theorem ok_null : okV vNull = true := rfl
theorem ok_bool (f : Bool) : okV (vBool f) = true := rfl
theorem ok_int (n : Int) : okV (vInt n) = true := rfl
theorem ok_text (s : List Nat) : okV (vText s) = true := rfl
theorem code_null : codeV vNull = [1] := rfl
theorem code_bool (f : Bool) : codeV (vBool f) = [if f then 3 else 2] := rfl
theorem code_int (n : Int) : codeV (vInt n) = intC n := rfl
theorem code_text (s : List Nat) : codeV (vText s) = 48 :: (esc s ++ [0]) := rfl
/-- a valid value's code is taken -/
theorem take_code {v : Vl} {r : List Nat} (hv : okV v = true) (h : v.ok) (hr : r.head? ≠ some 255) : takeV (codeV v ++ r) = some (v, r) := by
  rcases okV_iff hv with rfl | ⟨f, rfl⟩ | ⟨n, rfl⟩ | ⟨s, rfl⟩
  · rfl
  · cases f <;> rfl
  · have hn : In64 n := h.n64
    have hl := int_len hn
    rw [code_int]
    unfold intC
    split
    · rename_i h0
      show takeV ((24 + (mb n.toNat).length) :: (mb n.toNat ++ r)) = _
      have e1 : dgs (24 + (mb n.toNat).length) = (mb n.toNat).length := by unfold dgs; rw [if_pos (by omega)]; omega
      rw [takeV_cons, if_neg (by omega), if_neg (by omega), if_neg (by omega), if_neg (by omega), if_pos (by omega)]
      unfold takeI
      have e2 : ¬ (24 + (mb n.toNat).length) < 24 := by omega
      simp only [e1, List.take_left', List.drop_left', dgL, dgI, e2, if_false, vb_mb]
      rw [if_neg (by simp)]
      have e3 : ((n.toNat : Nat) : Int) = n := by omega
      rw [e3, if_pos ⟨mb_head, hn⟩]
    · rename_i h0
      show takeV ((24 - (mb (-n).toNat).length) :: (cps (mb (-n).toNat) ++ r)) = _
      have hp : 0 < (mb (-n).toNat).length := List.length_pos_iff.2 (mb_ne (by omega))
      have e1 : dgs (24 - (mb (-n).toNat).length) = (mb (-n).toNat).length := by unfold dgs; rw [if_neg (by omega)]; omega
      rw [takeV_cons, if_neg (by omega), if_neg (by omega), if_neg (by omega), if_neg (by omega), if_pos (by omega)]
      unfold takeI
      have e2 : 24 - (mb (-n).toNat).length < 24 := by omega
      have e4 : (cps (mb (-n).toNat) ++ r).take (mb (-n).toNat).length = cps (mb (-n).toNat) := List.take_left' (cps_len _)
      have e5 : (cps (mb (-n).toNat) ++ r).drop (mb (-n).toNat).length = r := List.drop_left' (cps_len _)
      simp only [e1, e4, e5, dgL, dgI, e2, if_true, cps_cps (mb_b8 _), vb_mb]
      rw [if_neg (by simp [cps_len])]
      have e3 : -(((-n).toNat : Nat) : Int) = n := by omega
      rw [e3, if_pos ⟨mb_head, hn⟩]
  · show takeV (48 :: ((esc s ++ [0]) ++ r)) = _
    rw [takeV_cons, if_neg (by decide), if_neg (by decide), if_neg (by decide), if_pos rfl, List.append_assoc]
    show (unesc (esc s ++ 0 :: r)).map _ = _
    rw [unesc_esc s hr]
    rfl
/-- what is taken is a valid value's code -/
theorem take_only {l r : List Nat} {v : Vl} (h8 : B8 l) (h : takeV l = some (v, r)) : l = codeV v ++ r ∧ okV v = true ∧ v.ok ∧ (v.kd = 3 → r.head? ≠ some 255) := by
  cases l with
  | nil => simp [takeV] at h
  | cons c q =>
    rw [takeV_cons] at h
    split at h
    · rename_i hc; injection h with h; injection h with h1 h2; subst h1 h2 hc
      exact ⟨rfl, rfl, ⟨by decide, B8.nil⟩, fun e => by simp [vNull] at e⟩
    split at h
    · rename_i hc; injection h with h; injection h with h1 h2; subst h1 h2 hc
      exact ⟨rfl, rfl, ⟨by decide, B8.nil⟩, fun e => by simp [vBool] at e⟩
    split at h
    · rename_i hc; injection h with h; injection h with h1 h2; subst h1 h2 hc
      exact ⟨rfl, rfl, ⟨by decide, B8.nil⟩, fun e => by simp [vBool] at e⟩
    split at h
    · rename_i hc
      subst hc
      obtain ⟨p, hp, he⟩ := Option.map_eq_some_iff.1 h
      injection he with h1 h2
      subst h1 h2
      have := unesc_only q hp
      refine ⟨?_, rfl, ⟨by simp [vText, In64], ?_⟩, fun _ => this.2⟩
      · rw [this.1, code_text]; simp
      · intro x hx
        have hq : B8 q := fun y hy => h8 y (by simp [hy])
        rw [this.1] at hq
        by_cases h0 : x = 0
        · omega
        · refine hq x (List.mem_append_left _ (List.mem_flatMap.2 ⟨x, hx, ?_⟩))
          simp [h0]
    split at h
    · rename_i hc
      unfold takeI at h
      split at h
      · cases h
      rename_i hk
      split at h
      · rename_i hh
        injection h with h; injection h with h1 h2; subst h1 h2
        have hq : B8 q := fun y hy => h8 y (by simp [hy])
        have hlen : (q.take (dgs c)).length = dgs c := by rw [List.length_take]; omega
        refine ⟨?_, rfl, ⟨hh.2, B8.nil⟩, fun e => by simp [vInt] at e⟩
        rw [code_int]
        obtain ⟨hh1, hh2⟩ := hh
        unfold intC
        by_cases h24 : c < 24
        · have ed : dgL c (q.take (dgs c)) = cps (q.take (dgs c)) := by simp [dgL, h24]
          have ek : dgs c = 24 - c := by unfold dgs; rw [if_neg (by omega)]
          rw [ed] at hh1 hh2 ⊢
          have em : mb (vb (cps (q.take (dgs c)))) = cps (q.take (dgs c)) := mb_vb _ (cps_b8 _) hh1
          have hpos : vb (cps (q.take (dgs c))) ≠ 0 := by
            intro e
            have : cps (q.take (dgs c)) = [] := by rw [← em, e, mb_zero]
            have := congrArg List.length this
            rw [cps_len, hlen] at this
            simp at this; omega
          have ei : dgI c (vb (cps (q.take (dgs c)))) = -((vb (cps (q.take (dgs c))) : Nat) : Int) := by simp [dgI, h24]
          rw [ei, if_neg (by omega)]
          have et : (-(-((vb (cps (q.take (dgs c))) : Nat) : Int))).toNat = vb (cps (q.take (dgs c))) := by omega
          rw [et, em, cps_len, hlen, cps_cps (hq.take _)]
          show _ = _ :: (_ ++ _)
          rw [List.take_append_drop]
          congr 1
          omega
        · have ed : dgL c (q.take (dgs c)) = q.take (dgs c) := by simp [dgL, h24]
          have ek : dgs c = c - 24 := by unfold dgs; rw [if_pos (by omega)]
          rw [ed] at hh1 hh2 ⊢
          have em : mb (vb (q.take (dgs c))) = q.take (dgs c) := mb_vb _ (hq.take _) hh1
          have ei : dgI c (vb (q.take (dgs c))) = ((vb (q.take (dgs c)) : Nat) : Int) := by simp [dgI, h24]
          rw [ei, if_pos (by omega)]
          have et : (((vb (q.take (dgs c)) : Nat) : Int)).toNat = vb (q.take (dgs c)) := by omega
          rw [et, em, hlen]
          show _ = _ :: (_ ++ _)
          rw [List.take_append_drop]
          congr 1
          omega
      · cases h
    · cases h
/-- how a code begins -/
theorem code_head {v : Vl} (h : v.ok) : ∃ c r, codeV v = c :: r ∧ c < 255 ∧ 0 < c := by
  have hl := int_len h.n64
  unfold codeV
  split
  · split <;> exact ⟨_, _, rfl, by omega, by omega⟩
  · split
    · unfold intC
      split <;> exact ⟨_, _, rfl, by omega, by omega⟩
    · split <;> exact ⟨_, _, rfl, by omega, by omega⟩
theorem encL_head {t : List Vl} (h : OkT t) : (encL t).head? ≠ some 255 := by
  cases t with
  | nil => simp [encL]
  | cons v t =>
    obtain ⟨c, r, e, h1, h2⟩ := code_head h.head
    rw [encL_cons, e]
    simp; omega
theorem encL_head' {t : List Vl} {z : List Nat} (h : OkT t) (hz : z.head? ≠ some 255) : (encL t ++ z).head? ≠ some 255 := by
  cases t with
  | nil => simpa [encL] using hz
  | cons v t =>
    obtain ⟨c, r, e, h1, h2⟩ := code_head h.head
    rw [encL_cons, e]
    simp; omega
/-- a tuple is read -/
def decF : Nat → List Nat → Option (List Vl)
  | 0, l => if l = [] then some [] else none
  | f + 1, l => if l = [] then some [] else match takeV l with
    | none => none
    | some (v, r) => (decF f r).map (v :: ·)
def decT (l : List Nat) : Option (List Vl) := decF l.length l
theorem decF_enc : ∀ {t : List Vl} {f : Nat}, okT t = true → OkT t → (encL t).length ≤ f → decF f (encL t) = some t
  | [], f, _, _, _ => by cases f <;> rfl
  | v :: t, f, ho, h, hf => by
    obtain ⟨c, r, e, h1, h2⟩ := code_head h.head
    have hlen : (encL (v :: t)).length = (codeV v).length + (encL t).length := by rw [encL_cons, List.length_append]
    have hv : okV v = true ∧ okT t = true := by simpa [okT] using ho
    cases f with
    | zero => rw [hlen, e] at hf; simp at hf
    | succ f =>
      have hne : encL (v :: t) ≠ [] := by rw [encL_cons, e]; simp
      unfold decF
      rw [if_neg hne, encL_cons, take_code hv.1 h.head (encL_head h.tail)]
      show (decF f (encL t)).map _ = _
      rw [decF_enc hv.2 h.tail (by rw [hlen, e] at hf; simp at hf; omega)]
      rfl
theorem dec_enc {t : List Vl} (ho : okT t = true) (h : OkT t) : decT (encL t) = some t := decF_enc ho h (Nat.le_refl _)
theorem decF_only : ∀ {f : Nat} {l : List Nat} {t : List Vl}, B8 l → decF f l = some t → okT t = true ∧ OkT t ∧ encL t = l
  | 0, l, t, _, h => by
    unfold decF at h
    split at h
    · rename_i e; injection h with h; subst h e; exact ⟨rfl, OkT.nil, rfl⟩
    · cases h
  | f + 1, l, t, h8, h => by
    unfold decF at h
    split at h
    · rename_i e; injection h with h; subst h e; exact ⟨rfl, OkT.nil, rfl⟩
    · split at h
      · cases h
      · rename_i v r hv
        obtain ⟨p, hp, rfl⟩ := Option.map_eq_some_iff.1 h
        have := take_only h8 hv
        have h8' : B8 r := by rw [this.1] at h8; exact h8.right
        have ih := decF_only h8' hp
        refine ⟨by simp only [okT, List.all_cons, this.2.1, Bool.true_and]; exact ih.1, fun x hx => ?_, by rw [encL_cons, ih.2.2, ← this.1]⟩
        rcases List.mem_cons.1 hx with rfl | hx
        · exact this.2.2.1
        · exact ih.2.1 x hx
theorem dec_only {l : List Nat} {t : List Vl} (h8 : B8 l) (h : decT l = some t) : okT t = true ∧ OkT t ∧ encL t = l := decF_only h8 h
/-- one tuple, one code -/
theorem enc_inj {a b : List Vl} (ha : okT a = true) (hb : okT b = true) (ka : OkT a) (kb : OkT b) (h : encL a = encL b) : a = b := by
  have := dec_enc ha ka
  rw [h, dec_enc hb kb] at this
  injection this with this
  exact this.symm
end Go.Proofs.Ytfafkohghgliaaa.Tu
