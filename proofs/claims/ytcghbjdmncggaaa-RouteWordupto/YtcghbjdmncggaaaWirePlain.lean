/- Plain mathematics of numbers, texts and lists as bytes and back: no Go. -/
namespace Go.Proofs.Ytcghbjdmncggaaa

/-- the bytes of a number -/
def vb (v : Nat) : List Nat := if v < 128 then [v] else (v % 128 + 128) :: vb (v / 128)
termination_by v
decreasing_by omega
theorem vb_small {v : Nat} (h : v < 128) : vb v = [v] := by rw [vb, if_pos h]
theorem vb_great {v : Nat} (h : ¬ v < 128) : vb v = (v % 128 + 128) :: vb (v / 128) := by rw [vb, if_neg h]

/-- what a take of a number finds -/
inductive Vr where
  | ok (v : Nat) (r : List Nat)
  | short
  | form
/-- behind k bytes -/
def vgo (k : Nat) : List Nat → Vr
  | [] => .short
  | b :: s =>
    if k = 9 then (if b = 1 then .ok 1 s else .form)
    else if b < 128 then (if b = 0 ∧ k ≠ 0 then .form else .ok b s)
    else match vgo (k + 1) s with
      | .ok v r => .ok (b - 128 + 128 * v) r
      | .short => .short
      | .form => .form

def lim (k : Nat) : Nat := 2 ^ (64 - 7 * k)
theorem lim_next {k v : Nat} (hk : k < 9) (h : v < lim k) : v / 128 < lim (k + 1) := by
  unfold lim at *
  rw [Nat.div_lt_iff_lt_mul (by decide), show (128 : Nat) = 2 ^ 7 by rfl, ← Nat.pow_add]
  rwa [show 64 - 7 * (k + 1) + 7 = 64 - 7 * k by omega]
theorem lim_back {k v b : Nat} (hk : k < 9) (h : v < lim (k + 1)) (hb : b < 128) : b + 128 * v < lim k := by
  unfold lim at *
  have e : 2 ^ (64 - 7 * k) = 2 ^ (64 - 7 * (k + 1)) * 128 := by
    rw [show 64 - 7 * k = 64 - 7 * (k + 1) + 7 by omega, Nat.pow_add]
  rw [e]; omega
theorem lim_nine {v : Nat} : v < lim 9 ↔ v < 2 := by simp [lim]
theorem lim_low {k : Nat} (hk : k < 9) : 128 ≤ lim k := by
  unfold lim
  exact Nat.le_trans (show 128 ≤ 2 ^ 7 by decide) (Nat.pow_le_pow_right (by decide) (by omega))

theorem vgo_vb : ∀ (v k : Nat) (r : List Nat), k ≤ 9 → v < lim k → (k ≠ 0 → v ≠ 0) → vgo k (vb v ++ r) = .ok v r := by
  intro v
  induction v using Nat.strongRecOn with
  | ind v ih =>
    intro k r hk hv h0
    by_cases hs : v < 128
    · rw [vb_small hs]
      show vgo k (v :: r) = _
      unfold vgo
      by_cases h9 : k = 9
      · subst h9
        have := lim_nine.1 hv
        have := h0 (by decide)
        rw [if_pos rfl, if_pos (by omega)]
        congr 1; omega
      · rw [if_neg h9, if_pos hs, if_neg (fun h => h0 h.2 h.1)]
    · rw [vb_great hs]
      show vgo k ((v % 128 + 128) :: (vb (v / 128) ++ r)) = _
      have h9 : k ≠ 9 := by
        intro e; subst e
        have := lim_nine.1 hv
        omega
      unfold vgo
      rw [if_neg h9, if_neg (by omega), ih (v / 128) (by omega) (k + 1) r (by omega) (lim_next (by omega) hv) (fun _ => by omega)]
      show Vr.ok (v % 128 + 128 - 128 + 128 * (v / 128)) r = _
      congr 1; omega

theorem vgo_only : ∀ (s : List Nat) (k v : Nat) (r : List Nat), k ≤ 9 → (∀ b ∈ s, b < 256) → vgo k s = .ok v r → s = vb v ++ r ∧ v < lim k ∧ (k ≠ 0 → v ≠ 0) := by
  intro s
  induction s with
  | nil => intro k v r _ _ h; simp [vgo] at h
  | cons b s ih =>
    intro k v r hk hb h
    unfold vgo at h
    by_cases h9 : k = 9
    · subst h9
      rw [if_pos rfl] at h
      by_cases h1 : b = 1
      · rw [if_pos h1] at h
        injection h with e1 e2
        subst e1 e2 h1
        exact ⟨by rw [vb_small (by decide)]; rfl, lim_nine.2 (by decide), fun _ => by decide⟩
      · rw [if_neg h1] at h; cases h
    · rw [if_neg h9] at h
      by_cases hs : b < 128
      · rw [if_pos hs] at h
        by_cases h0 : b = 0 ∧ k ≠ 0
        · rw [if_pos h0] at h; cases h
        · rw [if_neg h0] at h
          injection h with e1 e2
          subst e1 e2
          exact ⟨by rw [vb_small hs]; rfl, Nat.lt_of_lt_of_le hs (lim_low (by omega)), fun hk0 hb0 => h0 ⟨hb0, hk0⟩⟩
      · rw [if_neg hs] at h
        cases hg : vgo (k + 1) s with
        | short => rw [hg] at h; cases h
        | form => rw [hg] at h; cases h
        | ok v' r' =>
          rw [hg] at h
          injection h with e1 e2
          subst e1 e2
          obtain ⟨q1, q2, q3⟩ := ih (k + 1) v' r' (by omega) (fun x hx => hb x (List.mem_cons_of_mem _ hx)) hg
          have hv' := q3 (by omega)
          have hbb := hb b (by simp)
          refine ⟨?_, lim_back (by omega) q2 (by omega), fun _ => by omega⟩
          rw [vb_great (by omega), q1]
          have e1 : (b - 128 + 128 * v') / 128 = v' := by omega
          have e2 : (b - 128 + 128 * v') % 128 + 128 = b := by omega
          rw [e1, e2]; rfl

theorem vb_byte : ∀ (v : Nat), ∀ b ∈ vb v, b < 256 := by
  intro v
  induction v using Nat.strongRecOn with
  | ind v ih =>
    intro b hb
    by_cases hs : v < 128
    · rw [vb_small hs] at hb; simp at hb; omega
    · rw [vb_great hs] at hb
      rcases List.mem_cons.1 hb with h | h
      · omega
      · exact ih _ (by omega) b h
theorem vb_len : ∀ (v k : Nat), k ≤ 9 → v < lim k → 1 ≤ (vb v).length ∧ (vb v).length ≤ 10 - k := by
  intro v
  induction v using Nat.strongRecOn with
  | ind v ih =>
    intro k hk hv
    by_cases hs : v < 128
    · rw [vb_small hs]; simp; omega
    · have h9 : k ≠ 9 := by
        intro e; subst e
        have := lim_nine.1 hv
        omega
      rw [vb_great hs]
      have := ih (v / 128) (by omega) (k + 1) (by omega) (lim_next (by omega) hv)
      simp; omega

/-- a take of a number of at most m -/
def vdec (m : Nat) (s : List Nat) : Vr := match vgo 0 s with
  | .ok v r => if v ≤ m then .ok v r else .form
  | .short => .short
  | .form => .form

/-- a decoder: what is left, or the error that stopped it -/
inductive Ds where
  | at (s : List Nat)
  | stop (e : Int)
def Ds.left : Ds → List Nat
  | .at s => s
  | .stop _ => []
def Ds.ending : Ds → Int
  | .at [] => 0
  | .at _ => 31
  | .stop e => e
def tByte : Ds → Nat × Ds
  | .stop e => (0, .stop e)
  | .at [] => (0, .stop 30)
  | .at (b :: s) => (b, .at s)
def tFlag : Ds → Bool × Ds
  | .stop e => (false, .stop e)
  | .at [] => (false, .stop 30)
  | .at (b :: s) => if b = 0 then (false, .at s) else if b = 1 then (true, .at s) else (false, .stop 31)
def tVar (m : Nat) : Ds → Nat × Ds
  | .stop e => (0, .stop e)
  | .at s => match vdec m s with
    | .ok v r => (v, .at r)
    | .short => (0, .stop 30)
    | .form => (0, .stop 31)
def tRaw (n : Nat) : Ds → List Nat × Ds
  | .stop e => ([], .stop e)
  | .at s => if s.length < n then ([], .stop 30) else (s.take n, .at (s.drop n))
def tText (m : Nat) : Ds → List Nat × Ds
  | .stop e => ([], .stop e)
  | .at s => match vdec m s with
    | .ok v r => tRaw v (.at r)
    | .short => ([], .stop 30)
    | .form => ([], .stop 31)
/-- n texts -/
def tTextN (m : Nat) : Nat → Ds → List (List Nat) × Ds
  | 0, d => ([], d)
  | n + 1, d => match tText m d with
    | (_, .stop e) => ([], .stop e)
    | (t, .at s) => match tTextN m n (.at s) with
      | (_, .stop e) => ([], .stop e)
      | (l, .at r) => (t :: l, .at r)
def tTexts (k m : Nat) : Ds → List (List Nat) × Ds
  | .stop e => ([], .stop e)
  | .at s => match vdec k s with
    | .ok v r => tTextN m v (.at r)
    | .short => ([], .stop 30)
    | .form => ([], .stop 31)

def eText (s : List Nat) : List Nat := vb s.length ++ s
def eTexts (l : List (List Nat)) : List Nat := vb l.length ++ l.flatMap eText

theorem vdec_vb {v m : Nat} (r : List Nat) (hv : v < 18446744073709551616) (hm : v ≤ m) : vdec m (vb v ++ r) = .ok v r := by
  unfold vdec
  rw [vgo_vb v 0 r (by decide) (by unfold lim; omega) (fun h => absurd rfl h)]
  simp [hm]
theorem vdec_great {v m : Nat} (r : List Nat) (hv : v < 18446744073709551616) (hm : ¬ v ≤ m) : vdec m (vb v ++ r) = .form := by
  unfold vdec
  rw [vgo_vb v 0 r (by decide) (by unfold lim; omega) (fun h => absurd rfl h)]
  simp [hm]
theorem vdec_only {m v : Nat} {s r : List Nat} (hb : ∀ b ∈ s, b < 256) (h : vdec m s = .ok v r) : s = vb v ++ r ∧ v < 18446744073709551616 ∧ v ≤ m := by
  unfold vdec at h
  cases hg : vgo 0 s with
  | short => rw [hg] at h; cases h
  | form => rw [hg] at h; cases h
  | ok v' r' =>
    rw [hg] at h
    dsimp only at h
    by_cases hm : v' ≤ m
    · rw [if_pos hm] at h
      injection h with e1 e2
      subst e1 e2
      obtain ⟨q1, q2, _⟩ := vgo_only s 0 v' r' (by decide) hb hg
      exact ⟨q1, by unfold lim at q2; omega, hm⟩
    · rw [if_neg hm] at h; cases h

theorem tVar_vb {v m : Nat} (r : List Nat) (hv : v < 18446744073709551616) (hm : v ≤ m) : tVar m (.at (vb v ++ r)) = (v, .at r) := by
  unfold tVar; dsimp only; rw [vdec_vb r hv hm]
theorem tRaw_app (s r : List Nat) : tRaw s.length (.at (s ++ r)) = (s, .at r) := by
  unfold tRaw
  dsimp only
  rw [if_neg (by simp)]
  simp
theorem tText_app {m : Nat} (s r : List Nat) (hs : s.length < 18446744073709551616) (hm : s.length ≤ m) : tText m (.at (eText s ++ r)) = (s, .at r) := by
  unfold tText eText
  dsimp only
  rw [List.append_assoc, vdec_vb _ hs hm]
  exact tRaw_app s r
theorem tTextN_app {m : Nat} (l : List (List Nat)) (r : List Nat) (hl : ∀ s ∈ l, s.length < 18446744073709551616 ∧ s.length ≤ m) : tTextN m l.length (.at (l.flatMap eText ++ r)) = (l, .at r) := by
  induction l with
  | nil => rfl
  | cons s l ih =>
    have hs := hl s (by simp)
    show tTextN m (l.length + 1) _ = _
    unfold tTextN
    rw [List.flatMap_cons, List.append_assoc, tText_app s _ hs.1 hs.2]
    dsimp only
    rw [ih (fun x hx => hl x (List.mem_cons_of_mem _ hx))]
theorem tTexts_app {k m : Nat} (l : List (List Nat)) (r : List Nat) (h1 : l.length < 18446744073709551616) (h2 : l.length ≤ k) (hl : ∀ s ∈ l, s.length < 18446744073709551616 ∧ s.length ≤ m) : tTexts k m (.at (eTexts l ++ r)) = (l, .at r) := by
  unfold tTexts eTexts
  dsimp only
  rw [List.append_assoc, vdec_vb _ h1 h2]
  exact tTextN_app l r hl

/-- what is taken is what would be added -/
theorem tVar_only {m v : Nat} {s r : List Nat} (hb : ∀ b ∈ s, b < 256) (h : tVar m (.at s) = (v, .at r)) : s = vb v ++ r := by
  unfold tVar at h
  dsimp only at h
  cases hg : vdec m s with
  | short => rw [hg] at h; cases h
  | form => rw [hg] at h; cases h
  | ok v' r' =>
    rw [hg] at h
    injection h with e1 e2
    injection e2 with e2
    subst e1 e2
    exact (vdec_only hb hg).1
theorem tRaw_only {n : Nat} {s t r : List Nat} (h : tRaw n (.at s) = (t, .at r)) : s = t ++ r ∧ t.length = n := by
  unfold tRaw at h
  dsimp only at h
  by_cases hl : s.length < n
  · rw [if_pos hl] at h; cases h
  · rw [if_neg hl] at h
    injection h with e1 e2
    injection e2 with e2
    subst e1 e2
    exact ⟨by simp, by simp; omega⟩
theorem tText_only {m : Nat} {s t r : List Nat} (hb : ∀ b ∈ s, b < 256) (h : tText m (.at s) = (t, .at r)) : s = eText t ++ r := by
  unfold tText at h
  dsimp only at h
  cases hg : vdec m s with
  | short => rw [hg] at h; cases h
  | form => rw [hg] at h; cases h
  | ok v' r' =>
    rw [hg] at h
    dsimp only at h
    obtain ⟨q1, q2⟩ := tRaw_only h
    rw [(vdec_only hb hg).1, q1, ← q2]
    simp [eText]
theorem tTextN_only {m : Nat} : ∀ (n : Nat) {s r : List Nat} {l : List (List Nat)}, (∀ b ∈ s, b < 256) → tTextN m n (.at s) = (l, .at r) → s = l.flatMap eText ++ r ∧ l.length = n := by
  intro n
  induction n with
  | zero =>
    intro s r l hb h
    unfold tTextN at h
    injection h with e1 e2
    injection e2 with e2
    subst e1 e2
    exact ⟨rfl, rfl⟩
  | succ n ih =>
    intro s r l hb h
    unfold tTextN at h
    cases hg : tText m (.at s) with
    | mk t d =>
      rw [hg] at h
      cases d with
      | stop e => cases h
      | «at» s' =>
        dsimp only at h
        cases hg2 : tTextN m n (.at s') with
        | mk l' d' =>
          rw [hg2] at h
          cases d' with
          | stop e => cases h
          | «at» r' =>
            injection h with e1 e2
            injection e2 with e2
            subst e1 e2
            have q1 := tText_only hb hg
            have hb' : ∀ b ∈ s', b < 256 := fun b hx => hb b (by rw [q1]; exact List.mem_append_right _ hx)
            obtain ⟨q2, q3⟩ := ih hb' hg2
            refine ⟨?_, by simp [q3]⟩
            rw [q1, q2, List.flatMap_cons, List.append_assoc]
theorem tTexts_only {k m : Nat} {s r : List Nat} {l : List (List Nat)} (hb : ∀ b ∈ s, b < 256) (h : tTexts k m (.at s) = (l, .at r)) : s = eTexts l ++ r := by
  unfold tTexts at h
  dsimp only at h
  cases hg : vdec k s with
  | short => rw [hg] at h; cases h
  | form => rw [hg] at h; cases h
  | ok v' r' =>
    rw [hg] at h
    dsimp only at h
    have q0 := (vdec_only hb hg).1
    have hb' : ∀ b ∈ r', b < 256 := fun b hx => hb b (by rw [q0]; exact List.mem_append_right _ hx)
    obtain ⟨q1, q2⟩ := tTextN_only v' hb' h
    rw [q0, q1, ← q2]
    simp [eTexts]

end Go.Proofs.Ytcghbjdmncggaaa
