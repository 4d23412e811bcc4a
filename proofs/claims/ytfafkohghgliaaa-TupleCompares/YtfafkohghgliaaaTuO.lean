import Derived.Test.YtfafkohghgliaaaTuP
/- The order of tuples, plain (chapter 25): bytes sort as tuples do; spans. -/
namespace Go.Proofs.Ytfafkohghgliaaa.Tu
open Go.Proofs.Ytfafkohghgliaaa
set_option linter.unusedVariables false
set_option linter.unusedSectionVars false
variable [DecidableEq Vl]

/-- byte by byte, a beginning first -/
def ltL : List Nat → List Nat → Bool
  | _, [] => false
  | [], _ :: _ => true
  | a :: x, b :: y => decide (a < b) || (decide (a = b) && ltL x y)
theorem ltL_nil (l : List Nat) : ltL l [] = false := by cases l <;> rfl
theorem ltL_irr : ∀ l : List Nat, ltL l l = false
  | [] => rfl
  | a :: x => by simp [ltL, ltL_irr x]
theorem ltL_same : ∀ (p x y : List Nat), ltL (p ++ x) (p ++ y) = ltL x y
  | [], _, _ => rfl
  | a :: p, x, y => by simp [ltL, ltL_same p x y]
theorem ltL_head {a b : Nat} (x y : List Nat) (h : a ≠ b) : ltL (a :: x) (b :: y) = decide (a < b) := by simp [ltL, h]
theorem ltL_tri : ∀ (a b : List Nat), ltL a b = false → ltL b a = false → a = b
  | [], [], _, _ => rfl
  | [], _ :: _, h, _ => by simp [ltL] at h
  | _ :: _, [], _, h => by simp [ltL] at h
  | a :: x, b :: y, h, k => by
    simp only [ltL, Bool.or_eq_false_iff, decide_eq_false_iff_not] at h k
    have e : a = b := by omega
    subst e
    simp at h k
    rw [ltL_tri x y h k]
theorem ltL_asym : ∀ (a b : List Nat), ltL a b = true → ltL b a = false
  | _, [], h => by rw [ltL_nil] at h; cases h
  | [], _ :: _, _ => ltL_nil _
  | a :: x, b :: y, h => by
    simp only [ltL, Bool.or_eq_true, decide_eq_true_eq, Bool.and_eq_true] at h
    rcases h with h | ⟨h, k⟩
    · rw [ltL_head _ _ (by omega)]; simp; omega
    · subst h; simp [ltL, ltL_asym x y k]
/-- digits of one length compare as their numbers -/
theorem ltL_vb : ∀ (a b x y : List Nat), a.length = b.length → B8 a → B8 b → ltL (a ++ x) (b ++ y) = (decide (vb a < vb b) || (decide (vb a = vb b) && ltL x y)) := by
  intro a
  induction h : a.length generalizing a with
  | zero => intro b x y hb _ _; rw [List.eq_nil_of_length_eq_zero h, List.eq_nil_of_length_eq_zero hb.symm]; simp [vb]
  | succ n ih =>
    intro b x y hb ha8 hb8
    have ha : a ≠ [] := by intro e; subst e; simp at h
    have hbn : b ≠ [] := by intro e; subst e; simp at hb
    obtain ⟨r, d, rfl⟩ : ∃ r d, a = r ++ [d] := ⟨a.dropLast, a.getLast ha, (List.dropLast_concat_getLast ha).symm⟩
    obtain ⟨q, c, rfl⟩ : ∃ q c, b = q ++ [c] := ⟨b.dropLast, b.getLast hbn, (List.dropLast_concat_getLast hbn).symm⟩
    have hd : d < 256 := ha8 d (by simp)
    have hc : c < 256 := hb8 c (by simp)
    have e1 : r.length = n := by simpa using h
    have e2 : n = q.length := by simp at hb; omega
    rw [vb_snoc, vb_snoc, List.append_assoc, List.append_assoc, ih r e1 q _ _ e2 ha8.left hb8.left]
    show (_ || (_ && ltL (d :: x) (c :: y))) = _
    simp only [ltL]
    rw [Bool.eq_iff_iff]
    simp only [Bool.or_eq_true, Bool.and_eq_true, decide_eq_true_eq]
    constructor
    · rintro (h | ⟨h, k | ⟨k, l⟩⟩)
      · left; omega
      · left; omega
      · right; exact ⟨by omega, l⟩
    · rintro (h | ⟨h, l⟩)
      · by_cases hv : vb r = vb q
        · right; exact ⟨hv, .inl (by omega)⟩
        · left; omega
      · right; exact ⟨by omega, .inr ⟨by omega, l⟩⟩
theorem vb_cps : ∀ l : List Nat, B8 l → vb (cps l) + vb l + 1 = 256 ^ l.length := by
  intro l
  induction h : l.length generalizing l with
  | zero => intro _; rw [List.eq_nil_of_length_eq_zero h]; rfl
  | succ n ih =>
    intro h8
    have hne : l ≠ [] := by intro e; subst e; simp at h
    obtain ⟨r, d, rfl⟩ : ∃ r d, l = r ++ [d] := ⟨l.dropLast, l.getLast hne, (List.dropLast_concat_getLast hne).symm⟩
    have hd : d < 256 := h8 d (by simp)
    have hr : r.length = n := by simpa using h
    have i := ih r hr h8.left
    have e : cps (r ++ [d]) = cps r ++ [255 - d] := by simp [cps, cpl]
    rw [e, vb_snoc, vb_snoc, Nat.pow_succ]
    omega
theorem mb_lo {m : Nat} (h : m ≠ 0) : 256 ^ ((mb m).length - 1) ≤ m := by
  induction m using Nat.strongRecOn with
  | _ m ih =>
    rw [mb_pos h]
    by_cases h2 : m / 256 = 0
    · rw [h2, mb_zero]; simp; omega
    · have := ih (m / 256) (by omega) h2
      have hp : 0 < (mb (m / 256)).length := List.length_pos_iff.2 (mb_ne h2)
      have e : (mb (m / 256) ++ [m % 256]).length - 1 = ((mb (m / 256)).length - 1) + 1 := by simp; omega
      rw [e, Nat.pow_succ]
      omega
theorem mb_hi (m : Nat) : m < 256 ^ (mb m).length := by
  have := vb_lt _ (mb_b8 m)
  rwa [vb_mb] at this
theorem mb_mono {a b : Nat} (h : (mb a).length < (mb b).length) : a < b := by
  have h1 := mb_hi a
  have hb : b ≠ 0 := by intro e; subst e; rw [mb_zero] at h; simp at h
  have h2 := mb_lo hb
  have h3 : 256 ^ (mb a).length ≤ 256 ^ ((mb b).length - 1) := Nat.pow_le_pow_right (by decide) (by omega)
  omega
/-- integers' codes sort as the integers -/
theorem ltL_int {m n : Int} (hm : In64 m) (hn : In64 n) (x y : List Nat) : ltL (intC m ++ x) (intC n ++ y) = (decide (m < n) || (decide (m = n) && ltL x y)) := by
  have lm := int_len hm
  have ln := int_len hn
  unfold intC
  by_cases h1 : 0 ≤ m <;> by_cases h2 : 0 ≤ n <;> simp only [h1, h2, if_true, if_false]
  · by_cases hl : (mb m.toNat).length = (mb n.toNat).length
    · show ltL (_ :: (_ ++ x)) (_ :: (_ ++ y)) = _
      simp only [ltL]
      rw [ltL_vb _ _ x y hl (mb_b8 _) (mb_b8 _), vb_mb, vb_mb, hl]
      have e1 : (m.toNat < n.toNat) ↔ m < n := by omega
      have e2 : (m.toNat = n.toNat) ↔ m = n := by omega
      simp only [e1, e2, Nat.lt_irrefl, decide_false, Bool.false_or, decide_true, Bool.true_and]
    · have hne : m ≠ n := fun e => hl (by rw [e])
      show ltL (_ :: (_ ++ x)) (_ :: (_ ++ y)) = _
      rw [ltL_head _ _ (by omega)]
      simp only [hne, decide_false, Bool.false_and, Bool.or_false]
      rw [decide_eq_decide]
      constructor
      · intro h; have := mb_mono (a := m.toNat) (b := n.toNat) (by omega); omega
      · intro h
        by_cases hg : (mb n.toNat).length < (mb m.toNat).length
        · have := mb_mono hg; omega
        · omega
  · have hp : 0 < (mb (-n).toNat).length := List.length_pos_iff.2 (mb_ne (by omega))
    show ltL (_ :: (_ ++ x)) (_ :: (_ ++ y)) = _
    rw [ltL_head _ _ (by omega)]
    have e1 : ¬ m < n := by omega
    have e2 : ¬ m = n := by omega
    simp [e1, e2]
    omega
  · have hp : 0 < (mb (-m).toNat).length := List.length_pos_iff.2 (mb_ne (by omega))
    show ltL (_ :: (_ ++ x)) (_ :: (_ ++ y)) = _
    rw [ltL_head _ _ (by omega)]
    have e1 : m < n := by omega
    simp [e1]
    omega
  · by_cases hl : (mb (-m).toNat).length = (mb (-n).toNat).length
    · show ltL (_ :: (_ ++ x)) (_ :: (_ ++ y)) = _
      simp only [ltL]
      rw [ltL_vb _ _ x y (by rw [cps_len, cps_len, hl]) (cps_b8 _) (cps_b8 _), hl]
      have c1 := vb_cps _ (mb_b8 (-m).toNat)
      have c2 := vb_cps _ (mb_b8 (-n).toNat)
      rw [vb_mb] at c1 c2
      rw [hl] at c1
      simp
      have e1 : (vb (cps (mb (-m).toNat)) < vb (cps (mb (-n).toNat))) ↔ m < n := by omega
      have e2 : (vb (cps (mb (-m).toNat)) = vb (cps (mb (-n).toNat))) ↔ m = n := by omega
      simp only [e1, e2]
    · have hne : m ≠ n := fun e => hl (by rw [e])
      show ltL (_ :: (_ ++ x)) (_ :: (_ ++ y)) = _
      rw [ltL_head _ _ (by omega)]
      simp only [hne, decide_false, Bool.false_and, Bool.or_false]
      rw [decide_eq_decide]
      constructor
      · intro h; have := mb_mono (a := (-n).toNat) (b := (-m).toNat) (by omega); omega
      · intro h
        by_cases hg : (mb (-m).toNat).length < (mb (-n).toNat).length
        · have := mb_mono hg; omega
        · omega
/-- texts' codes sort as the texts -/
theorem ltL_esc : ∀ (s t x y : List Nat), B8 s → B8 t → x.head? ≠ some 255 → y.head? ≠ some 255 → (∀ b, x.head? = some b → b < 256) → (∀ b, y.head? = some b → b < 256) →
    ltL (esc s ++ 0 :: x) (esc t ++ 0 :: y) = (ltL s t || (decide (s = t) && ltL x y))
  | [], [], x, y, _, _, _, _, _, _ => by simp [esc, ltL]
  | [], b :: t, x, y, _, hb, hx, hy, kx, ky => by
    have e : ltL [] (b :: t) = true := rfl
    rw [e, Bool.true_or]
    show ltL (0 :: x) _ = true
    by_cases h0 : b = 0
    · subst h0
      show ltL (0 :: x) (0 :: 255 :: _) = true
      cases x with
      | nil => rfl
      | cons c x =>
        have h1 : c ≠ 255 := fun e => hx (by subst e; rfl)
        have h2 := kx c rfl
        have h3 : c < 255 := by omega
        simp [ltL, h3]
    · have e : esc (b :: t) ++ 0 :: y = b :: (esc t ++ 0 :: y) := by simp [esc, h0]
      rw [e, ltL_head _ _ (by omega)]
      simp; omega
  | a :: s, [], x, y, ha, _, hx, hy, kx, ky => by
    have e : ltL (a :: s) [] = false := rfl
    rw [e, Bool.false_or]
    have e2 : decide (a :: s = []) = false := by simp
    rw [e2, Bool.false_and]
    show ltL _ (0 :: y) = false
    by_cases h0 : a = 0
    · subst h0
      show ltL (0 :: 255 :: _) (0 :: y) = false
      cases y with
      | nil => rfl
      | cons c y =>
        have h1 : c ≠ 255 := fun e => hy (by subst e; rfl)
        have h2 := ky c rfl
        have e9 : ∀ q : List Nat, ltL (0 :: 255 :: q) (0 :: c :: y) = false := fun q => by
          have h3 : ¬ 255 < c := by omega
          have h4 : ¬ 255 = c := by omega
          simp [ltL, h3, h4]
        exact e9 _
    · have e : esc (a :: s) ++ 0 :: x = a :: (esc s ++ 0 :: x) := by simp [esc, h0]
      rw [e, ltL_head _ _ h0]
      simp
  | a :: s, b :: t, x, y, ha, hb, hx, hy, kx, ky => by
    have ih := ltL_esc s t x y (fun c hc => ha c (by simp [hc])) (fun c hc => hb c (by simp [hc])) hx hy kx ky
    by_cases hab : a = b
    · subst hab
      have e1 : ltL (a :: s) (a :: t) = ltL s t := by simp [ltL]
      have e2 : decide (a :: s = a :: t) = decide (s = t) := by simp
      rw [e1, e2, ← ih]
      have e3 : ∀ z w, esc (a :: z) ++ w = (if a = 0 then [0, 255] else [a]) ++ (esc z ++ w) := fun z w => by simp [esc]
      rw [e3, e3, ltL_same]
    · have e1 : ltL (a :: s) (b :: t) = decide (a < b) := ltL_head _ _ hab
      have e2 : decide (a :: s = b :: t) = false := by simp [hab]
      rw [e1, e2, Bool.false_and, Bool.or_false]
      have e3 : ∀ c z w, ∃ q, esc (c :: z) ++ w = c :: q := fun c z w => by
        by_cases h : c = 0
        · subst h; exact ⟨_, rfl⟩
        · exact ⟨esc z ++ w, by simp [esc, h]⟩
      obtain ⟨q1, h1⟩ := e3 a s (0 :: x)
      obtain ⟨q2, h2⟩ := e3 b t (0 :: y)
      rw [h1, h2, ltL_head _ _ hab]

/-- does the one value come before the other? -/
def bef (u v : Vl) : Bool :=
  if u.kd ≠ v.kd then decide (u.kd < v.kd) else if u.fl ≠ v.fl then v.fl else if u.n ≠ v.n then decide (u.n < v.n) else ltL u.s v.s
/-- two tuples compared -/
def cmpT : List Vl → List Vl → Int
  | [], [] => 0
  | [], _ :: _ => -1
  | _ :: _, [] => 1
  | u :: a, v :: b => if bef u v then -1 else if bef v u then 1 else cmpT a b
theorem bef_irr (u : Vl) : bef u u = false := by simp [bef, ltL_irr]
theorem bef_tri {u v : Vl} (h : bef u v = false) (k : bef v u = false) : u = v := by
  unfold bef at h k
  by_cases h1 : u.kd = v.kd
  · by_cases h2 : u.fl = v.fl
    · by_cases h3 : u.n = v.n
      · simp only [h1, h2, h3, ne_eq, not_true, if_false] at h k
        exact Vl.ext' h1 h2 h3 (ltL_tri _ _ h k)
      · have h3' : ¬ v.n = u.n := fun e => h3 e.symm
        simp [h1, h2, h3, h3'] at h k
        omega
    · have h2' : ¬ v.fl = u.fl := fun e => h2 e.symm
      simp [h1, h2, h2'] at h k
      rw [h, k] at h2; exact absurd rfl h2
  · have h1' : ¬ v.kd = u.kd := fun e => h1 e.symm
    simp [h1, h1'] at h k
    omega
theorem bef_asym {u v : Vl} (h : bef u v = true) : bef v u = false := by
  unfold bef at h ⊢
  by_cases h1 : u.kd = v.kd
  · by_cases h2 : u.fl = v.fl
    · by_cases h3 : u.n = v.n
      · simp only [h1, h2, h3, ne_eq, not_true, if_false] at h ⊢
        exact ltL_asym _ _ h
      · have h3' : ¬ v.n = u.n := fun e => h3 e.symm
        simp [h1, h2, h3, h3'] at h ⊢
        omega
    · have h2' : ¬ v.fl = u.fl := fun e => h2 e.symm
      simp [h1, h2, h2'] at h ⊢
      cases hu : u.fl with
      | false => rfl
      | true => rw [h, hu] at h2; exact absurd rfl h2
  · have h1' : ¬ v.kd = u.kd := fun e => h1 e.symm
    simp [h1, h1'] at h ⊢
    omega
theorem cmp_refl : ∀ a : List Vl, cmpT a a = 0
  | [] => rfl
  | u :: a => by simp [cmpT, bef_irr, cmp_refl a]
theorem cmp_neg : ∀ a b : List Vl, cmpT b a = -cmpT a b
  | [], [] => rfl
  | [], _ :: _ => rfl
  | _ :: _, [] => rfl
  | u :: a, v :: b => by
    simp only [cmpT]
    by_cases h : bef u v = true
    · simp [h, bef_asym h]
    · by_cases k : bef v u = true
      · simp [h, k]
      · simp [h, k, cmp_neg a b]
theorem cmp_eq : ∀ {a b : List Vl}, cmpT a b = 0 → a = b
  | [], [], _ => rfl
  | [], _ :: _, h => by simp [cmpT] at h
  | _ :: _, [], h => by simp [cmpT] at h
  | u :: a, v :: b, h => by
    simp only [cmpT] at h
    split at h
    · omega
    · split at h
      · omega
      · rename_i h1 h2
        have e1 := bef_tri (by simpa using h1) (by simpa using h2)
        have e2 := cmp_eq h
        subst e1 e2; rfl
theorem cmp_cases : ∀ a b : List Vl, cmpT a b = -1 ∨ cmpT a b = 0 ∨ cmpT a b = 1
  | [], [] => .inr (.inl rfl)
  | [], _ :: _ => .inl rfl
  | _ :: _, [] => .inr (.inr rfl)
  | u :: a, v :: b => by
    simp only [cmpT]
    split
    · exact .inl rfl
    · split
      · exact .inr (.inr rfl)
      · exact cmp_cases a b
theorem cmp_more : ∀ (a : List Vl) (v : Vl), cmpT a (a ++ [v]) = -1
  | [], _ => rfl
  | u :: a, v => by simp [cmpT, bef_irr, cmp_more a v]
/-- a code's first byte, by the kind -/
theorem code_kind {v : Vl} (hv : okV v = true) (h : v.ok) : ∃ c r, codeV v = c :: r ∧ ((v.kd = 0 ∧ c = 1) ∨ (v.kd = 1 ∧ (c = 2 ∨ c = 3)) ∨ (v.kd = 2 ∧ 16 ≤ c ∧ c ≤ 32) ∨ (v.kd = 3 ∧ c = 48)) := by
  rcases okV_iff hv with rfl | ⟨f, rfl⟩ | ⟨n, rfl⟩ | ⟨s, rfl⟩
  · exact ⟨1, [], rfl, .inl ⟨rfl, rfl⟩⟩
  · exact ⟨_, [], rfl, .inr (.inl ⟨rfl, by cases f <;> simp⟩)⟩
  · have hn : In64 n := h.n64
    have hl := int_len hn
    rw [code_int]
    unfold intC
    split <;> exact ⟨_, _, rfl, .inr (.inr (.inl ⟨rfl, by omega, by omega⟩))⟩
  · exact ⟨48, _, rfl, .inr (.inr (.inr ⟨rfl, rfl⟩))⟩
/-- valid values' codes sort as the values do -/
theorem ltL_code {u v : Vl} (hu : okV u = true) (hv : okV v = true) (ku : u.ok) (kv : v.ok) {x y : List Nat} (hx : x.head? ≠ some 255) (hy : y.head? ≠ some 255)
    (bx : ∀ b, x.head? = some b → b < 256) (bY : ∀ b, y.head? = some b → b < 256) : ltL (codeV u ++ x) (codeV v ++ y) = (bef u v || (decide (u = v) && ltL x y)) := by
  by_cases hk : u.kd = v.kd
  · rcases okV_iff hu with rfl | ⟨f, rfl⟩ | ⟨n, rfl⟩ | ⟨s, rfl⟩ <;> rcases okV_iff hv with rfl | ⟨g, rfl⟩ | ⟨m, rfl⟩ | ⟨t, rfl⟩ <;> simp only [vNull, vBool, vInt, vText] at hk <;> first | omega | skip
    · rw [ltL_same]; simp [bef, vNull, ltL_irr]
    · cases f <;> cases g
      · rw [ltL_same]; simp [bef, ltL_irr]
      · show ltL (2 :: x) (3 :: y) = _; simp [ltL, bef, vBool]
      · show ltL (3 :: x) (2 :: y) = _
        have e : vBool true ≠ vBool false := fun e => by have := congrArg Vl.fl e; cases this
        simp only [e, decide_false, Bool.false_and, Bool.or_false]
        rw [ltL_head _ _ (by omega)]; simp [bef, vBool]
      · rw [ltL_same]; simp [bef, ltL_irr]
    · rw [code_int, code_int, ltL_int (m := n) (n := m) ku.n64 kv.n64]
      have e : (vInt n = vInt m) ↔ n = m := ⟨fun e => congrArg Vl.n e, fun e => by rw [e]⟩
      have e2 : bef (vInt n) (vInt m) = decide (n < m) := by
        by_cases h : n = m
        · subst h; simp [bef, vInt, ltL]
        · unfold bef
          rw [if_neg (by simp [vInt]), if_neg (by simp [vInt]), if_pos (by simpa [vInt] using h)]
          rfl
      rw [e2]
      simp only [e]
    · rw [code_text, code_text]
      have e : (vText s = vText t) ↔ s = t := ⟨fun e => congrArg Vl.s e, fun e => by rw [e]⟩
      have e2 : bef (vText s) (vText t) = ltL s t := by simp [bef, vText]
      rw [e2]
      simp only [e]
      have := ltL_esc s t x y ku.b8 kv.b8 hx hy bx bY
      rw [← this]
      simp [ltL]
  · obtain ⟨c, r, e1, h1⟩ := code_kind hu ku
    obtain ⟨d, q, e2, h2⟩ := code_kind hv kv
    have hne : u ≠ v := fun e => hk (by rw [e])
    have hb : bef u v = decide (u.kd < v.kd) := by simp [bef, hk]
    rw [e1, e2, hb]
    simp only [hne, decide_false, Bool.false_and, Bool.or_false]
    show ltL (c :: (r ++ x)) (d :: (q ++ y)) = _
    rw [ltL_head _ _ (by omega), decide_eq_decide]
    omega
theorem head_b8 {l : List Nat} (h : B8 l) : ∀ b, l.head? = some b → b < 256 := fun b hb => h b (List.mem_of_mem_head? (by simpa using hb))
/-- valid tuples' bytes sort as the tuples do -/
theorem lt_enc : ∀ {a b : List Vl}, okT a = true → okT b = true → OkT a → OkT b → ltL (encL a) (encL b) = decide (cmpT a b = -1)
  | [], [], _, _, _, _ => rfl
  | [], v :: b, _, _, _, kb => by
    obtain ⟨c, r, e, _⟩ := code_head kb.head
    rw [encL_cons, e]
    rfl
  | u :: a, [], _, _, _, _ => by rw [encL_nil, ltL_nil]; rfl
  | u :: a, v :: b, ha, hb, ka, kb => by
    have h1 : okV u = true ∧ okT a = true := by simpa [okT] using ha
    have h2 : okV v = true ∧ okT b = true := by simpa [okT] using hb
    rw [encL_cons, encL_cons, ltL_code h1.1 h2.1 ka.head kb.head (encL_head ka.tail) (encL_head kb.tail) (head_b8 (encL_b8 ka.tail)) (head_b8 (encL_b8 kb.tail)),
      lt_enc h1.2 h2.2 ka.tail kb.tail]
    simp only [cmpT]
    by_cases h : bef u v = true
    · simp [h]
    · by_cases k : bef v u = true
      · have hne : u ≠ v := fun e => by subst e; rw [bef_irr] at k; cases k
        simp [h, k, hne]
      · have e := bef_tri (by simpa using h) (by simpa using k)
        subst e
        simp [h]
theorem eq_enc {a b : List Vl} (ha : okT a = true) (hb : okT b = true) (ka : OkT a) (kb : OkT b) : (encL a = encL b) ↔ cmpT a b = 0 :=
  ⟨fun h => by rw [enc_inj ha hb ka kb h]; exact cmp_refl _, fun h => by rw [cmp_eq h]⟩

/-- keys between a text and the same text with ff behind it are those that begin with it and go on with no ff -/
theorem within : ∀ (p l : List Nat), (∀ b ∈ l, b < 256) → ((ltL l p = false ∧ ltL l (p ++ [255]) = true) ↔ ∃ z, l = p ++ z ∧ z.head? ≠ some 255)
  | [], l, h8 => by
    rw [ltL_nil]
    cases l with
    | nil => exact ⟨fun _ => ⟨[], rfl, by simp⟩, fun _ => ⟨rfl, rfl⟩⟩
    | cons b l =>
      have hb := h8 b (by simp)
      constructor
      · rintro ⟨_, h⟩
        refine ⟨b :: l, rfl, ?_⟩
        intro e
        have e : b = 255 := by simpa using e
        subst e
        simp [ltL, ltL_nil] at h
      · rintro ⟨z, e, hz⟩
        simp only [List.nil_append] at e
        subst e
        have : b ≠ 255 := fun e => hz (by subst e; rfl)
        exact ⟨rfl, by show ltL (b :: l) [255] = true; rw [ltL_head _ _ this]; simp; omega⟩
  | a :: p, [], h8 => by
    constructor
    · rintro ⟨h, _⟩; simp [ltL] at h
    · rintro ⟨z, e, _⟩; simp at e
  | a :: p, b :: l, h8 => by
    have ih := within p l (fun c hc => h8 c (by simp [hc]))
    by_cases hab : b = a
    · subst hab
      have e1 : ltL (b :: l) (b :: p) = ltL l p := by simp [ltL]
      have e2 : ltL (b :: l) (b :: p ++ [255]) = ltL l (p ++ [255]) := by simp [ltL]
      rw [e1, e2, ih]
      constructor
      · rintro ⟨z, e, hz⟩; exact ⟨z, by rw [e]; rfl, hz⟩
      · rintro ⟨z, e, hz⟩
        have e : l = p ++ z := by
          have := List.cons.inj e
          exact this.2
        exact ⟨z, e, hz⟩
    · rw [ltL_head _ _ hab, show ltL (b :: l) (a :: p ++ [255]) = decide (b < a) from ltL_head _ _ hab]
      constructor
      · rintro ⟨h, k⟩; simp at h k; omega
      · rintro ⟨z, e, _⟩
        exact absurd (List.cons.inj e).1 hab
/-- what a tuple's bytes begin with, no ff behind, it begins with -/
theorem pre_of : ∀ {p t : List Vl} {z : List Nat}, okT p = true → okT t = true → OkT p → OkT t → encL t = encL p ++ z → z.head? ≠ some 255 → ∃ q, t = p ++ q
  | [], t, _, _, _, _, _, _, _ => ⟨t, rfl⟩
  | v :: p, t, z, hp, ht, kp, kt, e, hz => by
    have h1 : okV v = true ∧ okT p = true := by simpa [okT] using hp
    obtain ⟨c, r, ec, _⟩ := code_head kp.head
    cases t with
    | nil => rw [encL_cons, ec] at e; simp [encL] at e
    | cons u t =>
      have h2 : okV u = true ∧ okT t = true := by simpa [okT] using ht
      have e' : codeV u ++ encL t = codeV v ++ (encL p ++ z) := by rw [encL_cons, encL_cons, List.append_assoc] at e; exact e
      have t1 := take_code h2.1 kt.head (encL_head kt.tail)
      rw [e', take_code h1.1 kp.head (encL_head' kp.tail hz)] at t1
      injection t1 with t1
      injection t1 with t1 t2
      subst t1
      obtain ⟨q, rfl⟩ := pre_of h1.2 h2.2 kp.tail kt.tail t2.symm hz
      exact ⟨q, rfl⟩
/-- the tuples in the span of a prefix are those that begin with it -/
theorem in_span {p t : List Vl} (hp : okT p = true) (ht : okT t = true) (kp : OkT p) (kt : OkT t) :
    (ltL (encL t) (encL p) = false ∧ ltL (encL t) (encL p ++ [255]) = true) ↔ ∃ q, t = p ++ q := by
  rw [within _ _ (encL_b8 kt)]
  constructor
  · rintro ⟨z, e, hz⟩; exact pre_of hp ht kp kt e hz
  · rintro ⟨q, rfl⟩
    exact ⟨encL q, encL_append p q, encL_head (fun v hv => kt v (List.mem_append_right _ hv))⟩
end Go.Proofs.Ytfafkohghgliaaa.Tu
