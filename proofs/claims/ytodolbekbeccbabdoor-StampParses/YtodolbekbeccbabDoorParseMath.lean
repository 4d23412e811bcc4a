import Derived.Test.YtodolbekbeccbabDoorParse
/- Plain mathematics: a stamp's text and its fields. -/
namespace Go.Proofs.YtodolbekbeccbabDoor

theorem index_mid : ∀ (D r : List UInt8), (∀ x ∈ D, x ≠ 46) → Lib.index (D ++ 46 :: r) [46] = D.length
  | [], r, _ => by simp [Lib.index, List.isPrefixOf]
  | b :: D, r, h => by
    have ih := index_mid D r (fun x hx => h x (List.mem_cons_of_mem _ hx))
    have hb : b ≠ 46 := h b List.mem_cons_self
    have hp : ([46] : List UInt8).isPrefixOf (b :: (D ++ 46 :: r)) = false := by
      simp [List.isPrefixOf]; exact fun e => hb e.symm
    rw [List.cons_append, Lib.index, hp, ih]
    have : ((D.length : Int) == -1) = false := by rw [beq_eq_false_iff_ne]; omega
    rw [this]
    simp

theorem cut_mid (D r : List UInt8) (h : ∀ x ∈ D, x ≠ 46) : Lib.cut (D ++ 46 :: r) [46] = (D, r, true) := by
  unfold Lib.cut
  rw [index_mid D r h, if_pos (by omega)]
  simp

theorem index_back : ∀ (l : List UInt8), Lib.index l [46] = -1 ∨ ∃ D r, l = D ++ 46 :: r ∧ Lib.index l [46] = D.length
  | [] => .inl rfl
  | b :: l => by
    by_cases hb : b = 46
    · exact .inr ⟨[], l, by rw [hb]; rfl, by rw [hb]; simp [Lib.index, List.isPrefixOf]⟩
    · have hp : ([46] : List UInt8).isPrefixOf (b :: l) = false := by
        simp [List.isPrefixOf]; exact fun e => hb e.symm
      rcases index_back l with h | ⟨D, r, h1, h2⟩
      · exact .inl (by rw [Lib.index, hp, h]; rfl)
      · refine .inr ⟨b :: D, r, by rw [h1]; rfl, ?_⟩
        rw [Lib.index, hp, h2]
        have : ((D.length : Int) == -1) = false := by rw [beq_eq_false_iff_ne]; omega
        rw [this]
        simp

theorem cut_back (l : List UInt8) : Lib.cut l [46] = (l, [], false) ∨ ∃ D r, l = D ++ 46 :: r ∧ Lib.cut l [46] = (D, r, true) := by
  rcases index_back l with h | ⟨D, r, h1, h2⟩
  · left; unfold Lib.cut; rw [h]; rfl
  · right
    refine ⟨D, r, h1, ?_⟩
    unfold Lib.cut
    rw [h2, if_pos (by omega), h1]
    simp

theorem digit_toNat {d : Nat} (h : d < 10) : (UInt8.ofNat (48 + d)).toNat = 48 + d := by
  rw [UInt8.toNat_ofNat']; omega

theorem dec_rec {u : Nat} (h : ¬ u < 10) : Lib.decDigits u = Lib.decDigits (u / 10) ++ [UInt8.ofNat (48 + u % 10)] := by rw [Lib.decDigits, dif_neg h]

theorem dig_range (u : Nat) : ∀ x ∈ Lib.decDigits u, 48 ≤ x.toNat ∧ x.toNat ≤ 57 := by
  induction u using Nat.strongRecOn with
  | _ u ih =>
    by_cases h : u < 10
    · rw [Lib.decDigits_one h]
      intro x hx
      rw [List.mem_singleton.1 hx, digit_toNat h]; omega
    · rw [dec_rec h]
      intro x hx
      rw [List.mem_append] at hx
      rcases hx with hx | hx
      · exact ih (u / 10) (by omega) x hx
      · rw [List.mem_singleton.1 hx, digit_toNat (by omega)]; omega

theorem dec_nodot (u : Nat) : ∀ x ∈ Lib.decDigits u, x ≠ 46 := by
  intro x hx e
  have := dig_range u x hx
  rw [e] at this
  exact absurd this.1 (by decide)

theorem dec_ne_nil (u : Nat) : Lib.decDigits u ≠ [] := by
  intro e
  have h := Lib.decDigits_length u
  rw [e] at h
  have := Lib.nDigits_pos u
  simp at h; omega

/-- no nought ahead -/
theorem dec_head (u : Nat) (h : 0 < u) : (Lib.decDigits u).head? ≠ some 48 := by
  induction u using Nat.strongRecOn with
  | _ u ih =>
    by_cases h10 : u < 10
    · rw [Lib.decDigits_one h10]
      intro e
      have e' : UInt8.ofNat (48 + u) = 48 := by simpa using e
      have := congrArg UInt8.toNat e'
      rw [digit_toNat h10] at this
      have h48 : (48 : UInt8).toNat = 48 := rfl
      omega
    · rw [dec_rec h10]
      have := ih (u / 10) (by omega) (by omega)
      cases hd : Lib.decDigits (u / 10) with
      | nil => exact absurd hd (dec_ne_nil _)
      | cons y ys => rw [hd] at this; simpa using this

theorem pm_snoc (M : Nat) : ∀ (l : List UInt8) (acc v : Nat) (c : UInt8), Lib.parseUintM M acc l = .ok v → Lib.parseUintM M acc (l ++ [c]) = Lib.parseUintM M v [c]
  | [], acc, v, c, h => by
    simp only [Lib.parseUintM] at h
    injection h with h
    subst h; rfl
  | b :: l, acc, v, c, h => by
    rw [List.cons_append]
    rw [Lib.parseUintM] at h ⊢
    split at h
    · rename_i hd
      rw [if_pos hd]
      split at h
      · cases h
      · rename_i h1
        rw [if_neg h1]
        split at h
        · cases h
        · rename_i h2
          rw [if_neg h2]
          exact pm_snoc M l _ v c h
    · cases h

theorem pm_one {M acc : Nat} {c : UInt8} {u : Nat} (h : Lib.parseUintM M acc [c] = .ok u) : 48 ≤ c.toNat ∧ c.toNat ≤ 57 ∧ u = acc * 10 + (c.toNat - 48) := by
  rw [Lib.parseUintM] at h
  split at h
  · rename_i hd
    split at h
    · cases h
    · split at h
      · cases h
      · rw [Lib.parseUintM] at h
        injection h with h
        exact ⟨hd.1, hd.2, h.symm⟩
  · cases h

theorem pm_init {M : Nat} : ∀ (l : List UInt8) (acc u : Nat) (c : UInt8), Lib.parseUintM M acc (l ++ [c]) = .ok u → ∃ v, Lib.parseUintM M acc l = .ok v
  | [], acc, _, _, _ => ⟨acc, rfl⟩
  | b :: l, acc, u, c, h => by
    rw [List.cons_append] at h
    rw [Lib.parseUintM] at h ⊢
    split at h
    · rename_i hd
      rw [if_pos hd]
      split at h
      · cases h
      · rename_i h1
        rw [if_neg h1]
        split at h
        · cases h
        · rename_i h2
          rw [if_neg h2]
          exact pm_init l _ u c h
    · cases h

theorem pm_dec {M u : Nat} (hM : u ≤ M) (h64 : u < 18446744073709551616) : Lib.parseUintM M 0 (Lib.decDigits u) = .ok u := by
  induction u using Nat.strongRecOn with
  | _ u ih =>
    by_cases h : u < 10
    · rw [Lib.decDigits_one h, Lib.parseUintM, digit_toNat h, if_pos (by omega), if_neg (by omega), if_neg (by omega)]
      rw [Lib.parseUintM]; congr 1; omega
    · rw [dec_rec h, pm_snoc M _ 0 (u / 10) _ (ih (u / 10) (by omega) (by omega) (by omega)), Lib.parseUintM, digit_toNat (by omega), if_pos (by omega), if_neg (by omega), if_neg (by omega)]
      rw [Lib.parseUintM]; congr 1; omega

theorem pf_dec {B u : Nat} (hB : u ≤ 2 ^ B - 1) (h64 : u < 18446744073709551616) : pf B (Lib.decDigits u) = some u := by
  have hz : (decide (1 < (Lib.decDigits u).length) && ((Lib.decDigits u).head? == some 48)) = false := by
    by_cases h : 0 < u
    · have := dec_head u h
      rw [Bool.and_eq_false_iff]; right
      rw [beq_eq_false_iff_ne]; exact this
    · obtain rfl : u = 0 := by omega
      rw [Lib.decDigits_one (by omega)]; rfl
  unfold pf
  rw [hz]
  simp only [pu, Lib.parseUintB, dec_ne_nil, if_false, Bool.false_eq_true, pm_dec hB h64]

theorem pm_canon {M : Nat} : ∀ (n : Nat) (l : List UInt8) (u : Nat), l.length = n → l ≠ [] → Lib.parseUintM M 0 l = .ok u → (l.length = 1 ∨ l.head? ≠ some 48) → l = Lib.decDigits u := by
  intro n
  induction n with
  | zero => intro l u hl hne; exact absurd (List.length_eq_zero_iff.1 hl) hne
  | succ n ih =>
    intro l u hl hne hp hz
    have hx := List.dropLast_concat_getLast hne
    generalize hc : l.getLast hne = c at hx
    generalize hy : l.dropLast = ys at hx
    have hyl : ys.length = n := by rw [← hy, List.length_dropLast]; omega
    subst hx
    obtain ⟨v, hv⟩ := pm_init ys 0 u c hp
    rw [pm_snoc M ys 0 v c hv] at hp
    obtain ⟨h1, h2, rfl⟩ := pm_one hp
    have hcu : c = UInt8.ofNat (48 + (c.toNat - 48)) := by
      apply UInt8.toNat_inj.1
      rw [UInt8.toNat_ofNat']
      have := c.toNat_lt
      omega
    by_cases hys : ys = []
    · subst hys
      simp only [Lib.parseUintM] at hv
      injection hv with hv
      subst hv
      rw [Nat.zero_mul, Nat.zero_add, Lib.decDigits_one (by omega), ← hcu]; rfl
    · have hz' : (ys ++ [c]).head? ≠ some 48 := by
        rcases hz with hz | hz
        · have : ys.length ≠ 0 := fun e => hys (List.length_eq_zero_iff.1 e)
          rw [List.length_append] at hz; simp at hz; exact absurd hz (by simpa using hys)
        · exact hz
      have hyh : ys.head? ≠ some 48 := by
        cases ys with
        | nil => exact absurd rfl hys
        | cons y r => simpa using hz'
      have e := ih ys v hyl hys hv (.inr hyh)
      have hv0 : 0 < v := by
        rcases Nat.eq_zero_or_pos v with h | h
        · subst h
          rw [e, Lib.decDigits_one (by omega)] at hyh
          exact absurd rfl hyh
        · exact h
      rw [dec_rec (by omega), show (v * 10 + (c.toNat - 48)) / 10 = v by omega, show (v * 10 + (c.toNat - 48)) % 10 = c.toNat - 48 by omega, ← hcu, ← e]

theorem pf_canon {B u : Nat} {l : List UInt8} (h : pf B l = some u) : l = Lib.decDigits u := by
  unfold pf at h
  split at h
  · cases h
  · rename_i hz
    unfold pu Lib.parseUintB at h
    by_cases hl : l = []
    · simp [hl] at h
    · rw [if_neg hl] at h
      cases hp : Lib.parseUintM (2 ^ B - 1) 0 l
      · rename_i v
        rw [hp] at h
        simp only [Option.some.injEq] at h
        subst h
        refine pm_canon l.length l v rfl hl hp ?_
        rw [Bool.and_eq_true, not_and] at hz
        by_cases h1 : 1 < l.length
        · right
          have := hz (decide_eq_true h1)
          simpa using this
        · left
          have : l.length ≠ 0 := fun e => hl (List.length_eq_zero_iff.1 e)
          omega
      · rw [hp] at h; cases h
      · rw [hp] at h; cases h

theorem pf_nil (B : Nat) : pf B [] = none := by simp [pf, pu, Lib.parseUintB]

/-- a stamp's text, letter by letter -/
theorem txt_data (a b c : Int) : (txt a b c).data.toList = Lib.decDigits a.toNat ++ 46 :: (Lib.decDigits b.toNat ++ 46 :: Lib.decDigits c.toNat) := by
  simp [txt, dec, dot, ByteArray.data_append]

theorem nDigits_le10 {u : Nat} (h : u < 4294967296) : Lib.nDigits u ≤ 10 := by
  have : ∀ (k u : Nat), u < 10 ^ (k + 1) → Lib.nDigits u ≤ k + 1 := by
    intro k
    induction k with
    | zero => intro u hu; rw [Lib.nDigits_small (by simpa using hu)]; omega
    | succ k ih =>
      intro u hu
      by_cases h10 : u < 10
      · rw [Lib.nDigits_small h10]; omega
      · rw [Lib.nDigits_big h10]
        have := ih (u / 10) (by rw [Nat.pow_succ] at hu; omega)
        omega
  exact this 9 u (by omega)

theorem prs_txt {a b c : Int} (h : StB a b c) : prs (txt a b c).data.toList = some (a.toNat, b.toNat, c.toNat) := by
  obtain ⟨⟨ha0, ha1⟩, ⟨hb0, hb1⟩, hc0, hc1⟩ := h
  have c1 := cut_mid (Lib.decDigits a.toNat) (Lib.decDigits b.toNat ++ 46 :: Lib.decDigits c.toNat) (dec_nodot _)
  have c2 := cut_mid (Lib.decDigits b.toNat) (Lib.decDigits c.toNat) (dec_nodot _)
  have n1 := dec_le (u := a.toNat) (by omega)
  have n2 : Lib.nDigits b.toNat ≤ 10 := by
    by_cases hu0 : 1 ≤ b.toNat
    · exact nDigits_le10 (by omega)
    · rw [Lib.nDigits_small (by omega)]; omega
  have n3 : Lib.nDigits c.toNat ≤ 10 := by
    by_cases hu0 : 1 ≤ c.toNat
    · exact nDigits_le10 (by omega)
    · rw [Lib.nDigits_small (by omega)]; omega
  rw [txt_data]
  unfold prs f1 f2 f3 r1
  rw [c1]
  simp only
  rw [c2]
  simp only
  rw [if_neg (by
    rw [dec_size] at n1
    simp only [List.length_append, List.length_cons, Lib.decDigits_length]; omega)]
  rw [pf_dec (B := 64) (by omega) (by omega), pf_dec (B := 32) (by omega) (by omega), pf_dec (B := 32) (by omega) (by omega)]

theorem prs_back {l : List UInt8} {a b c : Nat} (h : prs l = some (a, b, c)) : l = (txt a b c).data.toList := by
  unfold prs at h
  split at h
  · cases h
  · cases q1 : pf 64 (f1 l) <;> cases q2 : pf 32 (f2 l) <;> cases q3 : pf 32 (f3 l) <;> rw [q1, q2, q3] at h <;> try (cases h; done)
    rename_i x y z
    simp only [Option.some.injEq, Prod.mk.injEq] at h
    obtain ⟨rfl, rfl, rfl⟩ := h
    have e1 := pf_canon q1
    have e2 := pf_canon q2
    have e3 := pf_canon q3
    rw [txt_data, Int.toNat_natCast, Int.toNat_natCast, Int.toNat_natCast]
    rcases cut_back l with hc | ⟨D, r, hl, hc⟩
    · have : r1 l = [] := by unfold r1; rw [hc]
      have : f2 l = [] := by unfold f2; rw [this]; rfl
      rw [this, pf_nil] at q2; cases q2
    · have hf1 : f1 l = D := by unfold f1; rw [hc]
      have hr : r1 l = r := by unfold r1; rw [hc]
      rcases cut_back r with hc' | ⟨D', r', hl', hc'⟩
      · have : f3 l = [] := by unfold f3; rw [hr, hc']
        rw [this, pf_nil] at q3; cases q3
      · have hf2 : f2 l = D' := by unfold f2; rw [hr, hc']
        have hf3 : f3 l = r' := by unfold f3; rw [hr, hc']
        rw [hf1] at e1; rw [hf2] at e2; rw [hf3] at e3
        rw [hl, hl', e1, e2, e3]

end Go.Proofs.YtodolbekbeccbabDoor
