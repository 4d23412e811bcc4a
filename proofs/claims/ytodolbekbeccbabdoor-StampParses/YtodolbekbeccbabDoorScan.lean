import Derived.Test.YtodolbekbeccbabDoorParseMath
/- Plain mathematics: a candidate read by adding up. -/
namespace Go.Proofs.YtodolbekbeccbabDoor

structure Sc where
  k : Nat
  x : Int
  y : Int
  z : Int
def Sc.get (s : Sc) : Int := if s.k = 0 then s.x else if s.k = 1 then s.y else s.z
def Sc.put (s : Sc) (v : Int) : Sc := if s.k = 0 then ⟨s.k, v, s.y, s.z⟩ else if s.k = 1 then ⟨s.k, s.x, v, s.z⟩ else ⟨s.k, s.x, s.y, v⟩
def nextV (v : Int) (c : UInt8) : Int := (v * 10 + (c.toNat : Int) - 48) % 18446744073709551616
def Sc.step (s : Sc) (c : UInt8) : Option Sc :=
  if c.toNat = 46 then (if 2 < s.k + 1 then none else some ⟨s.k + 1, s.x, s.y, s.z⟩) else some (s.put (nextV s.get c))
def scan : List UInt8 → Sc → Option Sc
  | [], s => some s
  | c :: l, s => (s.step c).bind (scan l)

theorem scan_append : ∀ (l1 l2 : List UInt8) (s : Sc), scan (l1 ++ l2) s = (scan l1 s).bind (scan l2)
  | [], _, _ => rfl
  | c :: l1, l2, s => by
    rw [List.cons_append, scan, scan]
    cases h : s.step c with
    | none => rfl
    | some t => exact scan_append l1 l2 t

theorem put_k (s : Sc) (v : Int) : (s.put v).k = s.k := by unfold Sc.put; split <;> (try split) <;> rfl
theorem put_get (s : Sc) (v : Int) : (s.put v).get = v := by
  unfold Sc.put
  by_cases h0 : s.k = 0
  · rw [if_pos h0]; simp [Sc.get, h0]
  · rw [if_neg h0]
    by_cases h1 : s.k = 1
    · rw [if_pos h1]; simp [Sc.get, h1]
    · rw [if_neg h1]; simp [Sc.get, h0, h1]
theorem put_put (s : Sc) (v u : Int) : (s.put v).put u = s.put u := by
  unfold Sc.put
  by_cases h0 : s.k = 0
  · simp [h0]
  · by_cases h1 : s.k = 1
    · simp [h1]
    · simp [h0, h1]
theorem put_self (s : Sc) : s.put s.get = s := by
  unfold Sc.put Sc.get
  by_cases h0 : s.k = 0
  · simp [h0]
    obtain ⟨k, x, y, z⟩ := s
    simp at h0; rw [h0]
  · by_cases h1 : s.k = 1
    · simp [h1]
      obtain ⟨k, x, y, z⟩ := s
      simp at h1; rw [h1]
    · simp [h0, h1]

def valL : List UInt8 → Int → Int
  | [], v => v
  | c :: l, v => valL l (nextV v c)
theorem valL_snoc (l : List UInt8) (c : UInt8) (v : Int) : valL (l ++ [c]) v = nextV (valL l v) c := by
  induction l generalizing v with
  | nil => rfl
  | cons b l ih => exact ih _

theorem scan_digits : ∀ (D : List UInt8) (s : Sc), (∀ x ∈ D, x ≠ 46) → scan D s = some (s.put (valL D s.get))
  | [], s, _ => by rw [scan, valL, put_self]
  | c :: D, s, h => by
    have hc : c.toNat ≠ 46 := fun e => h c List.mem_cons_self (UInt8.toNat_inj.1 e)
    rw [scan, Sc.step, if_neg hc]
    show scan D (s.put (nextV s.get c)) = _
    rw [scan_digits D _ (fun x hx => h x (List.mem_cons_of_mem _ hx)), put_get, put_put, valL]

theorem val_dec {u : Nat} (h : u < 18446744073709551616) : valL (Lib.decDigits u) 0 = u := by
  induction u using Nat.strongRecOn with
  | _ u ih =>
    by_cases h10 : u < 10
    · rw [Lib.decDigits_one h10]
      show nextV 0 _ = _
      rw [nextV, digit_toNat h10]; omega
    · rw [dec_rec h10, valL_snoc, ih (u / 10) (by omega) (by omega), nextV, digit_toNat (by omega)]; omega

def sc0 : Sc := ⟨0, 0, 0, 0⟩
theorem scan_txt {a b c : Int} (h : StB a b c) : scan (txt a b c).data.toList sc0 = some ⟨2, a, b, c⟩ := by
  obtain ⟨⟨ha0, ha1⟩, ⟨hb0, hb1⟩, hc0, hc1⟩ := h
  rw [txt_data, scan_append, scan_digits _ _ (dec_nodot _)]
  have e1 : valL (Lib.decDigits a.toNat) sc0.get = a := by show valL _ 0 = a; rw [val_dec (by omega)]; omega
  rw [e1]
  show scan (46 :: _) ⟨0, a, 0, 0⟩ = _
  rw [scan]
  show scan _ ⟨1, a, 0, 0⟩ = _
  rw [scan_append, scan_digits _ _ (dec_nodot _)]
  have e2 : valL (Lib.decDigits b.toNat) (Sc.mk 1 a 0 0).get = b := by show valL _ 0 = b; rw [val_dec (by omega)]; omega
  rw [e2]
  show scan (46 :: _) ⟨1, a, b, 0⟩ = _
  rw [scan]
  show scan _ ⟨2, a, b, 0⟩ = _
  rw [scan_digits _ _ (dec_nodot _)]
  have e3 : valL (Lib.decDigits c.toNat) (Sc.mk 2 a b 0).get = c := by show valL _ 0 = c; rw [val_dec (by omega)]; omega
  rw [e3]
  rfl

theorem prs_ok {l : List UInt8} {a b c : Nat} (h : prs l = some (a, b, c)) : StB a b c := by
  unfold prs at h
  split at h
  · cases h
  · cases q1 : pf 64 (f1 l) <;> cases q2 : pf 32 (f2 l) <;> cases q3 : pf 32 (f3 l) <;> rw [q1, q2, q3] at h <;> try (cases h; done)
    rename_i x y z
    simp only [Option.some.injEq, Prod.mk.injEq] at h
    obtain ⟨rfl, rfl, rfl⟩ := h
    have bd : ∀ {B u : Nat} {l : List UInt8}, pf B l = some u → u ≤ 2 ^ B - 1 := by
      intro B u l h
      unfold pf at h
      split at h
      · cases h
      · unfold pu at h
        cases hp : Lib.parseUintB B l
        · rw [hp] at h
          simp only [Option.some.injEq] at h
          subst h
          exact Lib.parseUintB_le hp
        · rw [hp] at h; cases h
        · rw [hp] at h; cases h
    have b1 := bd q1; have b2 := bd q2; have b3 := bd q3
    exact ⟨⟨by omega, by omega⟩, ⟨by omega, by omega⟩, by omega, by omega⟩

theorem scan_prs {l : List UInt8} {a b c : Nat} (h : prs l = some (a, b, c)) : scan l sc0 = some ⟨2, a, b, c⟩ := by
  have e := prs_back h
  rw [e]; exact scan_txt (prs_ok h)

theorem prs_of_scan_none {l : List UInt8} (h : scan l sc0 = none) : prs l = none := by
  cases hp : prs l with
  | none => rfl
  | some p =>
    obtain ⟨a, b, c⟩ := p
    rw [scan_prs hp] at h; cases h

theorem scan_take_none {l : List UInt8} {i : Nat} (h : scan (l.take i) sc0 = none) : scan l sc0 = none := by
  have := scan_append (l.take i) (l.drop i) sc0
  rw [List.take_append_drop, h] at this
  exact this

theorem prs_of_ne {l : List UInt8} {st : Sc} (hs : scan l sc0 = some st) (hne : (txt st.x (st.y % 4294967296) (st.z % 4294967296)).data.toList ≠ l) : prs l = none := by
  cases hp : prs l with
  | none => rfl
  | some p =>
    obtain ⟨a, b, c⟩ := p
    have h1 := scan_prs hp
    rw [hs] at h1
    have h2 := prs_ok hp
    injection h1 with h1
    subst h1
    obtain ⟨_, ⟨hb0, hb1⟩, hc0, hc1⟩ := h2
    exfalso
    apply hne
    dsimp only
    rw [show (b : Int) % 4294967296 = b by omega, show (c : Int) % 4294967296 = c by omega]
    exact (prs_back hp).symm

end Go.Proofs.YtodolbekbeccbabDoor
