import Derived.Test.YtchfoipkaookmabDoorBytes
import Derived.Test.YtchfoipkaookmabDoorPlain
import Derived.Laws.Strings
/- Plain mathematics: bytes, the highest first, sort as the numbers do. -/
namespace Go.Proofs.YtchfoipkaookmabDoor

def lexB : List Int → List Int → Bool
  | _, [] => false
  | [], _ :: _ => true
  | a :: x, b :: y => decide (a < b) || (a == b && lexB x y)

theorem lexB_append : ∀ (xs ys xs' ys' : List Int), xs.length = ys.length → lexB (xs ++ xs') (ys ++ ys') = (lexB xs ys || (xs == ys && lexB xs' ys'))
  | [], [], xs', ys', _ => by simp [lexB]
  | [], _ :: _, _, _, h => by simp at h
  | _ :: _, [], _, _, h => by simp at h
  | a :: xs, b :: ys, xs', ys', h => by
    have ih := lexB_append xs ys xs' ys' (by simpa using h)
    rw [List.cons_append, List.cons_append, lexB, lexB, ih, List.cons_beq_cons]
    cases decide (a < b) <;> cases (a == b) <;> cases lexB xs ys <;> cases (xs == ys) <;> cases lexB xs' ys' <;> rfl

theorem be_eq {n : Nat} {v u : Int} (hv : 0 ≤ v ∧ v < 256 ^ n) (hu : 0 ≤ u ∧ u < 256 ^ n) : (be v n == be u n) = (v == u) := by
  induction n generalizing v u with
  | zero =>
    have h1 : v = 0 := by simp at hv; omega
    have h2 : u = 0 := by simp at hu; omega
    simp [be, h1, h2]
  | succ n ih =>
    rw [Int.pow_succ] at hv hu
    have := ih (v := v / 256) (u := u / 256) ⟨by omega, by omega⟩ ⟨by omega, by omega⟩
    rw [be, be]
    rw [Bool.eq_iff_iff] at this ⊢
    simp only [beq_iff_eq] at this ⊢
    constructor
    · intro h
      have hl := List.append_inj' h rfl
      have h1 := this.1 hl.1
      have h2 : v % 256 = u % 256 := by simpa using hl.2
      omega
    · intro h; rw [h]

theorem be_lex {n : Nat} {v u : Int} (hv : 0 ≤ v ∧ v < 256 ^ n) (hu : 0 ≤ u ∧ u < 256 ^ n) : lexB (be v n) (be u n) = decide (v < u) := by
  induction n generalizing v u with
  | zero =>
    have h1 : v = 0 := by simp at hv; omega
    have h2 : u = 0 := by simp at hu; omega
    simp [be, lexB, h1, h2]
  | succ n ih =>
    rw [Int.pow_succ] at hv hu
    have h1 := ih (v := v / 256) (u := u / 256) ⟨by omega, by omega⟩ ⟨by omega, by omega⟩
    have h2 := be_eq (n := n) (v := v / 256) (u := u / 256) ⟨by omega, by omega⟩ ⟨by omega, by omega⟩
    rw [be, be, lexB_append _ _ _ _ (by rw [be_length, be_length]), h1, h2]
    rw [Bool.eq_iff_iff]
    simp [lexB]
    omega

/-- the sixteen numbers of a stamp -/
def pk (a b c : Int) : List Int := be a 8 ++ (be b 4 ++ be c 4)
theorem pk_length (a b c : Int) : (pk a b c).length = 16 := by simp [pk, be_length]
theorem pk_byte (a b c : Int) : ∀ x ∈ pk a b c, 0 ≤ x ∧ x < 256 := by
  intro x hx
  simp only [pk, List.mem_append] at hx
  rcases hx with h | h | h <;> exact be_byte _ _ x h

theorem pk_eq {a b c x y z : Int} (h : (0 ≤ a ∧ a ≤ 18446744073709551615) ∧ (0 ≤ b ∧ b ≤ 4294967295) ∧ (0 ≤ c ∧ c ≤ 4294967295)) (k : (0 ≤ x ∧ x ≤ 18446744073709551615) ∧ (0 ≤ y ∧ y ≤ 4294967295) ∧ (0 ≤ z ∧ z ≤ 4294967295)) :
    (pk a b c == pk x y z) = sameB a b c x y z := by
  have h8 := be_eq (n := 8) (v := a) (u := x) ⟨by omega, by omega⟩ ⟨by omega, by omega⟩
  have h4 := be_eq (n := 4) (v := b) (u := y) ⟨by omega, by omega⟩ ⟨by omega, by omega⟩
  have h4' := be_eq (n := 4) (v := c) (u := z) ⟨by omega, by omega⟩ ⟨by omega, by omega⟩
  rw [Bool.eq_iff_iff] at *
  simp only [beq_iff_eq, pk, sameB_iff] at *
  constructor
  · intro e
    have e1 := List.append_inj e (by rw [be_length, be_length])
    have e2 := List.append_inj e1.2 (by rw [be_length, be_length])
    exact ⟨h8.1 e1.1, h4.1 e2.1, h4'.1 e2.2⟩
  · rintro ⟨rfl, rfl, rfl⟩; rfl

theorem pk_lex {a b c x y z : Int} (h : (0 ≤ a ∧ a ≤ 18446744073709551615) ∧ (0 ≤ b ∧ b ≤ 4294967295) ∧ (0 ≤ c ∧ c ≤ 4294967295)) (k : (0 ≤ x ∧ x ≤ 18446744073709551615) ∧ (0 ≤ y ∧ y ≤ 4294967295) ∧ (0 ≤ z ∧ z ≤ 4294967295)) :
    lexB (pk a b c) (pk x y z) = lessB a b c x y z := by
  unfold pk
  rw [lexB_append _ _ _ _ (by rw [be_length, be_length]), lexB_append _ _ _ _ (by rw [be_length, be_length]),
    be_lex (n := 8) (v := a) (u := x) ⟨by omega, by omega⟩ ⟨by omega, by omega⟩, be_lex (n := 4) (v := b) (u := y) ⟨by omega, by omega⟩ ⟨by omega, by omega⟩,
    be_lex (n := 4) (v := c) (u := z) ⟨by omega, by omega⟩ ⟨by omega, by omega⟩, be_eq (n := 8) (v := a) (u := x) ⟨by omega, by omega⟩ ⟨by omega, by omega⟩,
    be_eq (n := 4) (v := b) (u := y) ⟨by omega, by omega⟩ ⟨by omega, by omega⟩, Bool.eq_iff_iff, lessB_iff]
  simp

def byteOf (n : Int) : UInt8 := UInt8.ofNat n.toNat
theorem byteOf_toNat {n : Int} (h : 0 ≤ n ∧ n < 256) : (byteOf n).toNat = n.toNat := by
  unfold byteOf
  rw [UInt8.toNat_ofNat']
  omega

theorem bytes_lex : ∀ (xs ys : List Int), (∀ x ∈ xs, 0 ≤ x ∧ x < 256) → (∀ y ∈ ys, 0 ≤ y ∧ y < 256) → Op.bytesLess (xs.map byteOf) (ys.map byteOf) = lexB xs ys
  | [], [], _, _ => by simp [Op.bytesLess, lexB]
  | [], _ :: _, _, _ => by simp [Op.bytesLess, lexB]
  | _ :: _, [], _, _ => by simp [Op.bytesLess, lexB]
  | a :: xs, b :: ys, hx, hy => by
    have ih := bytes_lex xs ys (fun x h => hx x (List.mem_cons_of_mem _ h)) (fun y h => hy y (List.mem_cons_of_mem _ h))
    have ha := byteOf_toNat (hx a List.mem_cons_self)
    have hb := byteOf_toNat (hy b List.mem_cons_self)
    have ra := hx a List.mem_cons_self
    have rb := hy b List.mem_cons_self
    rw [List.map_cons, List.map_cons, Op.bytesLess, lexB, ih]
    have e1 : decide (byteOf a < byteOf b) = decide (a < b) := by
      rw [Bool.eq_iff_iff]; simp only [decide_eq_true_eq, UInt8.lt_iff_toNat_lt, ha, hb]; omega
    have e2 : (byteOf a == byteOf b) = (a == b) := by
      rw [Bool.eq_iff_iff]; simp only [beq_iff_eq, ← UInt8.toNat_inj, ha, hb]; omega
    rw [e1, e2]

theorem bytes_eq : ∀ (xs ys : List Int), (∀ x ∈ xs, 0 ≤ x ∧ x < 256) → (∀ y ∈ ys, 0 ≤ y ∧ y < 256) → (xs.map byteOf == ys.map byteOf) = (xs == ys)
  | [], [], _, _ => rfl
  | [], _ :: _, _, _ => rfl
  | _ :: _, [], _, _ => rfl
  | a :: xs, b :: ys, hx, hy => by
    have ih := bytes_eq xs ys (fun x h => hx x (List.mem_cons_of_mem _ h)) (fun y h => hy y (List.mem_cons_of_mem _ h))
    have ha := byteOf_toNat (hx a List.mem_cons_self)
    have hb := byteOf_toNat (hy b List.mem_cons_self)
    have ra := hx a List.mem_cons_self
    have rb := hy b List.mem_cons_self
    have e2 : (byteOf a == byteOf b) = (a == b) := by
      rw [Bool.eq_iff_iff]; simp only [beq_iff_eq, ← UInt8.toNat_inj, ha, hb]; omega
    rw [List.map_cons, List.map_cons, List.cons_beq_cons, List.cons_beq_cons, ih, e2]

theorem str_toList (xs : List Int) : (strOfNums xs).toList = xs.map byteOf := by
  rw [ByteArray.toList_eq]; exact strOfNums_data xs

end Go.Proofs.YtchfoipkaookmabDoor
