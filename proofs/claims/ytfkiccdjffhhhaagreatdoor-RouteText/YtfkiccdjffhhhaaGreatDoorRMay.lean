import Derived.Test.YtfkiccdjffhhhaaGreatDoorRCutP
/- The program's small functions: is a configuration valid, whose is a key. -/
namespace Go.Proofs.YtfkiccdjffhhhaaGreatDoor.Rt
open Go.RowKit Go.Sort
set_option linter.unusedVariables false

/-- a row of texts -/
def RowS (w : World) (a : Option Addr) (ss : List ByteArray) : Prop := ∀ i, i < ss.length → ∃ b off, a = some ⟨b, off, none⟩ ∧ w.cell? ⟨b, off + i, none⟩ = some (.string (nthS ss i))
theorem RowS.later {w w' : World} {a : Option Addr} {ss : List ByteArray} (h : RowS w a ss) (hb : Below w.heap.size w w') : RowS w' a ss := fun i hi => by
  obtain ⟨b, off, e, h0⟩ := h i hi
  exact ⟨b, off, e, cell_later hb h0⟩
/-- a configuration, and where its split keys lie -/
structure Cf where
  sh : Int
  cl : Int
  a : Option Addr
  cp : Nat
  ss : List ByteArray
  ca : Int
  pk : Int
  wi : Int
abbrev Cf.val (c : Cf) : Value := .agg #[.int .i64 c.sh, .int .i64 c.cl, .slice c.a c.ss.length c.cp, .int .i64 c.ca, .int .i64 c.pk, .int .u64 c.wi]
def wiB (n l m : Int) : Bool := decide (l ≤ n) && decide (n ≤ m)
/-- is it valid? -/
def Cf.okB (c : Cf) : Bool := wiB c.sh 1 6 && wiB c.cl 1 6 && wiB c.ca 256 1048576 && wiB c.pk 0 16 && ((c.ss.length : Int) == c.sh - 1) && risB c.ss
/-- its numbers are numbers -/
structure Cf.Ok (c : Cf) (w : World) : Prop where
  row : RowS w c.a c.ss
  len : c.ss.length ≤ 9223372036854775807
  sh : -9223372036854775808 ≤ c.sh ∧ c.sh ≤ 9223372036854775807
theorem Cf.Ok.later {c : Cf} {w w' : World} (h : c.Ok w) (hb : Below w.heap.size w w') : c.Ok w' := ⟨h.row.later hb, h.len, h.sh⟩

theorem within_is {n l m : Int} {u : Bool} (hu : wiB n l m = u) (w : World) :
    Calls Tryz.prog 19 #[.int .i64 n, .int .i64 l, .int .i64 m] w fun e w' => e = .returned (.bool u) ∧ w' = w := by
  subst hu
  unfold wiB
  go_enter Tryz.func19, Tryz.ntmps19
  cases h1 : decide (l ≤ n)
  · go_wp2
    go_ret
    exact ⟨rfl, rfl⟩
  · go_wp2
    go_ret
    exact ⟨rfl, rfl⟩

set_option maxHeartbeats 4000000 in
theorem rising_is {a : Option Addr} {cp : Nat} {ss : List ByteArray} {w : World} (h : RowS w a ss) (hl : ss.length ≤ 9223372036854775807) {u : Bool} (hu : risB ss = u) :
    Calls Tryz.prog 20 #[.slice a ss.length cp] w fun e w' => e = .returned (.bool u) ∧ w' = w := by
  have H := hid h
  have HU := hid hu
  clear h hu
  go_enter Tryz.func20, Tryz.ntmps20
  go_wp2_with fail
  go_loopg [3, 8] ss.length (fun g s3 s8 wr => ∃ k : Nat, k ≤ ss.length ∧ g = ss.length - k ∧ s8 = .int .i64 k ∧ s3 = .string (prevS ss k) ∧ wr = w ∧ Hid (allB (fun i => keyOk (prevS ss i) (nthS ss i)) k = true))
  case atStart => exact ⟨0, by omega, by omega, rfl, rfl, rfl, hid rfl⟩
  case round =>
    obtain ⟨k, hk, rfl, rfl, rfl, rfl, HK⟩ := hrel
    by_cases hlt : k < ss.length
    · obtain ⟨b, off, rfl, c0⟩ := H.out k hlt
      obtain ⟨y, hy⟩ : ∃ y, y = nthS ss k := ⟨_, rfl⟩
      obtain ⟨p, hp⟩ : ∃ p, p = prevS ss k := ⟨_, rfl⟩
      rw [← hy] at c0
      rw [← hp]
      have HY : Hid (y = nthS ss k ∧ p = prevS ss k) := hid ⟨hy, hp⟩
      have hle : (Op.bytesLess y.toList p.toList || y.toList == p.toList) = !ltS p y := leq_less _ _
      clear hy hp
      cases h32 : decide (y.size ≤ 32)
      · have HF : Hid (risB ss = false) := hid (allB_no (k := k) (by rw [← HY.out.1, keyOk, h32, Bool.and_false]) _ hlt)
        have h32' : ¬ y.size ≤ 32 := by simpa using h32
        go_wp2_with fail
        go_ret
        exact ⟨ret_bool (by rw [← HU.out, HF.out]), rfl⟩
      · have h32' : y.size ≤ 32 := by simpa using h32
        cases hlp : ltS p y
        · have HF : Hid (risB ss = false) := hid (allB_no (k := k) (by rw [← HY.out.1, ← HY.out.2, keyOk, hlp, Bool.false_and]) _ hlt)
          rw [hlp, Bool.not_false] at hle
          go_wp2_with fail
          go_ret
          exact ⟨ret_bool (by rw [← HU.out, HF.out]), rfl⟩
        · rw [hlp, Bool.not_true] at hle
          go_wp2_with fail
          go_roundg (ss.length - (k + 1))
          case measure => omega
          case rel => exact ⟨k + 1, by omega, rfl, by go_num, by rw [HY.out.1]; simp [prevS], rfl, hid (allB_yes HK.out (by rw [← HY.out.1, ← HY.out.2, keyOk, hlp, h32]; rfl))⟩
    · obtain rfl : k = ss.length := by omega
      go_wp2_with fail
      go_ret
      exact ⟨ret_bool (by rw [← HU.out, risB, HK.out]), rfl⟩

set_option maxHeartbeats 4000000 in
theorem mayBe_is {c : Cf} {w : World} (h : c.Ok w) {u : Bool} (hu : c.okB = u) :
    Calls Tryz.prog 10 #[c.val] w fun e w' => e = .returned (.bool u) ∧ Below w.heap.size w w' := by
  have H := hid h
  have hs := h.sh
  have hl := h.len
  subst hu
  clear h
  obtain ⟨sh, cl, a, cp, ss, ca, pk, wi⟩ := c
  simp only at hs hl
  go_enter Tryz.func10, Tryz.ntmps10
  go_wp2_with fail
  refine (within_is rfl _).mono ?_
  rintro e w1 ⟨rfl, rfl⟩
  cases h1 : wiB sh 1 6
  · go_wp2_with fail
    go_ret
    exact ⟨ret_bool (by simp [Cf.okB, h1]), by (repeat (first | exact Below.refl _ _ | assumption | refine Below.drew ?_ | refine Below.al ?_ _ | refine Below.setCell ?_ (by first | exact Nat.le_refl _ | (simp; omega) | (simp; done)) _ | refine Below.on ?_ (by assumption)))⟩
  · go_wp2_with fail
    refine (within_is rfl _).mono ?_
    rintro e w2 ⟨rfl, rfl⟩
    cases h2 : wiB cl 1 6
    · go_wp2_with fail
      go_ret
      exact ⟨ret_bool (by simp [Cf.okB, h1, h2]), by (repeat (first | exact Below.refl _ _ | assumption | refine Below.drew ?_ | refine Below.al ?_ _ | refine Below.setCell ?_ (by first | exact Nat.le_refl _ | (simp; omega) | (simp; done)) _ | refine Below.on ?_ (by assumption)))⟩
    · go_wp2_with fail
      refine (within_is rfl _).mono ?_
      rintro e w3 ⟨rfl, rfl⟩
      cases h3 : wiB ca 256 1048576
      · go_wp2_with fail
        go_ret
        exact ⟨ret_bool (by simp [Cf.okB, h1, h2, h3]), by (repeat (first | exact Below.refl _ _ | assumption | refine Below.drew ?_ | refine Below.al ?_ _ | refine Below.setCell ?_ (by first | exact Nat.le_refl _ | (simp; omega) | (simp; done)) _ | refine Below.on ?_ (by assumption)))⟩
      · go_wp2_with fail
        refine (within_is rfl _).mono ?_
        rintro e w4 ⟨rfl, rfl⟩
        cases h4 : wiB pk 0 16
        · go_wp2_with fail
          go_ret
          exact ⟨ret_bool (by simp [Cf.okB, h1, h2, h3, h4]), by (repeat (first | exact Below.refl _ _ | assumption | refine Below.drew ?_ | refine Below.al ?_ _ | refine Below.setCell ?_ (by first | exact Nat.le_refl _ | (simp; omega) | (simp; done)) _ | refine Below.on ?_ (by assumption)))⟩
        · have hsh : 1 ≤ sh ∧ sh ≤ 6 := by simpa [wiB] using h1
          by_cases h5 : (ss.length : Int) = sh - 1
          · have h5' : ((ss.length : Int) == sh - 1) = true := by simpa using h5
            go_wp2_with fail
            refine (rising_is (H.out.row.later (by (repeat (first | exact Below.refl _ _ | assumption | refine Below.drew ?_ | refine Below.al ?_ _ | refine Below.setCell ?_ (by first | exact Nat.le_refl _ | (simp; omega) | (simp; done)) _ | refine Below.on ?_ (by assumption))))) hl rfl).mono ?_
            rintro e w5 ⟨rfl, rfl⟩
            go_wp2_with fail
            go_ret
            exact ⟨ret_bool (by simp [Cf.okB, h1, h2, h3, h4, h5']), by (repeat (first | exact Below.refl _ _ | assumption | refine Below.drew ?_ | refine Below.al ?_ _ | refine Below.setCell ?_ (by first | exact Nat.le_refl _ | (simp; omega) | (simp; done)) _ | refine Below.on ?_ (by assumption)))⟩
          · have h5' : ((ss.length : Int) == sh - 1) = false := by simpa using h5
            go_wp2_with fail
            go_ret
            exact ⟨ret_bool (by simp [Cf.okB, h1, h2, h3, h4, h5']), by (repeat (first | exact Below.refl _ _ | assumption | refine Below.drew ?_ | refine Below.al ?_ _ | refine Below.setCell ?_ (by first | exact Nat.le_refl _ | (simp; omega) | (simp; done)) _ | refine Below.on ?_ (by assumption)))⟩

theorem ok_len {c : Cf} (h : c.okB = true) : c.ss.length ≤ 5 ∧ c.sh = c.ss.length + 1 ∧ risB c.ss = true := by
  simp only [Cf.okB, wiB, Bool.and_eq_true, decide_eq_true_eq, beq_iff_eq] at h
  refine ⟨by omega, by omega, h.2⟩
/-- a configuration in a box -/
structure BoxC (w : World) (p : Nat) (c : Cf) : Prop where
  c0 : w.cell? ⟨p, 0, none⟩ = some (.int .i64 c.sh)
  c1 : w.cell? ⟨p, 1, none⟩ = some (.int .i64 c.cl)
  c2 : w.cell? ⟨p, 2, none⟩ = some (.slice c.a c.ss.length c.cp)
  c3 : w.cell? ⟨p, 3, none⟩ = some (.int .i64 c.ca)
  c4 : w.cell? ⟨p, 4, none⟩ = some (.int .i64 c.pk)
  c5 : w.cell? ⟨p, 5, none⟩ = some (.int .u64 c.wi)
theorem BoxC.later {w w' : World} {p : Nat} {c : Cf} (h : BoxC w p c) (hb : Below w.heap.size w w') : BoxC w' p c := ⟨cell_later hb h.c0, cell_later hb h.c1, cell_later hb h.c2, cell_later hb h.c3, cell_later hb h.c4, cell_later hb h.c5⟩
theorem BoxC.new (w : World) (c : Cf) (t : TypeId) : BoxC (w.alloc (.cells #[.int .i64 c.sh, .int .i64 c.cl, .slice c.a c.ss.length c.cp, .int .i64 c.ca, .int .i64 c.pk, .int .u64 c.wi] t)) w.heap.size c := by
  constructor <;> simp [go_sem]

end Go.Proofs.YtfkiccdjffhhhaaGreatDoor.Rt
