import Derived.Test.YtcghbjdmncggaaaDoorRCutP
/- The program's small functions: is a configuration valid, whose is a key. -/
namespace Go.Proofs.YtcghbjdmncggaaaDoor.Rt
open Go.RowKit Go.Sort
set_option linter.unusedVariables false

/-- a row of texts -/
def RowS (w : World) (a : Option Addr) (ss : List ByteArray) : Prop := ∀ i, i < ss.length → ∃ b off, a = some ⟨b, off, none⟩ ∧ w.cell? ⟨b, off + i, none⟩ = some (.string (nthS ss i))
theorem RowS.later {w w' : World} {a : Option Addr} {ss : List ByteArray} (h : RowS w a ss) (hb : Below w.heap.size w w') : RowS w' a ss := fun i hi => by
  obtain ⟨b, off, e, h0⟩ := h i hi
  exact ⟨b, off, e, cell_later hb h0⟩
/-- a configuration, and where its split keys lie -/
structure Cf where
  sh : Int
  cl : Int
  a : Option Addr
  cp : Nat
  ss : List ByteArray
  ca : Int
  pk : Int
  wi : Int
abbrev Cf.val (c : Cf) : Value := .agg #[.int .i64 c.sh, .int .i64 c.cl, .slice c.a c.ss.length c.cp, .int .i64 c.ca, .int .i64 c.pk, .int .u64 c.wi]
def wiB (n l m : Int) : Bool := decide (l ≤ n) && decide (n ≤ m)
/-- is it valid? -/
def Cf.okB (c : Cf) : Bool := wiB c.sh 1 6 && wiB c.cl 1 6 && wiB c.ca 256 1048576 && wiB c.pk 0 16 && ((c.ss.length : Int) == c.sh - 1) && risB c.ss
/-- its numbers are numbers -/
structure Cf.Ok (c : Cf) (w : World) : Prop where
  row : RowS w c.a c.ss
  len : c.ss.length ≤ 9223372036854775807
  sh : -9223372036854775808 ≤ c.sh ∧ c.sh ≤ 9223372036854775807
theorem Cf.Ok.later {c : Cf} {w w' : World} (h : c.Ok w) (hb : Below w.heap.size w w') : c.Ok w' := ⟨h.row.later hb, h.len, h.sh⟩

theorem within_is {n l m : Int} {u : Bool} (hu : wiB n l m = u) (w : World) :
    Calls Tryd.prog 24 #[.int .i64 n, .int .i64 l, .int .i64 m] w fun e w' => e = .returned (.bool u) ∧ w' = w := by
  subst hu
  unfold wiB
  go_enter Tryd.func24, Tryd.ntmps24
  cases h1 : decide (l ≤ n)
  · go_wp2
    go_ret
    exact ⟨rfl, rfl⟩
  · go_wp2
    go_ret
    exact ⟨rfl, rfl⟩

set_option maxHeartbeats 4000000 in
theorem rising_is {a : Option Addr} {cp : Nat} {ss : List ByteArray} {w : World} (h : RowS w a ss) (hl : ss.length ≤ 9223372036854775807) {u : Bool} (hu : risB ss = u) :
    Calls Tryd.prog 25 #[.slice a ss.length cp] w fun e w' => e = .returned (.bool u) ∧ w' = w := by
  have H := hid h
  have HU := hid hu
  clear h hu
  go_enter Tryd.func25, Tryd.ntmps25
  go_wp2_with fail
  go_loopg [3, 8] ss.length (fun g s3 s8 wr => ∃ k : Nat, k ≤ ss.length ∧ g = ss.length - k ∧ s8 = .int .i64 k ∧ s3 = .string (prevS ss k) ∧ wr = w ∧ Hid (allB (fun i => keyOk (prevS ss i) (nthS ss i)) k = true))
  case atStart => exact ⟨0, by omega, by omega, rfl, rfl, rfl, hid rfl⟩
  case round =>
    obtain ⟨k, hk, rfl, rfl, rfl, rfl, HK⟩ := hrel
    by_cases hlt : k < ss.length
    · obtain ⟨b, off, rfl, c0⟩ := H.out k hlt
      obtain ⟨y, hy⟩ : ∃ y, y = nthS ss k := ⟨_, rfl⟩
      obtain ⟨p, hp⟩ : ∃ p, p = prevS ss k := ⟨_, rfl⟩
      rw [← hy] at c0
      rw [← hp]
      have HY : Hid (y = nthS ss k ∧ p = prevS ss k) := hid ⟨hy, hp⟩
      have hle : (Op.bytesLess y.toList p.toList || y.toList == p.toList) = !ltS p y := leq_less _ _
      clear hy hp
      cases h32 : decide (y.size ≤ 32)
      · have HF : Hid (risB ss = false) := hid (allB_no (k := k) (by rw [← HY.out.1, keyOk, h32, Bool.and_false]) _ hlt)
        have h32' : ¬ y.size ≤ 32 := by simpa using h32
        go_wp2_with fail
        go_ret
        exact ⟨ret_bool (by rw [← HU.out, HF.out]), rfl⟩
      · have h32' : y.size ≤ 32 := by simpa using h32
        cases hlp : ltS p y
        · have HF : Hid (risB ss = false) := hid (allB_no (k := k) (by rw [← HY.out.1, ← HY.out.2, keyOk, hlp, Bool.false_and]) _ hlt)
          rw [hlp, Bool.not_false] at hle
          go_wp2_with fail
          go_ret
          exact ⟨ret_bool (by rw [← HU.out, HF.out]), rfl⟩
        · rw [hlp, Bool.not_true] at hle
          go_wp2_with fail
          go_roundg (ss.length - (k + 1))
          case measure => omega
          case rel => exact ⟨k + 1, by omega, rfl, by go_num, by rw [HY.out.1]; simp [prevS], rfl, hid (allB_yes HK.out (by rw [← HY.out.1, ← HY.out.2, keyOk, hlp, h32]; rfl))⟩
    · obtain rfl : k = ss.length := by omega
      go_wp2_with fail
      go_ret
      exact ⟨ret_bool (by rw [← HU.out, risB, HK.out]), rfl⟩

set_option maxHeartbeats 4000000 in
theorem mayBe_is {c : Cf} {w : World} (h : c.Ok w) {u : Bool} (hu : c.okB = u) :
    Calls Tryd.prog 17 #[c.val] w fun e w' => e = .returned (.bool u) ∧ Below w.heap.size w w' := by
  have H := hid h
  have hs := h.sh
  have hl := h.len
  subst hu
  clear h
  obtain ⟨sh, cl, a, cp, ss, ca, pk, wi⟩ := c
  simp only at hs hl
  go_enter Tryd.func17, Tryd.ntmps17
  go_wp2_with fail
  refine (within_is rfl _).mono ?_
  rintro e w1 ⟨rfl, rfl⟩
  cases h1 : wiB sh 1 6
  · go_wp2_with fail
    go_ret
    exact ⟨ret_bool (by simp [Cf.okB, h1]), by (repeat (first | exact Below.refl _ _ | assumption | refine Below.drew ?_ | refine Below.al ?_ _ | refine Below.setCell ?_ (by first | exact Nat.le_refl _ | (simp; omega) | (simp; done)) _ | refine Below.on ?_ (by assumption)))⟩
  · go_wp2_with fail
    refine (within_is rfl _).mono ?_
    rintro e w2 ⟨rfl, rfl⟩
    cases h2 : wiB cl 1 6
    · go_wp2_with fail
      go_ret
      exact ⟨ret_bool (by simp [Cf.okB, h1, h2]), by (repeat (first | exact Below.refl _ _ | assumption | refine Below.drew ?_ | refine Below.al ?_ _ | refine Below.setCell ?_ (by first | exact Nat.le_refl _ | (simp; omega) | (simp; done)) _ | refine Below.on ?_ (by assumption)))⟩
    · go_wp2_with fail
      refine (within_is rfl _).mono ?_
      rintro e w3 ⟨rfl, rfl⟩
      cases h3 : wiB ca 256 1048576
      · go_wp2_with fail
        go_ret
        exact ⟨ret_bool (by simp [Cf.okB, h1, h2, h3]), by (repeat (first | exact Below.refl _ _ | assumption | refine Below.drew ?_ | refine Below.al ?_ _ | refine Below.setCell ?_ (by first | exact Nat.le_refl _ | (simp; omega) | (simp; done)) _ | refine Below.on ?_ (by assumption)))⟩
      · go_wp2_with fail
        refine (within_is rfl _).mono ?_
        rintro e w4 ⟨rfl, rfl⟩
        cases h4 : wiB pk 0 16
        · go_wp2_with fail
          go_ret
          exact ⟨ret_bool (by simp [Cf.okB, h1, h2, h3, h4]), by (repeat (first | exact Below.refl _ _ | assumption | refine Below.drew ?_ | refine Below.al ?_ _ | refine Below.setCell ?_ (by first | exact Nat.le_refl _ | (simp; omega) | (simp; done)) _ | refine Below.on ?_ (by assumption)))⟩
        · have hsh : 1 ≤ sh ∧ sh ≤ 6 := by simpa [wiB] using h1
          by_cases h5 : (ss.length : Int) = sh - 1
          · have h5' : ((ss.length : Int) == sh - 1) = true := by simpa using h5
            go_wp2_with fail
            refine (rising_is (H.out.row.later (by (repeat (first | exact Below.refl _ _ | assumption | refine Below.drew ?_ | refine Below.al ?_ _ | refine Below.setCell ?_ (by first | exact Nat.le_refl _ | (simp; omega) | (simp; done)) _ | refine Below.on ?_ (by assumption))))) hl rfl).mono ?_
            rintro e w5 ⟨rfl, rfl⟩
            go_wp2_with fail
            go_ret
            exact ⟨ret_bool (by simp [Cf.okB, h1, h2, h3, h4, h5']), by (repeat (first | exact Below.refl _ _ | assumption | refine Below.drew ?_ | refine Below.al ?_ _ | refine Below.setCell ?_ (by first | exact Nat.le_refl _ | (simp; omega) | (simp; done)) _ | refine Below.on ?_ (by assumption)))⟩
          · have h5' : ((ss.length : Int) == sh - 1) = false := by simpa using h5
            go_wp2_with fail
            go_ret
            exact ⟨ret_bool (by simp [Cf.okB, h1, h2, h3, h4, h5']), by (repeat (first | exact Below.refl _ _ | assumption | refine Below.drew ?_ | refine Below.al ?_ _ | refine Below.setCell ?_ (by first | exact Nat.le_refl _ | (simp; omega) | (simp; done)) _ | refine Below.on ?_ (by assumption)))⟩

set_option maxHeartbeats 4000000 in
theorem owner_is {c : Cf} {w : World} (h : c.Ok w) (hl : c.ss.length ≤ 5) (k : ByteArray) :
    Calls Tryd.prog 18 #[c.val, .string k] w fun e w' => e = .returned (.int .u32 (ownN c.ss k : Int)) ∧ Below w.heap.size w w' := by
  have H := hid h.row
  clear h
  obtain ⟨sh, cl, a, cp, ss, ca, pk, wi⟩ := c
  simp only at hl
  go_enter Tryd.func18, Tryd.ntmps18
  go_wp2_with fail
  go_loopg [5, 11] ss.length (fun g s5 s11 wr => ∃ n : Nat, n ≤ ss.length ∧ g = ss.length - n ∧ s11 = .int .i64 n ∧ s5 = .int .u32 (cntS ss k n : Int) ∧ Hid (Below w.heap.size w wr))
  case atStart => exact ⟨0, by omega, by omega, rfl, rfl, hid (by (repeat (first | exact Below.refl _ _ | assumption | refine Below.drew ?_ | refine Below.al ?_ _ | refine Below.setCell ?_ (by first | exact Nat.le_refl _ | (simp; omega) | (simp; done)) _ | refine Below.on ?_ (by assumption))))⟩
  case round =>
    obtain ⟨n, hn, rfl, rfl, rfl, HK⟩ := hrel
    have hcl := cnt_le ss k n
    by_cases hlt : n < ss.length
    · obtain ⟨b, off, rfl, c0⟩ := (H.out.later HK.out) n hlt
      obtain ⟨m, hm⟩ : ∃ m, m = cntS ss k n := ⟨_, rfl⟩
      rw [← hm] at hcl
      rw [← hm]
      obtain ⟨y, hy⟩ : ∃ y, y = nthS ss n := ⟨_, rfl⟩
      rw [← hy] at c0
      have HC : Hid (cntS ss k (n + 1) = m + if ltS k y then 0 else 1) := hid (by rw [cntS, hm, hy])
      have hle : (Op.bytesLess y.toList k.toList || y.toList == k.toList) = !ltS k y := leq_less _ _
      clear hm hy
      cases hlp : ltS k y
      · rw [hlp, Bool.not_false] at hle
        rw [hlp] at HC
        go_wp2_with fail
        go_roundg (ss.length - (n + 1))
        case measure => omega
        case rel => exact ⟨n + 1, by omega, rfl, by go_num, by rw [HC.out]; go_num, HK⟩
      · rw [hlp, Bool.not_true] at hle
        rw [hlp] at HC
        go_wp2_with fail
        go_roundg (ss.length - (n + 1))
        case measure => omega
        case rel => exact ⟨n + 1, by omega, rfl, by go_num, by rw [HC.out]; go_num, HK⟩
    · obtain rfl : n = ss.length := by omega
      go_wp2_with fail
      go_ret
      exact ⟨rfl, HK.out⟩

theorem ok_len {c : Cf} (h : c.okB = true) : c.ss.length ≤ 5 ∧ c.sh = c.ss.length + 1 ∧ risB c.ss = true := by
  simp only [Cf.okB, wiB, Bool.and_eq_true, decide_eq_true_eq, beq_iff_eq] at h
  refine ⟨by omega, by omega, h.2⟩
/-- what Owner answers -/
def Cf.own (c : Cf) (k : ByteArray) : Nat := if c.okB then ownN c.ss k else 0
/-- a configuration in a box -/
structure BoxC (w : World) (p : Nat) (c : Cf) : Prop where
  c0 : w.cell? ⟨p, 0, none⟩ = some (.int .i64 c.sh)
  c1 : w.cell? ⟨p, 1, none⟩ = some (.int .i64 c.cl)
  c2 : w.cell? ⟨p, 2, none⟩ = some (.slice c.a c.ss.length c.cp)
  c3 : w.cell? ⟨p, 3, none⟩ = some (.int .i64 c.ca)
  c4 : w.cell? ⟨p, 4, none⟩ = some (.int .i64 c.pk)
  c5 : w.cell? ⟨p, 5, none⟩ = some (.int .u64 c.wi)
theorem BoxC.later {w w' : World} {p : Nat} {c : Cf} (h : BoxC w p c) (hb : Below w.heap.size w w') : BoxC w' p c := ⟨cell_later hb h.c0, cell_later hb h.c1, cell_later hb h.c2, cell_later hb h.c3, cell_later hb h.c4, cell_later hb h.c5⟩
theorem BoxC.new (w : World) (c : Cf) (t : TypeId) : BoxC (w.alloc (.cells #[.int .i64 c.sh, .int .i64 c.cl, .slice c.a c.ss.length c.cp, .int .i64 c.ca, .int .i64 c.pk, .int .u64 c.wi] t)) w.heap.size c := by
  constructor <;> simp [go_sem]

theorem Owner_is {c : Cf} {w : World} (h : c.Ok w) (k : ByteArray) :
    Calls Tryd.prog 6 #[c.val, .string k] w fun e w' => e = .returned (.int .u32 (c.own k : Int)) ∧ Below w.heap.size w w' := by
  have H := hid h
  clear h
  have HU : Hid (c.own k = if c.okB then ownN c.ss k else 0) := hid rfl
  have HB := hid (BoxC.new w c 25)
  go_enter Tryd.func6, Tryd.ntmps6
  go_wp2_with fail
  refine (mayBe_is (H.out.later (by (repeat (first | exact Below.refl _ _ | assumption | refine Below.drew ?_ | refine Below.al ?_ _ | refine Below.setCell ?_ (by first | exact Nat.le_refl _ | (simp; omega) | (simp; done)) _ | refine Below.on ?_ (by assumption))))) rfl).mono ?_
  rintro e w1 ⟨rfl, hw1⟩
  obtain ⟨c0, c1, c2, c3, c4, c5⟩ := HB.out.later hw1
  have HW : Hid (Below w.heap.size w w1) := hid (by (repeat (first | exact Below.refl _ _ | assumption | refine Below.drew ?_ | refine Below.al ?_ _ | refine Below.setCell ?_ (by first | exact Nat.le_refl _ | (simp; omega) | (simp; done)) _ | refine Below.on ?_ (by assumption))))
  clear hw1 HB
  cases ho : c.okB
  · go_wp2_with fail
    go_ret
    exact ⟨by rw [HU.out, ho]; rfl, HW.out⟩
  · go_wp2_with fail
    refine (owner_is (H.out.later HW.out) (ok_len ho).1 k).mono ?_
    rintro e w2 ⟨rfl, hw2⟩
    go_wp2_with fail
    go_ret
    exact ⟨by rw [HU.out, ho]; rfl, Below.on HW.out hw2⟩

theorem in_is {k : ByteArray} {s : T2} {u : Bool} (hu : insB k s = u) (w : World) :
    Calls Tryd.prog 10 #[.string k, .agg #[.string s.1, .string s.2]] w fun e w' => e = .returned (.bool u) ∧ Below w.heap.size w w' := by
  subst hu
  obtain ⟨lo, hi⟩ := s
  have hle : (Op.bytesLess lo.toList k.toList || lo.toList == k.toList) = !ltS k lo := leq_less _ _
  go_enter Tryd.func10, Tryd.ntmps10
  cases h1 : ltS k lo
  · rw [h1, Bool.not_false] at hle
    cases h2 : emS hi
    · have h2' : hi.toList.isEmpty = false := h2
      go_wp2_with fail
      go_ret
      exact ⟨ret_bool (by simp [insB, h1, h2]; rfl), by (repeat (first | exact Below.refl _ _ | assumption | refine Below.drew ?_ | refine Below.al ?_ _ | refine Below.setCell ?_ (by first | exact Nat.le_refl _ | (simp; omega) | (simp; done)) _ | refine Below.on ?_ (by assumption)))⟩
    · have h2' : hi.toList.isEmpty = true := h2
      go_wp2_with fail
      go_ret
      exact ⟨ret_bool (by simp [insB, h1, h2]), by (repeat (first | exact Below.refl _ _ | assumption | refine Below.drew ?_ | refine Below.al ?_ _ | refine Below.setCell ?_ (by first | exact Nat.le_refl _ | (simp; omega) | (simp; done)) _ | refine Below.on ?_ (by assumption)))⟩
  · rw [h1, Bool.not_true] at hle
    go_wp2_with fail
    go_ret
    exact ⟨ret_bool (by simp [insB, h1]), by (repeat (first | exact Below.refl _ _ | assumption | refine Below.drew ?_ | refine Below.al ?_ _ | refine Below.setCell ?_ (by first | exact Nat.le_refl _ | (simp; omega) | (simp; done)) _ | refine Below.on ?_ (by assumption)))⟩

theorem lesser_is (x y : ByteArray) (w : World) :
    Calls Tryd.prog 30 #[.string x, .string y] w fun e w' => e = .returned (.string (lesH x y)) ∧ Below w.heap.size w w' := by
  have HL : Hid (lesH x y = if emS x || (!emS y && ltS y x) then y else x) := hid rfl
  go_enter Tryd.func30, Tryd.ntmps30
  cases h1 : emS x
  · have h1' : x.toList.isEmpty = false := h1
    cases h2 : emS y
    · have h2' : y.toList.isEmpty = false := h2
      cases h3 : ltS y x
      · have h3' : Op.bytesLess y.toList x.toList = false := h3
        go_wp2_with fail
        go_ret
        exact ⟨by rw [HL.out, h1, h2, h3]; rfl, Below.refl _ _⟩
      · have h3' : Op.bytesLess y.toList x.toList = true := h3
        go_wp2_with fail
        go_ret
        exact ⟨by rw [HL.out, h1, h2, h3]; rfl, Below.refl _ _⟩
    · have h2' : y.toList.isEmpty = true := h2
      go_wp2_with fail
      go_ret
      exact ⟨by rw [HL.out, h1, h2]; rfl, Below.refl _ _⟩
  · have h1' : x.toList.isEmpty = true := h1
    go_wp2_with fail
    go_ret
    exact ⟨by rw [HL.out, h1]; rfl, Below.refl _ _⟩

end Go.Proofs.YtcghbjdmncggaaaDoor.Rt
