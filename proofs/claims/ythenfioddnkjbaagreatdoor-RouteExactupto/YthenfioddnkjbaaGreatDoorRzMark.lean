import Derived.Test.YthenfioddnkjbaaGreatDoorRWordP
import Derived.Laws.Strings
import Derived.Handy
import Derived.Test.YthenfioddnkjbaaGreatDoorRMay
import Derived.Lib.QuietBelow
import Derived.BigQuiet
import Derived.Test.YthenfioddnkjbaaGreatDoorRRoom
/- Word, as the program writes it. -/
namespace Go.Proofs.YthenfioddnkjbaaGreatDoor.Rt
open Go.RowKit Go.Sort
set_option linter.unusedVariables false

theorem ret_bool {x u : Bool} (h : x = u) : Ending.returned (.bool x) = Ending.returned (.bool u) := h ▸ rfl
theorem ofNats_get' {l : List Nat} (h : B8 l) (i : Nat) (hi : i < (ofNats l).size) : ((ofNats l)[i]'hi).toNat = l.getD i 0 := by
  have hl : i < l.length := by rw [ofNats_size] at hi; exact hi
  have e : (ofNats l)[i]'hi = UInt8.ofNat l[i] := by
    show (ofNats l).data[i]'_ = _
    simp [ofNats]
  have h2 : l.getD i 0 = l[i] := by simp [List.getD, hl]
  rw [e, UInt8.toNat_ofNat', h2]
  have := h _ (List.getElem_mem hl)
  omega
/-- a text's byte -/
theorem index_ofNats {t : List Nat} {k c : Nat} (ht : B8 t) (hc : t[k]? = some c) (w : World) : (Instr.index 9 (.string (ofNats t)) (.int .i64 (k : Int))).run Tryz.prog w = .ok (.int .u8 (c : Int)) w := by
  have hk : k < t.length := (List.getElem?_eq_some_iff.1 hc).1
  have hd : t.getD k 0 = c := by simp [List.getD, hc]
  rw [run_index_string w 9 (ofNats t) .i64 k Tryz.underlying9, dif_pos (by rw [ofNats_size]; omega)]
  have := ofNats_get' ht k (by rw [ofNats_size]; exact hk)
  rw [hd] at this
  simp [this]

set_option maxHeartbeats 1000000 in
theorem plain_is {b : Nat} (hb : b < 256) {u : Bool} (hu : plB b = u) (w : World) :
    Calls Tryz.prog 69 #[.int .u8 (b : Int)] w fun e w' => e = .returned (.bool u) ∧ w' = w := by
  subst hu
  have e1 : decide ((33 : Int) ≤ (b : Int)) = decide (33 ≤ b) := by rw [decide_eq_decide]; omega
  have e2 : decide ((b : Int) ≤ 126) = decide (b ≤ 126) := by rw [decide_eq_decide]; omega
  have e3 : ((b : Int) == 37) = decide (b = 37) := by rw [Bool.eq_iff_iff]; simp; omega
  go_enter Tryz.func69, Tryz.ntmps69
  cases h1 : decide (33 ≤ b)
  · go_wp2
    go_ret
    exact ⟨ret_bool (by simp [plB, h1]), rfl⟩
  · cases h2 : decide (b ≤ 126)
    · go_wp2
      go_ret
      exact ⟨ret_bool (by simp [plB, h1, h2]), rfl⟩
    · go_wp2
      go_ret
      exact ⟨ret_bool (by simp [plB, h1, h2, bne, e3]), rfl⟩

/-- the hex digits -/
def hexS : ByteArray := ⟨#[48, 49, 50, 51, 52, 53, 54, 55, 56, 57, 97, 98, 99, 100, 101, 102]⟩
def hexL : List Nat := [48, 49, 50, 51, 52, 53, 54, 55, 56, 57, 97, 98, 99, 100, 101, 102]
theorem hexL_eq : ofNats hexL = hexS := rfl
theorem hexL_b8 : B8 hexL := by intro b hb; simp [hexL] at hb; omega
theorem hexL_fin : ∀ n : Fin 16, hexL[n.val]? = some (hx n.val) := by decide
theorem hexL_get {n : Nat} (h : n < 16) : hexL[n]? = some (hx n) := hexL_fin ⟨n, h⟩
theorem hexAt (n : Nat) (h : n < 16) (hi : n < (ByteArray.mk #[48, 49, 50, 51, 52, 53, 54, 55, 56, 57, 97, 98, 99, 100, 101, 102]).size) : ((ByteArray.mk #[48, 49, 50, 51, 52, 53, 54, 55, 56, 57, 97, 98, 99, 100, 101, 102])[n]'hi).toNat = hx n := by
  have h2 := ofNats_get' hexL_b8 n (by rw [ofNats_size]; simp [hexL]; omega)
  simp only [List.getD, hexL_get h, Option.getD_some] at h2
  exact h2
theorem and15_fin : ∀ x : Fin 256, bits .and .u8 ((x.val : Nat) : Int) 15 = ((x.val % 16 : Nat) : Int) := by decide +kernel
theorem and15 {x : Nat} (h : x < 256) : bits .and .u8 (x : Int) 15 = ((x % 16 : Nat) : Int) := and15_fin ⟨x, h⟩

set_option maxHeartbeats 4000000 in
theorem word_is {l : List Nat} (h8 : B8 l) (hl : 3 * l.length + 1 ≤ 140737488355328) (w : World) :
    Calls Tryz.prog 22 #[.string (ofNats l)] w fun e w' => e = .returned (.string (ofNats (wordL l))) ∧ Below w.heap.size w w' := by
  have H8 := hid h8
  have hsz : (ofNats l).size = l.length := ofNats_size l
  clear h8
  by_cases h0 : l = []
  · subst h0
    have hne : (ofNats []).toList.isEmpty = true := by simp [ofNats, ByteArray.toList_eq]
    go_enter Tryz.func22, Tryz.ntmps22
    go_wp2
    go_ret
    exact ⟨rfl, Below.refl _ _⟩
  · have hne : (ofNats l).toList.isEmpty = false := by
      cases l with
      | nil => exact absurd rfl h0
      | cons a l => simp [ofNats, ByteArray.toList_eq]
    have H0 := hid h0
    have HN := Bld.new w
    have HB := hid HN
    clear h0 HN
    go_enter Tryz.func22, Tryz.ntmps22
    go_wp2_with fail
    go_loopg [10] l.length (fun g s10 wr => ∃ k : Nat, k ≤ l.length ∧ g = l.length - k ∧ s10 = .int .i64 k ∧ Hid (Bld w wr w.heap.size (wbs (l.take k))))
    case atStart => exact ⟨0, by omega, by omega, rfl, HB⟩
    case round =>
      obtain ⟨k, hk, rfl, rfl, HK⟩ := hrel
      clear HB
      by_cases hlt : k < l.length
      · have hc : l[k]? = some l[k] := List.getElem?_eq_getElem hlt
        obtain ⟨c, hc'⟩ : ∃ c, c = l[k] := ⟨_, rfl⟩
        rw [← hc'] at hc
        have hc8 : c < 256 := H8.out c (by rw [hc']; exact List.getElem_mem hlt)
        have hix : ∀ w, (Instr.index 9 (.string (ofNats l)) (.int .i64 (k : Int))).run Tryz.prog w = .ok (.int .u8 (c : Int)) w := fun w => index_ofNats H8.out hc w
        have HT : Hid (wbs (l.take (k + 1)) = wbs (l.take k) ++ wb c) := hid (by rw [List.take_succ_eq_append_getElem hlt, ← hc']; simp [wbs])
        have HL : Hid ((wbs (l.take k)).length + 3 ≤ 140737488355328) := hid (by have := (wbs_len (l.take k)).2; rw [List.length_take] at this; omega)
        clear hc hc'
        go_wp2_with fail
        refine (plain_is hc8 rfl _).mono ?_
        rintro e w1 ⟨rfl, rfl⟩
        cases hp : plB c
        · have ha := and15 hc8
          have hx1 : hx (c / 16) < 256 := by have := (hx_plain (show c / 16 < 16 by omega)).2; omega
          have hx2 : hx (c % 16) < 256 := by have := (hx_plain (show c % 16 < 16 by omega)).2; omega
          go_wp2_with fail
          refine (add_is (c := 37) HK.out (by decide) (by have := HL.out; omega)).mono ?_
          rintro e w2 ⟨rfl, hw2⟩
          have HW2 := hid hw2
          clear hw2
          go_wp2_with fail
          rw [hexAt _ (by omega)]
          refine (add_is HW2.out hx1 (by have := HL.out; simp; omega)).mono ?_
          rintro e w3 ⟨rfl, hw3⟩
          have HW3 := hid hw3
          clear hw3
          go_wp2_with fail
          rw [hexAt _ (by omega)]
          refine (add_is HW3.out hx2 (by have := HL.out; simp; omega)).mono ?_
          rintro e w4 ⟨rfl, hw4⟩
          have HW := hid hw4
          clear hw4
          go_wp2_with fail
          go_roundg (l.length - (k + 1))
          case measure => omega
          case rel => exact ⟨k + 1, by omega, rfl, by go_num, hid (by rw [HT.out, wb, hp]; simpa using HW.out)⟩
        · go_wp2_with fail
          refine (add_is HK.out hc8 (by have := HL.out; omega)).mono ?_
          rintro e w2 ⟨rfl, hw2⟩
          have HW := hid hw2
          clear hw2
          go_wp2_with fail
          go_roundg (l.length - (k + 1))
          case measure => omega
          case rel => exact ⟨k + 1, by omega, rfl, by go_num, hid (by rw [HT.out, wb, hp]; exact HW.out)⟩
      · obtain rfl : k = l.length := by omega
        go_wp2_with fail
        refine (text_is HK.out).mono ?_
        rintro e w2 ⟨rfl, hw2⟩
        go_wp2_with fail
        go_ret
        have e : wbs l = wordL l := by rw [wordL, if_neg H0.out]
        exact ⟨by rw [← e]; rfl, hw2⟩

end Go.Proofs.YthenfioddnkjbaaGreatDoor.Rt
/- A configuration's text, as the program writes it. -/
namespace Go.Proofs.YthenfioddnkjbaaGreatDoor.Rt
open Go.RowKit Go.Sort
set_option linter.unusedVariables false

/-- a line -/
def lineB (n t : ByteArray) : ByteArray := n ++ ⟨#[32]⟩ ++ t ++ ⟨#[10]⟩
theorem lineB_size (n t : ByteArray) : (lineB n t).size = n.size + t.size + 2 := by
  simp [lineB, ByteArray.size_append]
  show n.size + 1 + t.size + 1 = _
  omega
theorem line_is {n t : ByteArray} (hn : n.size ≤ 100) (ht : t.size ≤ 1000) (w : World) :
    Calls Tryz.prog 65 #[.string n, .string t] w fun e w' => e = .returned (.string (lineB n t)) ∧ Below w.heap.size w w' := by
  go_enter Tryz.func65, Tryz.ntmps65
  go_wp2_with fail
  go_ret
  exact ⟨rfl, Below.refl _ _⟩

/-- a number's digits -/
def itB (i : Int) : ByteArray := ⟨(Lib.itoa i).toArray⟩
theorem itoa_is (i : Int) (h0 : -1 ≤ i) (hi : i ≤ 4611686018427387904) (w : World) (ht : PowTab w) :
    Calls Tryz.prog 66 #[.int .i64 i] w fun e w' => e = .returned (.string (itB i)) ∧ Below w.heap.size w w' := by
  refine (Tryz.strconv_Itoa i (by omega) (by omega) w ht).mono ?_
  rintro e w' ⟨rfl, k, os, rfl⟩
  exact ⟨rfl, rfl, rfl, rfl, by simp [grow], fun j hj => by simp [grow, Array.getElem?_append, hj]⟩
theorem itB_size (i : Int) (h0 : -1 ≤ i) (hi : i ≤ 4611686018427387904) : (itB i).size ≤ 40 := by
  show (Lib.itoa i).length ≤ 40
  unfold Lib.itoa
  by_cases h : i < 0
  · rw [if_pos h, List.length_cons, Lib.decDigits_length]
    have := Lib.nDigits_le20 i.natAbs (by omega)
    omega
  · rw [if_neg h, Lib.decDigits_length]
    have := Lib.nDigits_le20 i.toNat (by omega)
    omega
theorem dec_size (n : Nat) (h : n < 18446744073709551616) : (dec n).size ≤ 20 := by
  show (Lib.decDigits n).length ≤ 20
  rw [Lib.decDigits_length]
  exact Lib.nDigits_le20 n h

/-- the five lines of numbers -/
def Cf.head (c : Cf) : ByteArray := lineB ⟨#[115, 104, 97, 114, 100, 115]⟩ (itB c.sh) ++ lineB ⟨#[99, 108, 105, 101, 110, 116, 115]⟩ (itB c.cl) ++ lineB ⟨#[99, 97, 112, 97, 99, 105, 116, 121]⟩ (itB c.ca) ++ lineB ⟨#[112, 97, 114, 107]⟩ (itB c.pk) ++ lineB ⟨#[119, 105, 110, 100, 111, 119]⟩ (dec c.wi.toNat)
/-- the split keys' lines -/
def spl : List ByteArray → ByteArray → ByteArray
  | [], t => t
  | s :: ss, t => spl ss (t ++ lineB ⟨#[115, 112, 108, 105, 116]⟩ (ofNats (wordL (nums s))))
/-- the text -/
def Cf.text (c : Cf) : ByteArray := spl c.ss c.head
/-- what Text answers -/
def Cf.said (c : Cf) : Value := if c.okB then .tuple #[.string c.text, .int .i64 0] else .tuple #[.string ⟨#[]⟩, .int .i64 1]
theorem said_no {c : Cf} (h : c.okB = false) : c.said = .tuple #[.string ⟨#[]⟩, .int .i64 1] := by simp [Cf.said, h]
theorem said_ok {c : Cf} (h : c.okB = true) : c.said = .tuple #[.string c.text, .int .i64 0] := by simp [Cf.said, h]
theorem spl_snoc (ss : List ByteArray) (s t : ByteArray) : spl (ss ++ [s]) t = spl ss t ++ lineB ⟨#[115, 112, 108, 105, 116]⟩ (ofNats (wordL (nums s))) := by
  induction ss generalizing t with
  | nil => rfl
  | cons a ss ih => exact ih _
theorem ok_nums {c : Cf} (h : c.okB = true) : (1 ≤ c.sh ∧ c.sh ≤ 6) ∧ (1 ≤ c.cl ∧ c.cl ≤ 6) ∧ (256 ≤ c.ca ∧ c.ca ≤ 1048576) ∧ (0 ≤ c.pk ∧ c.pk ≤ 16) := by
  simp only [Cf.okB, wiB, Bool.and_eq_true, decide_eq_true_eq, beq_iff_eq] at h
  refine ⟨by omega, by omega, by omega, by omega⟩
theorem key_size {ss : List ByteArray} (h : risB ss = true) {k : Nat} (hk : k < ss.length) : (nthS ss k).size ≤ 32 := by
  have := allB_all h k hk
  simp only [keyOk, Bool.and_eq_true, decide_eq_true_eq] at this
  exact this.2

set_option maxRecDepth 100000 in
set_option maxHeartbeats 8000000 in
theorem Text_is {c : Cf} {w : World} (h : c.Ok w) (hw : 0 ≤ c.wi ∧ c.wi ≤ 18446744073709551615) (ht : PowTab w) :
    Calls Tryz.prog 18 #[c.val] w fun e w' => e = .returned c.said ∧ Below w.heap.size w w' := by
  have H := hid h
  have HT := hid ht
  have HB : Hid (BoxC (w.alloc (.cells #[.int .i64 c.sh, .int .i64 c.cl, .slice c.a c.ss.length c.cp, .int .i64 c.ca, .int .i64 c.pk, .int .u64 c.wi] 26)) w.heap.size c) := hid (BoxC.new w c _)
  clear h ht
  go_enter Tryz.func18, Tryz.ntmps18
  go_wp2_with fail
  refine (mayBe_is (H.out.later (by (repeat (first | exact Below.refl _ _ | assumption | refine Below.drew ?_ | refine Below.al ?_ _ | refine Below.setCell ?_ (by first | exact Nat.le_refl _ | (simp; omega) | (simp; done)) _ | refine Below.on ?_ (by assumption))))) rfl).mono ?_
  rintro e w1 ⟨rfl, hw1⟩
  have HC := hid (HB.out.later hw1)
  have HW : Hid (Below w.heap.size w w1) := hid (by (repeat (first | exact Below.refl _ _ | assumption | refine Below.drew ?_ | refine Below.al ?_ _ | refine Below.setCell ?_ (by first | exact Nat.le_refl _ | (simp; omega) | (simp; done)) _ | refine Below.on ?_ (by assumption))))
  clear hw1 HB
  cases ho : c.okB
  · have HS := hid (said_no ho)
    go_wp2_with fail
    refine bodyPost_ret (v := .tuple #[.string ⟨#[]⟩, .int .i64 1]) (by simp [results, Tryz.results18, go_sem]) rfl ?_
    exact ⟨by rw [HS.out], HW.out⟩
  · obtain ⟨n0, n1, n2, n3⟩ := ok_nums ho
    obtain ⟨l5, ls, lr⟩ := ok_len ho
    have HLR := hid lr
    have HLS := hid ls
    have HS := hid (said_ok ho)
    clear lr ls
    obtain ⟨c0, c1, c2, c3, c4, c5⟩ := HC.out
    have k0 := cell_regrown c0; have k1 := cell_regrown c1; have k3 := cell_regrown c3; have k4 := cell_regrown c4; have k5 := cell_regrown c5
    have CT : Hid (∀ wz, Below w1.heap.size w1 wz → PowTab wz) := hid fun wz hb => HT.out.later (Below.on HW.out hb)
    have z0 := itB_size c.sh (by omega) (by omega)
    have z1 := itB_size c.cl (by omega) (by omega)
    have z2 := itB_size c.ca (by omega) (by omega)
    have z3 := itB_size c.pk (by omega) (by omega)
    have z4 := dec_size c.wi.toNat (by omega)
    have C0 : Hid (∀ wz, Below w1.heap.size w1 wz → _) := hid fun wz hb => itoa_is c.sh (by omega) (by omega) wz (CT.out wz hb)
    have C1 : Hid (∀ wz, Below w1.heap.size w1 wz → _) := hid fun wz hb => itoa_is c.cl (by omega) (by omega) wz (CT.out wz hb)
    have C2 : Hid (∀ wz, Below w1.heap.size w1 wz → _) := hid fun wz hb => itoa_is c.ca (by omega) (by omega) wz (CT.out wz hb)
    have C3 : Hid (∀ wz, Below w1.heap.size w1 wz → _) := hid fun wz hb => itoa_is c.pk (by omega) (by omega) wz (CT.out wz hb)
    have C4 : Hid (∀ wz, Below w1.heap.size w1 wz → _) := hid fun wz hb => fmt_any c.wi.toNat (by omega) wz (CT.out wz hb)
    rw [show ((c.wi.toNat : Nat) : Int) = c.wi by omega] at C4
    have HD : Hid (c.head = lineB ⟨#[115, 104, 97, 114, 100, 115]⟩ (itB c.sh) ++ lineB ⟨#[99, 108, 105, 101, 110, 116, 115]⟩ (itB c.cl) ++ lineB ⟨#[99, 97, 112, 97, 99, 105, 116, 121]⟩ (itB c.ca) ++ lineB ⟨#[112, 97, 114, 107]⟩ (itB c.pk) ++ lineB ⟨#[119, 105, 110, 100, 111, 119]⟩ (dec c.wi.toNat)) := hid rfl
    generalize itB c.sh = t0 at C0 z0 HD
    generalize itB c.cl = t1 at C1 z1 HD
    generalize itB c.ca = t2 at C2 z2 HD
    generalize itB c.pk = t3 at C3 z3 HD
    generalize dec c.wi.toNat = t4 at C4 z4 HD
    have D0 := fun wz => line_is (n := ⟨#[115, 104, 97, 114, 100, 115]⟩) (t := t0) (by decide) (by omega) wz
    have D1 := fun wz => line_is (n := ⟨#[99, 108, 105, 101, 110, 116, 115]⟩) (t := t1) (by decide) (by omega) wz
    have D2 := fun wz => line_is (n := ⟨#[99, 97, 112, 97, 99, 105, 116, 121]⟩) (t := t2) (by decide) (by omega) wz
    have D3 := fun wz => line_is (n := ⟨#[112, 97, 114, 107]⟩) (t := t3) (by decide) (by omega) wz
    have D4 := fun wz => line_is (n := ⟨#[119, 105, 110, 100, 111, 119]⟩) (t := t4) (by decide) (by omega) wz
    have s0 := lineB_size ⟨#[115, 104, 97, 114, 100, 115]⟩ t0
    have s1 := lineB_size ⟨#[99, 108, 105, 101, 110, 116, 115]⟩ t1
    have s2 := lineB_size ⟨#[99, 97, 112, 97, 99, 105, 116, 121]⟩ t2
    have s3 := lineB_size ⟨#[112, 97, 114, 107]⟩ t3
    have s4 := lineB_size ⟨#[119, 105, 110, 100, 111, 119]⟩ t4
    generalize lineB ⟨#[115, 104, 97, 114, 100, 115]⟩ t0 = u0 at D0 s0 HD
    generalize lineB ⟨#[99, 108, 105, 101, 110, 116, 115]⟩ t1 = u1 at D1 s1 HD
    generalize lineB ⟨#[99, 97, 112, 97, 99, 105, 116, 121]⟩ t2 = u2 at D2 s2 HD
    generalize lineB ⟨#[112, 97, 114, 107]⟩ t3 = u3 at D3 s3 HD
    generalize lineB ⟨#[119, 105, 110, 100, 111, 119]⟩ t4 = u4 at D4 s4 HD
    have D0 := hid D0; have D1 := hid D1; have D2 := hid D2; have D3 := hid D3; have D4 := hid D4
    have q0 : u0.size ≤ 100 := by rw [s0]; show 6 + _ + _ ≤ _; omega
    have q1 : u1.size ≤ 100 := by rw [s1]; show 7 + _ + _ ≤ _; omega
    have q2 : u2.size ≤ 100 := by rw [s2]; show 8 + _ + _ ≤ _; omega
    have q3 : u3.size ≤ 100 := by rw [s3]; show 4 + _ + _ ≤ _; omega
    have q4 : u4.size ≤ 100 := by rw [s4]; show 6 + _ + _ ≤ _; omega
    clear s0 s1 s2 s3 s4 z0 z1 z2 z3 z4
    have HCx : Hid (c.text = spl c.ss c.head) := hid rfl
    rw [HD.out] at HCx
    have g1 : (9223372036854775807 < u0.size + u1.size) = False := eq_false (by omega)
    have g2 : (9223372036854775807 < u0.size + u1.size + u2.size) = False := eq_false (by omega)
    have g3 : (9223372036854775807 < u0.size + u1.size + u2.size + u3.size) = False := eq_false (by omega)
    have g4 : (9223372036854775807 < u0.size + u1.size + u2.size + u3.size + u4.size) = False := eq_false (by omega)
    clear HD
    go_wp2_with fail
    refine wp_region_quiet_below (by kernel_rfl) (by kernel_rfl) ?_
    repeat (go_big_quiet_step (first | (go_at_call_of 66 (Value.int IntKind.i64 c.sh); exact Calls.regrown_of (C0.out _ (below_regrown _ _ _))) | (go_at_call_of 66 (Value.int IntKind.i64 c.cl); exact Calls.regrown_of (C1.out _ (below_regrown _ _ _))) | (go_at_call_of 66 (Value.int IntKind.i64 c.ca); exact Calls.regrown_of (C2.out _ (below_regrown _ _ _))) | (go_at_call_of 66 (Value.int IntKind.i64 c.pk); exact Calls.regrown_of (C3.out _ (below_regrown _ _ _))) | (go_at_call 67; exact Calls.regrown_of (C4.out _ (below_regrown _ _ _))) | (go_at_call 65; with_reducible exact Calls.regrown_of (D0.out _)) | (go_at_call 65; with_reducible exact Calls.regrown_of (D1.out _)) | (go_at_call 65; with_reducible exact Calls.regrown_of (D2.out _)) | (go_at_call 65; with_reducible exact Calls.regrown_of (D3.out _)) | (go_at_call 65; with_reducible exact Calls.regrown_of (D4.out _))))
    refine wpQuiet_nil ?_
    intro wq hq
    replace hq := below_of_regrown hq
    have HQ := hid (Below.on HW.out hq)
    have b2 := cell_later hq c2
    clear hq c0 c1 c2 c3 c4 c5 k0 k1 k3 k4 k5 g1 g2 g3 g4 D0 D1 D2 D3 D4 C0 C1 C2 C3 C4 CT HC HW
    obtain ⟨hd, hhd⟩ : ∃ hd, hd = u0 ++ u1 ++ u2 ++ u3 ++ u4 := ⟨_, rfl⟩
    have hz : hd.size ≤ 500 := by rw [hhd]; simp only [ByteArray.size_append]; omega
    rw [← hhd] at HCx ⊢
    have HRW := hid H.out.row
    obtain ⟨a, ha⟩ : ∃ a, a = c.a := ⟨_, rfl⟩
    rw [← ha] at HRW b2
    have HA := hid ha
    clear ha
    clear hhd q0 q1 q2 q3 q4
    go_wp2_with fail
    go_loopg [4, 37] c.ss.length (fun g s4 s37 wr => ∃ (k : Nat) (tx : ByteArray), k ≤ c.ss.length ∧ g = c.ss.length - k ∧ s37 = .int .i64 k ∧ s4 = .string tx ∧ tx.size ≤ 500 + k * 200 ∧ Hid (tx = spl (c.ss.take k) hd) ∧ Hid (Below w.heap.size w wr))
    case atStart => exact ⟨0, hd, by omega, by omega, rfl, rfl, by omega, hid rfl, HQ⟩
    case round =>
      obtain ⟨k, tx, hk, rfl, rfl, rfl, htx, HTX, HR⟩ := hrel
      by_cases hlt : k < c.ss.length
      · obtain ⟨b, off, rfl, cell⟩ := (HRW.out.later HR.out) k hlt
        have hks := key_size HLR.out hlt
        obtain ⟨y, hy⟩ : ∃ y, y = nthS c.ss k := ⟨_, rfl⟩
        rw [← hy] at cell hks
        have HW1 := hid (fun wz => word_is (l := nums y) (nums_b8 y) (by rw [nums_length]; omega) wz)
        rw [ofNats_nums] at HW1
        obtain ⟨wd, hwd⟩ : ∃ wd, wd = ofNats (wordL (nums y)) := ⟨_, rfl⟩
        have hwz : wd.size ≤ 97 := by
          rw [hwd, ofNats_size]
          have := wordL_len (nums y)
          rw [nums_length] at this
          omega
        rw [← hwd] at HW1
        have HL1 := hid (fun wz => line_is (n := ⟨#[115, 112, 108, 105, 116]⟩) (t := wd) (by decide) (by omega) wz)
        have hls := lineB_size ⟨#[115, 112, 108, 105, 116]⟩ wd
        have HT2 : Hid (tx ++ lineB ⟨#[115, 112, 108, 105, 116]⟩ wd = spl (c.ss.take (k + 1)) hd) := by
          refine hid ?_
          rw [List.take_succ_eq_append_getElem hlt, spl_snoc, ← HTX.out, hwd, hy]
          simp [nthS, hlt]
        obtain ⟨ln, hln⟩ : ∃ ln, ln = lineB ⟨#[115, 112, 108, 105, 116]⟩ wd := ⟨_, rfl⟩
        rw [← hln] at HL1 hls HT2
        have hlz : ln.size ≤ 200 := by rw [hls]; show 5 + _ + _ ≤ _; omega
        clear hls hln hwd hy hks
        go_wp2_with fail
        refine (HW1.out _).mono ?_
        rintro e w2 ⟨rfl, hb2⟩
        have HB2 := hid (Below.on HR.out hb2)
        clear hb2
        go_wp2_with fail
        refine (HL1.out _).mono ?_
        rintro e w3 ⟨rfl, hb3⟩
        have HB3 := hid (Below.on HB2.out hb3)
        clear hb3
        go_wp2_with fail
        go_roundg (c.ss.length - (k + 1))
        case measure => omega
        case rel => exact ⟨k + 1, tx ++ ln, by omega, rfl, by go_num, rfl, by rw [ByteArray.size_append]; omega, HT2, HB3⟩
      · obtain rfl : k = c.ss.length := by omega
        have HF : Hid (tx = c.text) := by
          refine hid ?_
          rw [HTX.out, HCx.out, List.take_length]
        go_wp2_with fail
        refine bodyPost_ret (v := .tuple #[.string tx, .int .i64 0]) (by simp [results, Tryz.results18, go_sem]) rfl ?_
        exact ⟨by rw [HS.out, HF.out], HR.out⟩
end Go.Proofs.YthenfioddnkjbaaGreatDoor.Rt
/- The marks of law 12, exactly. -/
namespace Go.Proofs.YthenfioddnkjbaaGreatDoor.Rt
open Go.RowKit Go.Sort
set_option linter.unusedVariables false

/-- a mark -/
def mkI (i j : Int) : ByteArray := ⟨#[35]⟩ ++ itB i ++ ⟨#[46]⟩ ++ itB j
/-- of a list and a place -/
def mkB (i j : Nat) : ByteArray := mkI i j
set_option maxHeartbeats 2000000 in
theorem markI_is {i j : Int} (hi : -1 ≤ i ∧ i ≤ 4611686018427387904) (hj : -1 ≤ j ∧ j ≤ 4611686018427387904) (w : World) (ht : PowTab w) :
    Calls Tryz.prog 64 #[.int .i64 i, .int .i64 j] w fun e w' => e = .returned (.string (mkI i j)) ∧ Below w.heap.size w w' := by
  have HT := hid ht
  have z1 := itB_size i hi.1 hi.2
  have z2 := itB_size j hj.1 hj.2
  have HM : Hid (mkI i j = ⟨#[35]⟩ ++ itB i ++ ⟨#[46]⟩ ++ itB j) := hid rfl
  have C1 : Hid (∀ w, PowTab w → Calls Tryz.prog 66 #[.int .i64 i] w fun e w' => e = .returned (.string (itB i)) ∧ Below w.heap.size w w') := hid (fun w h => itoa_is i hi.1 hi.2 w h)
  have C2 : Hid (∀ w, PowTab w → Calls Tryz.prog 66 #[.int .i64 j] w fun e w' => e = .returned (.string (itB j)) ∧ Below w.heap.size w w') := hid (fun w h => itoa_is j hj.1 hj.2 w h)
  generalize mkI i j = mm at HM ⊢
  generalize itB i = s1 at z1 HM C1
  generalize itB j = s2 at z2 HM C2
  have k1 : (9223372036854775807 < 1 + s1.size) = False := by simp; omega
  have k2 : (9223372036854775807 < 1 + s1.size + 1) = False := by simp; omega
  have k3 : (9223372036854775807 < 1 + s1.size + 1 + s2.size) = False := by simp; omega
  clear ht
  go_enter Tryz.func64, Tryz.ntmps64
  go_wp2_with fail
  refine (C1.out _ HT.out).mono ?_
  rintro e w1 ⟨rfl, hb1⟩
  have HB := hid hb1
  clear hb1
  go_wp2_with fail
  refine (C2.out _ (HT.out.later HB.out)).mono ?_
  rintro e w2 ⟨rfl, hb2⟩
  have HB2 := hid (Below.on HB.out hb2)
  clear hb2
  go_wp2_with fail
  go_ret
  exact ⟨by rw [HM.out]; rfl, HB2.out⟩
set_option maxHeartbeats 2000000 in
theorem markS_is {i j : Int} (hi : -1 ≤ i ∧ i ≤ 4611686018427387904) (hj : -1 ≤ j ∧ j ≤ 4611686018427387904) (w : World) (ht : PowTab w) :
    Calls Tryz.prog 80 #[.int .i64 i, .int .i64 j] w fun e w' => e = .returned (.agg #[.string (mkI i j), .string ⟨#[]⟩]) ∧ Below w.heap.size w w' := by
  have hb0 : Below w.heap.size w (w.alloc (.cells #[.string ⟨#[]⟩, .string ⟨#[]⟩] 49)) := Below.al (Below.refl _ _) _
  have HM := hid (markI_is hi hj _ (ht.later hb0))
  have hk : (w.alloc (.cells #[.string ⟨#[]⟩, .string ⟨#[]⟩] 49)).heap[w.heap.size]? = some (.cells #[.string ⟨#[]⟩, .string ⟨#[]⟩] 49 (0, 0)) := World.alloc_heap_new _ _
  have HK := hid hk
  generalize mkI i j = s at HM ⊢
  clear hk ht
  go_enter Tryz.func80, Tryz.ntmps80
  go_wp2_with (go_at_call 64; refine HM.out.mono ?_; rintro e w1 ⟨rfl, hb1⟩; have k1 := (hb1.block w.heap.size (by simp)).trans HK.out; have d0 : w1.cell? ⟨w.heap.size, 0, none⟩ = some (.string ⟨#[]⟩) := (by simp only [World.cell?, k1]; rfl); have d1 : w1.cell? ⟨w.heap.size, 1, none⟩ = some (.string ⟨#[]⟩) := (by simp only [World.cell?, k1]; rfl); have fz : ∀ o, w1.frozen? ⟨w.heap.size, o, none⟩ = false := fun o => frozen_of_row w1 w.heap.size o _ _ k1)
  refine bodyPost_ret (v := .agg #[.string (s), .string ⟨#[]⟩]) (by simp [results, Tryz.results80, go_sem, d0, d1]) rfl ⟨rfl, ?_⟩
  have hB := Below.on hb0 hb1
  (repeat (first | with_reducible exact Below.refl _ _ | with_reducible assumption | with_reducible refine Below.drew ?_ | with_reducible refine Below.al ?_ _ | with_reducible refine Below.setCell ?_ (by first | exact Nat.le_refl _ | (simp; omega) | (simp; done)) _ | with_reducible refine Below.on ?_ (by assumption)))
set_option maxHeartbeats 2000000 in
theorem markW_is {i j : Int} (hi : -1 ≤ i ∧ i ≤ 4611686018427387904) (hj : -1 ≤ j ∧ j ≤ 4611686018427387904) (w : World) (ht : PowTab w) :
    Calls Tryz.prog 81 #[.int .i64 i, .int .i64 j] w fun e w' => e = .returned (.agg #[.string (mkI i j), .bool true, .string ⟨#[]⟩]) ∧ Below w.heap.size w w' := by
  have hb0 : Below w.heap.size w (w.alloc (.cells #[.string ⟨#[]⟩, .bool false, .string ⟨#[]⟩] 135)) := Below.al (Below.refl _ _) _
  have HM := hid (markI_is hi hj _ (ht.later hb0))
  have hk : (w.alloc (.cells #[.string ⟨#[]⟩, .bool false, .string ⟨#[]⟩] 135)).heap[w.heap.size]? = some (.cells #[.string ⟨#[]⟩, .bool false, .string ⟨#[]⟩] 135 (0, 0)) := World.alloc_heap_new _ _
  have HK := hid hk
  generalize mkI i j = s at HM ⊢
  clear hk ht
  go_enter Tryz.func81, Tryz.ntmps81
  go_wp2_with (go_at_call 64; refine HM.out.mono ?_; rintro e w1 ⟨rfl, hb1⟩; have k1 := (hb1.block w.heap.size (by simp)).trans HK.out; have d0 : w1.cell? ⟨w.heap.size, 0, none⟩ = some (.string ⟨#[]⟩) := (by simp only [World.cell?, k1]; rfl); have d1 : w1.cell? ⟨w.heap.size, 1, none⟩ = some (.bool false) := (by simp only [World.cell?, k1]; rfl); have d2 : w1.cell? ⟨w.heap.size, 2, none⟩ = some (.string ⟨#[]⟩) := (by simp only [World.cell?, k1]; rfl); have fz : ∀ o, w1.frozen? ⟨w.heap.size, o, none⟩ = false := fun o => frozen_of_row w1 w.heap.size o _ _ k1)
  refine bodyPost_ret (v := .agg #[.string (s), .bool true, .string ⟨#[]⟩]) (by simp [results, Tryz.results81, go_sem, d0, d1, d2]) rfl ⟨rfl, ?_⟩
  have hB := Below.on hb0 hb1
  (repeat (first | with_reducible exact Below.refl _ _ | with_reducible assumption | with_reducible refine Below.drew ?_ | with_reducible refine Below.al ?_ _ | with_reducible refine Below.setCell ?_ (by first | exact Nat.le_refl _ | (simp; omega) | (simp; done)) _ | with_reducible refine Below.on ?_ (by assumption)))
set_option maxHeartbeats 2000000 in
theorem markA_is {i j : Int} (hi : -1 ≤ i ∧ i ≤ 4611686018427387904) (hj : -1 ≤ j ∧ j ≤ 4611686018427387904) (w : World) (ht : PowTab w) :
    Calls Tryz.prog 86 #[.int .i64 i, .int .i64 j] w fun e w' => e = .returned (.agg #[.int .u32 9, .string (mkI i j), .string ⟨#[]⟩]) ∧ Below w.heap.size w w' := by
  have hb0 : Below w.heap.size w (w.alloc (.cells #[.int .u32 0, .string ⟨#[]⟩, .string ⟨#[]⟩] 129)) := Below.al (Below.refl _ _) _
  have HM := hid (markS_is hi hj _ (ht.later hb0))
  have hk : (w.alloc (.cells #[.int .u32 0, .string ⟨#[]⟩, .string ⟨#[]⟩] 129)).heap[w.heap.size]? = some (.cells #[.int .u32 0, .string ⟨#[]⟩, .string ⟨#[]⟩] 129 (0, 0)) := World.alloc_heap_new _ _
  have HK := hid hk
  generalize mkI i j = s at HM ⊢
  clear hk ht
  go_enter Tryz.func86, Tryz.ntmps86
  go_wp2_with (go_at_call 80; refine HM.out.mono ?_; rintro e w1 ⟨rfl, hb1⟩; have k1 := (hb1.block w.heap.size (by simp)).trans HK.out; have d0 : w1.cell? ⟨w.heap.size, 0, none⟩ = some (.int .u32 0) := (by simp only [World.cell?, k1]; rfl); have d1 : w1.cell? ⟨w.heap.size, 1, none⟩ = some (.string ⟨#[]⟩) := (by simp only [World.cell?, k1]; rfl); have d2 : w1.cell? ⟨w.heap.size, 2, none⟩ = some (.string ⟨#[]⟩) := (by simp only [World.cell?, k1]; rfl); have fz : ∀ o, w1.frozen? ⟨w.heap.size, o, none⟩ = false := fun o => frozen_of_row w1 w.heap.size o _ _ k1)
  refine bodyPost_ret (v := .agg #[.int .u32 9, .string (s), .string ⟨#[]⟩]) (by simp [results, Tryz.results86, go_sem, d0, d1, d2]) rfl ⟨rfl, ?_⟩
  have hB := Below.on hb0 hb1
  (repeat (first | with_reducible exact Below.refl _ _ | with_reducible assumption | with_reducible refine Below.drew ?_ | with_reducible refine Below.al ?_ _ | with_reducible refine Below.setCell ?_ (by first | exact Nat.le_refl _ | (simp; omega) | (simp; done)) _ | with_reducible refine Below.on ?_ (by assumption)))
theorem markTB_is (i j : Nat) (hi : i ≤ 4611686018427387904) (hj : j ≤ 4611686018427387904) (w : World) (ht : PowTab w) :
    Calls Tryz.prog 64 #[.int .i64 (i : Int), .int .i64 (j : Int)] w fun e w' => e = .returned (.string (mkB i j)) ∧ Below w.heap.size w w' := markI_is (by omega) (by omega) w ht
theorem markSB_is (i j : Nat) (hi : i ≤ 4611686018427387904) (hj : j ≤ 4611686018427387904) (w : World) (ht : PowTab w) :
    Calls Tryz.prog 80 #[.int .i64 (i : Int), .int .i64 (j : Int)] w fun e w' => e = .returned (.agg #[.string (mkB i j), .string ⟨#[]⟩]) ∧ Below w.heap.size w w' := markS_is (by omega) (by omega) w ht
theorem markWB_is (i j : Nat) (hi : i ≤ 4611686018427387904) (hj : j ≤ 4611686018427387904) (w : World) (ht : PowTab w) :
    Calls Tryz.prog 81 #[.int .i64 (i : Int), .int .i64 (j : Int)] w fun e w' => e = .returned (.agg #[.string (mkB i j), .bool true, .string ⟨#[]⟩]) ∧ Below w.heap.size w w' := markW_is (by omega) (by omega) w ht
theorem markAB_is (i j : Nat) (hi : i ≤ 4611686018427387904) (hj : j ≤ 4611686018427387904) (w : World) (ht : PowTab w) :
    Calls Tryz.prog 86 #[.int .i64 (i : Int), .int .i64 (j : Int)] w fun e w' => e = .returned (.agg #[.int .u32 9, .string (mkB i j), .string ⟨#[]⟩]) ∧ Below w.heap.size w w' := markA_is (by omega) (by omega) w ht
def mS (i j : Nat) : T2 := (mkB i j, ⟨#[]⟩)
def mW (i j : Nat) : Wr := ⟨mkB i j, true, ⟨#[]⟩⟩
def mA (i j : Nat) : Pt := (9, mkB i j, ⟨#[]⟩)
end Go.Proofs.YthenfioddnkjbaaGreatDoor.Rt
