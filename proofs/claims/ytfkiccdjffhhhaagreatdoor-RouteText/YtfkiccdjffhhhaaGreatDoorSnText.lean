import Derived.Test.YtfkiccdjffhhhaaGreatDoorSnDec
import Derived.Test.YtfkiccdjffhhhaaGreatDoorRMay
import Derived.Test.YtfkiccdjffhhhaaGreatDoorRWord
import Derived.Lib.QuietBelow
import Derived.BigQuiet
/- A configuration's text, as the program writes it. -/
namespace Go.Proofs.YtfkiccdjffhhhaaGreatDoor.Rt
open Go.RowKit Go.Sort
set_option linter.unusedVariables false

/-- a line -/
def lineB (n t : ByteArray) : ByteArray := n ++ ⟨#[32]⟩ ++ t ++ ⟨#[10]⟩
theorem lineB_size (n t : ByteArray) : (lineB n t).size = n.size + t.size + 2 := by
  simp [lineB, ByteArray.size_append]
  show n.size + 1 + t.size + 1 = _
  omega
theorem line_is {n t : ByteArray} (hn : n.size ≤ 100) (ht : t.size ≤ 1000) (w : World) :
    Calls Tryz.prog 11 #[.string n, .string t] w fun e w' => e = .returned (.string (lineB n t)) ∧ Below w.heap.size w w' := by
  go_enter Tryz.func11, Tryz.ntmps11
  go_wp2_with fail
  go_ret
  exact ⟨rfl, Below.refl _ _⟩

/-- a number's digits -/
def itB (i : Int) : ByteArray := ⟨(Lib.itoa i).toArray⟩
theorem itoa_is (i : Int) (h0 : -1 ≤ i) (hi : i ≤ 4611686018427387904) (w : World) (ht : PowTab w) :
    Calls Tryz.prog 12 #[.int .i64 i] w fun e w' => e = .returned (.string (itB i)) ∧ Below w.heap.size w w' := by
  refine (Tryz.strconv_Itoa i (by omega) (by omega) w ht).mono ?_
  rintro e w' ⟨rfl, k, os, rfl⟩
  exact ⟨rfl, rfl, rfl, rfl, by simp [grow], fun j hj => by simp [grow, Array.getElem?_append, hj]⟩
theorem itB_size (i : Int) (h0 : -1 ≤ i) (hi : i ≤ 4611686018427387904) : (itB i).size ≤ 40 := by
  show (Lib.itoa i).length ≤ 40
  unfold Lib.itoa
  by_cases h : i < 0
  · rw [if_pos h, List.length_cons, Lib.decDigits_length]
    have := Lib.nDigits_le20 i.natAbs (by omega)
    omega
  · rw [if_neg h, Lib.decDigits_length]
    have := Lib.nDigits_le20 i.toNat (by omega)
    omega
theorem dec_size (n : Nat) (h : n < 18446744073709551616) : (dec n).size ≤ 20 := by
  show (Lib.decDigits n).length ≤ 20
  rw [Lib.decDigits_length]
  exact Lib.nDigits_le20 n h

/-- the five lines of numbers -/
def Cf.head (c : Cf) : ByteArray := lineB ⟨#[115, 104, 97, 114, 100, 115]⟩ (itB c.sh) ++ lineB ⟨#[99, 108, 105, 101, 110, 116, 115]⟩ (itB c.cl) ++ lineB ⟨#[99, 97, 112, 97, 99, 105, 116, 121]⟩ (itB c.ca) ++ lineB ⟨#[112, 97, 114, 107]⟩ (itB c.pk) ++ lineB ⟨#[119, 105, 110, 100, 111, 119]⟩ (dec c.wi.toNat)
/-- the split keys' lines -/
def spl : List ByteArray → ByteArray → ByteArray
  | [], t => t
  | s :: ss, t => spl ss (t ++ lineB ⟨#[115, 112, 108, 105, 116]⟩ (ofNats (wordL (nums s))))
/-- the text -/
def Cf.text (c : Cf) : ByteArray := spl c.ss c.head
/-- what Text answers -/
def Cf.said (c : Cf) : Value := if c.okB then .tuple #[.string c.text, .int .i64 0] else .tuple #[.string ⟨#[]⟩, .int .i64 1]
theorem said_no {c : Cf} (h : c.okB = false) : c.said = .tuple #[.string ⟨#[]⟩, .int .i64 1] := by simp [Cf.said, h]
theorem said_ok {c : Cf} (h : c.okB = true) : c.said = .tuple #[.string c.text, .int .i64 0] := by simp [Cf.said, h]
theorem spl_snoc (ss : List ByteArray) (s t : ByteArray) : spl (ss ++ [s]) t = spl ss t ++ lineB ⟨#[115, 112, 108, 105, 116]⟩ (ofNats (wordL (nums s))) := by
  induction ss generalizing t with
  | nil => rfl
  | cons a ss ih => exact ih _
theorem ok_nums {c : Cf} (h : c.okB = true) : (1 ≤ c.sh ∧ c.sh ≤ 6) ∧ (1 ≤ c.cl ∧ c.cl ≤ 6) ∧ (256 ≤ c.ca ∧ c.ca ≤ 1048576) ∧ (0 ≤ c.pk ∧ c.pk ≤ 16) := by
  simp only [Cf.okB, wiB, Bool.and_eq_true, decide_eq_true_eq, beq_iff_eq] at h
  refine ⟨by omega, by omega, by omega, by omega⟩
theorem key_size {ss : List ByteArray} (h : risB ss = true) {k : Nat} (hk : k < ss.length) : (nthS ss k).size ≤ 32 := by
  have := allB_all h k hk
  simp only [keyOk, Bool.and_eq_true, decide_eq_true_eq] at this
  exact this.2

set_option maxRecDepth 100000 in
set_option maxHeartbeats 8000000 in
theorem Text_is {c : Cf} {w : World} (h : c.Ok w) (hw : 0 ≤ c.wi ∧ c.wi ≤ 18446744073709551615) (ht : PowTab w) :
    Calls Tryz.prog 5 #[c.val] w fun e w' => e = .returned c.said ∧ Below w.heap.size w w' := by
  have H := hid h
  have HT := hid ht
  have HB : Hid (BoxC (w.alloc (.cells #[.int .i64 c.sh, .int .i64 c.cl, .slice c.a c.ss.length c.cp, .int .i64 c.ca, .int .i64 c.pk, .int .u64 c.wi] 25)) w.heap.size c) := hid (BoxC.new w c _)
  clear h ht
  go_enter Tryz.func5, Tryz.ntmps5
  go_wp2_with fail
  refine (mayBe_is (H.out.later (by (repeat (first | exact Below.refl _ _ | assumption | refine Below.drew ?_ | refine Below.al ?_ _ | refine Below.setCell ?_ (by first | exact Nat.le_refl _ | (simp; omega) | (simp; done)) _ | refine Below.on ?_ (by assumption))))) rfl).mono ?_
  rintro e w1 ⟨rfl, hw1⟩
  have HC := hid (HB.out.later hw1)
  have HW : Hid (Below w.heap.size w w1) := hid (by (repeat (first | exact Below.refl _ _ | assumption | refine Below.drew ?_ | refine Below.al ?_ _ | refine Below.setCell ?_ (by first | exact Nat.le_refl _ | (simp; omega) | (simp; done)) _ | refine Below.on ?_ (by assumption))))
  clear hw1 HB
  cases ho : c.okB
  · have HS := hid (said_no ho)
    go_wp2_with fail
    refine bodyPost_ret (v := .tuple #[.string ⟨#[]⟩, .int .i64 1]) (by simp [results, Tryz.results5, go_sem]) rfl ?_
    exact ⟨by rw [HS.out], HW.out⟩
  · obtain ⟨n0, n1, n2, n3⟩ := ok_nums ho
    obtain ⟨l5, ls, lr⟩ := ok_len ho
    have HLR := hid lr
    have HLS := hid ls
    have HS := hid (said_ok ho)
    clear lr ls
    obtain ⟨c0, c1, c2, c3, c4, c5⟩ := HC.out
    have k0 := cell_regrown c0; have k1 := cell_regrown c1; have k3 := cell_regrown c3; have k4 := cell_regrown c4; have k5 := cell_regrown c5
    have CT : Hid (∀ wz, Below w1.heap.size w1 wz → PowTab wz) := hid fun wz hb => HT.out.later (Below.on HW.out hb)
    have z0 := itB_size c.sh (by omega) (by omega)
    have z1 := itB_size c.cl (by omega) (by omega)
    have z2 := itB_size c.ca (by omega) (by omega)
    have z3 := itB_size c.pk (by omega) (by omega)
    have z4 := dec_size c.wi.toNat (by omega)
    have C0 : Hid (∀ wz, Below w1.heap.size w1 wz → _) := hid fun wz hb => itoa_is c.sh (by omega) (by omega) wz (CT.out wz hb)
    have C1 : Hid (∀ wz, Below w1.heap.size w1 wz → _) := hid fun wz hb => itoa_is c.cl (by omega) (by omega) wz (CT.out wz hb)
    have C2 : Hid (∀ wz, Below w1.heap.size w1 wz → _) := hid fun wz hb => itoa_is c.ca (by omega) (by omega) wz (CT.out wz hb)
    have C3 : Hid (∀ wz, Below w1.heap.size w1 wz → _) := hid fun wz hb => itoa_is c.pk (by omega) (by omega) wz (CT.out wz hb)
    have C4 : Hid (∀ wz, Below w1.heap.size w1 wz → _) := hid fun wz hb => fmt_any c.wi.toNat (by omega) wz (CT.out wz hb)
    rw [show ((c.wi.toNat : Nat) : Int) = c.wi by omega] at C4
    have HD : Hid (c.head = lineB ⟨#[115, 104, 97, 114, 100, 115]⟩ (itB c.sh) ++ lineB ⟨#[99, 108, 105, 101, 110, 116, 115]⟩ (itB c.cl) ++ lineB ⟨#[99, 97, 112, 97, 99, 105, 116, 121]⟩ (itB c.ca) ++ lineB ⟨#[112, 97, 114, 107]⟩ (itB c.pk) ++ lineB ⟨#[119, 105, 110, 100, 111, 119]⟩ (dec c.wi.toNat)) := hid rfl
    generalize itB c.sh = t0 at C0 z0 HD
    generalize itB c.cl = t1 at C1 z1 HD
    generalize itB c.ca = t2 at C2 z2 HD
    generalize itB c.pk = t3 at C3 z3 HD
    generalize dec c.wi.toNat = t4 at C4 z4 HD
    have D0 := fun wz => line_is (n := ⟨#[115, 104, 97, 114, 100, 115]⟩) (t := t0) (by decide) (by omega) wz
    have D1 := fun wz => line_is (n := ⟨#[99, 108, 105, 101, 110, 116, 115]⟩) (t := t1) (by decide) (by omega) wz
    have D2 := fun wz => line_is (n := ⟨#[99, 97, 112, 97, 99, 105, 116, 121]⟩) (t := t2) (by decide) (by omega) wz
    have D3 := fun wz => line_is (n := ⟨#[112, 97, 114, 107]⟩) (t := t3) (by decide) (by omega) wz
    have D4 := fun wz => line_is (n := ⟨#[119, 105, 110, 100, 111, 119]⟩) (t := t4) (by decide) (by omega) wz
    have s0 := lineB_size ⟨#[115, 104, 97, 114, 100, 115]⟩ t0
    have s1 := lineB_size ⟨#[99, 108, 105, 101, 110, 116, 115]⟩ t1
    have s2 := lineB_size ⟨#[99, 97, 112, 97, 99, 105, 116, 121]⟩ t2
    have s3 := lineB_size ⟨#[112, 97, 114, 107]⟩ t3
    have s4 := lineB_size ⟨#[119, 105, 110, 100, 111, 119]⟩ t4
    generalize lineB ⟨#[115, 104, 97, 114, 100, 115]⟩ t0 = u0 at D0 s0 HD
    generalize lineB ⟨#[99, 108, 105, 101, 110, 116, 115]⟩ t1 = u1 at D1 s1 HD
    generalize lineB ⟨#[99, 97, 112, 97, 99, 105, 116, 121]⟩ t2 = u2 at D2 s2 HD
    generalize lineB ⟨#[112, 97, 114, 107]⟩ t3 = u3 at D3 s3 HD
    generalize lineB ⟨#[119, 105, 110, 100, 111, 119]⟩ t4 = u4 at D4 s4 HD
    have D0 := hid D0; have D1 := hid D1; have D2 := hid D2; have D3 := hid D3; have D4 := hid D4
    have q0 : u0.size ≤ 100 := by rw [s0]; show 6 + _ + _ ≤ _; omega
    have q1 : u1.size ≤ 100 := by rw [s1]; show 7 + _ + _ ≤ _; omega
    have q2 : u2.size ≤ 100 := by rw [s2]; show 8 + _ + _ ≤ _; omega
    have q3 : u3.size ≤ 100 := by rw [s3]; show 4 + _ + _ ≤ _; omega
    have q4 : u4.size ≤ 100 := by rw [s4]; show 6 + _ + _ ≤ _; omega
    clear s0 s1 s2 s3 s4 z0 z1 z2 z3 z4
    have HCx : Hid (c.text = spl c.ss c.head) := hid rfl
    rw [HD.out] at HCx
    have g1 : (9223372036854775807 < u0.size + u1.size) = False := eq_false (by omega)
    have g2 : (9223372036854775807 < u0.size + u1.size + u2.size) = False := eq_false (by omega)
    have g3 : (9223372036854775807 < u0.size + u1.size + u2.size + u3.size) = False := eq_false (by omega)
    have g4 : (9223372036854775807 < u0.size + u1.size + u2.size + u3.size + u4.size) = False := eq_false (by omega)
    clear HD
    go_wp2_with fail
    refine wp_region_quiet_below (by kernel_rfl) (by kernel_rfl) ?_
    repeat (go_big_quiet_step (first | (go_at_call_of 12 (Value.int IntKind.i64 c.sh); exact Calls.regrown_of (C0.out _ (below_regrown _ _ _))) | (go_at_call_of 12 (Value.int IntKind.i64 c.cl); exact Calls.regrown_of (C1.out _ (below_regrown _ _ _))) | (go_at_call_of 12 (Value.int IntKind.i64 c.ca); exact Calls.regrown_of (C2.out _ (below_regrown _ _ _))) | (go_at_call_of 12 (Value.int IntKind.i64 c.pk); exact Calls.regrown_of (C3.out _ (below_regrown _ _ _))) | (go_at_call 13; exact Calls.regrown_of (C4.out _ (below_regrown _ _ _))) | (go_at_call 11; with_reducible exact Calls.regrown_of (D0.out _)) | (go_at_call 11; with_reducible exact Calls.regrown_of (D1.out _)) | (go_at_call 11; with_reducible exact Calls.regrown_of (D2.out _)) | (go_at_call 11; with_reducible exact Calls.regrown_of (D3.out _)) | (go_at_call 11; with_reducible exact Calls.regrown_of (D4.out _))))
    refine wpQuiet_nil ?_
    intro wq hq
    replace hq := below_of_regrown hq
    have HQ := hid (Below.on HW.out hq)
    have b2 := cell_later hq c2
    clear hq c0 c1 c2 c3 c4 c5 k0 k1 k3 k4 k5 g1 g2 g3 g4 D0 D1 D2 D3 D4 C0 C1 C2 C3 C4 CT HC HW
    obtain ⟨hd, hhd⟩ : ∃ hd, hd = u0 ++ u1 ++ u2 ++ u3 ++ u4 := ⟨_, rfl⟩
    have hz : hd.size ≤ 500 := by rw [hhd]; simp only [ByteArray.size_append]; omega
    rw [← hhd] at HCx ⊢
    have HRW := hid H.out.row
    obtain ⟨a, ha⟩ : ∃ a, a = c.a := ⟨_, rfl⟩
    rw [← ha] at HRW b2
    have HA := hid ha
    clear ha
    clear hhd q0 q1 q2 q3 q4
    go_wp2_with fail
    go_loopg [4, 37] c.ss.length (fun g s4 s37 wr => ∃ (k : Nat) (tx : ByteArray), k ≤ c.ss.length ∧ g = c.ss.length - k ∧ s37 = .int .i64 k ∧ s4 = .string tx ∧ tx.size ≤ 500 + k * 200 ∧ Hid (tx = spl (c.ss.take k) hd) ∧ Hid (Below w.heap.size w wr))
    case atStart => exact ⟨0, hd, by omega, by omega, rfl, rfl, by omega, hid rfl, HQ⟩
    case round =>
      obtain ⟨k, tx, hk, rfl, rfl, rfl, htx, HTX, HR⟩ := hrel
      by_cases hlt : k < c.ss.length
      · obtain ⟨b, off, rfl, cell⟩ := (HRW.out.later HR.out) k hlt
        have hks := key_size HLR.out hlt
        obtain ⟨y, hy⟩ : ∃ y, y = nthS c.ss k := ⟨_, rfl⟩
        rw [← hy] at cell hks
        have HW1 := hid (fun wz => word_is (l := nums y) (nums_b8 y) (by rw [nums_length]; omega) wz)
        rw [ofNats_nums] at HW1
        obtain ⟨wd, hwd⟩ : ∃ wd, wd = ofNats (wordL (nums y)) := ⟨_, rfl⟩
        have hwz : wd.size ≤ 97 := by
          rw [hwd, ofNats_size]
          have := wordL_len (nums y)
          rw [nums_length] at this
          omega
        rw [← hwd] at HW1
        have HL1 := hid (fun wz => line_is (n := ⟨#[115, 112, 108, 105, 116]⟩) (t := wd) (by decide) (by omega) wz)
        have hls := lineB_size ⟨#[115, 112, 108, 105, 116]⟩ wd
        have HT2 : Hid (tx ++ lineB ⟨#[115, 112, 108, 105, 116]⟩ wd = spl (c.ss.take (k + 1)) hd) := by
          refine hid ?_
          rw [List.take_succ_eq_append_getElem hlt, spl_snoc, ← HTX.out, hwd, hy]
          simp [nthS, hlt]
        obtain ⟨ln, hln⟩ : ∃ ln, ln = lineB ⟨#[115, 112, 108, 105, 116]⟩ wd := ⟨_, rfl⟩
        rw [← hln] at HL1 hls HT2
        have hlz : ln.size ≤ 200 := by rw [hls]; show 5 + _ + _ ≤ _; omega
        clear hls hln hwd hy hks
        go_wp2_with fail
        refine (HW1.out _).mono ?_
        rintro e w2 ⟨rfl, hb2⟩
        have HB2 := hid (Below.on HR.out hb2)
        clear hb2
        go_wp2_with fail
        refine (HL1.out _).mono ?_
        rintro e w3 ⟨rfl, hb3⟩
        have HB3 := hid (Below.on HB2.out hb3)
        clear hb3
        go_wp2_with fail
        go_roundg (c.ss.length - (k + 1))
        case measure => omega
        case rel => exact ⟨k + 1, tx ++ ln, by omega, rfl, by go_num, rfl, by rw [ByteArray.size_append]; omega, HT2, HB3⟩
      · obtain rfl : k = c.ss.length := by omega
        have HF : Hid (tx = c.text) := by
          refine hid ?_
          rw [HTX.out, HCx.out, List.take_length]
        go_wp2_with fail
        refine bodyPost_ret (v := .tuple #[.string tx, .int .i64 0]) (by simp [results, Tryz.results5, go_sem]) rfl ?_
        exact ⟨by rw [HS.out, HF.out], HR.out⟩
end Go.Proofs.YtfkiccdjffhhhaaGreatDoor.Rt
