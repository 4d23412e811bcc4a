import Derived.Test.YtchfoipkaookmaaDoorWAdded
import Derived.Test.YtchfoipkaookmaaDoorWBack8
import Derived.Test.YtchfoipkaookmaaDoorWTByte
import Derived.Test.YtchfoipkaookmaaDoorWTFlag
import Derived.Test.YtchfoipkaookmaaDoorWTVar
import Derived.Test.YtchfoipkaookmaaDoorWTText
import Derived.Test.YtchfoipkaookmaaDoorWTRaw
import Derived.Test.YtchfoipkaookmaaDoorWTStamp
import Derived.Test.YtchfoipkaookmaaDoorWTTexts
import Derived.Test.YtchfoipkaookmaaDoorEqs
namespace Go.Proofs.YtchfoipkaookmaaDoor
open Go.RowKit Go.Sort
set_option linter.unusedVariables false

set_option maxRecDepth 8000 in
set_option maxHeartbeats 4000000 in
theorem stops_law {w : World} {a : Option Addr} {cap : Nat} {xs : List It} (hr : IRow w a xs) (hn : xs.length ≤ 1048576) (hb : bulks xs ≤ 536870912) (hp : PowTab w) :
    Calls Tryd.prog 3 #[.slice a xs.length cap] w fun e w' => e = .returned (.bool true) ∧ Below w.heap.size w w' := by
  have hlen := bytes_bulks (xs := xs) (fun y hy => (hr.nums y hy).n) (by omega)
  have HR := hid hr
  have HP := hid hp
  have H8 := hid (bytesOf_b8 hr)
  have HLN : Hid ((bytesOf xs).length ≤ 536870912) := (by show _ ≤ _; omega)
  have HBK := hid hb
  have H87 : Hid (B8 ([2, 97, 98] ++ bytesOf xs)) := B8.append (fun x hx => by simp at hx; omega) H8.out
  have HO : Hid (({ data := #[2, 97, 98] } : ByteArray) ++ ofNats (bytesOf xs) = ofNats ([2, 97, 98] ++ bytesOf xs)) := (by
    show ({ data := #[2, 97, 98] } : ByteArray) ++ ofNats (bytesOf xs) = ofNats ([2, 97, 98] ++ bytesOf xs)
    rw [← ofNats_append]; rfl)
  have hsz : (ofNats (bytesOf xs)).size = (bytesOf xs).length := by rw [ofNats_size]
  have hcat : (9223372036854775807 < 3 + (bytesOf xs).length) = False := by simp; omega
  have HT : Hid (tText (1 : Int).toNat (.at ([2, 97, 98] ++ bytesOf xs)) = ([], .stop 31)) := rfl
  obtain ⟨N, hN⟩ : ∃ N, N = (bytesOf xs).length := ⟨_, rfl⟩
  have hN2 : N ≤ 536870912 := by omega
  have hw2 : IntKind.i64.wrap ((N : Int) + 2) = (N : Int) + 2 := by rw [IntKind.wrap_i64]; omega
  rw [← hN] at hsz hcat
  have HN := hid hN
  clear hr hp hb hlen hN
  go_enter Tryd.func3, Tryd.ntmps3
  go_wp2_with fail
  refine (added_any HR.out (by omega) (by have := HBK.out; omega) HP.out).mono ?_
  rintro e w2 ⟨rfl, hb1⟩
  have HB2 := hid hb1
  clear hb1
  go_wp2_with fail
  refine (open_at HO.out H87.out rfl).mono ?_
  rintro e wd ⟨rfl, hbd, hld, hdd⟩
  have HBD := hid (Below.on HB2.out hbd)
  have HDD := hid hdd
  have HLE : Hid (w.heap.size ≤ w2.heap.size) := HB2.out.size
  obtain ⟨p, hpz⟩ : ∃ p, p = w2.heap.size := ⟨_, rfl⟩
  rw [← hpz] at HDD HLE ⊢
  have hld' : p < wd.heap.size := by rw [hpz]; exact hld
  clear hbd hdd hpz hld HO hcat
  go_wp2_with fail
  refine (dtext_is HDD.out (by decide) (by decide) (by show ([2, 97, 98] ++ bytesOf xs).length ≤ _; have := HLN.out; simp; omega) HT.out).mono ?_
  rintro e w3 ⟨rfl, hc3, hd3⟩
  have he0 : (ofNats [] : ByteArray) = { data := #[] } := rfl
  rw [he0]
  have HB3 : Hid (Below w.heap.size w w3) := HBD.out.trans (hc3.below HLE.out HBD.out.size)
  have HD3 := hid hd3
  have hl3 : p < w3.heap.size := Nat.lt_of_lt_of_le hld' hc3.size
  clear hc3 hd3 HDD HBD hld'
  go_wp2_with fail
  refine (left_any HD3.out).mono ?_
  rintro e w4 ⟨rfl, rfl⟩
  simp only [Ds.left]
  go_wp2_with fail
  refine (end_is HD3.out rfl).mono ?_
  rintro e w5 ⟨rfl, rfl⟩
  go_wp2_with fail
  go_loopg [5] xs.length (fun g s5 wr => ∃ k : Nat, k ≤ xs.length ∧ g = xs.length - k ∧ s5 = .int .i64 (k : Int) ∧ Hid (Cel p 0 2 w5 wr ∧ DecAt wr p 0 (.stop 31)))
  case atStart => exact ⟨0, by omega, by omega, rfl, Cel.refl _ _ _ _, HD3.out⟩
  case round =>
    obtain ⟨k, hk, rfl, rfl, HH⟩ := hrel
    have HB : Hid (Below w.heap.size w wr) := HB3.out.trans (HH.out.1.below HLE.out HB3.out.size)
    by_cases hlt : k < xs.length
    · obtain ⟨x, hx⟩ : ∃ x, xs[k]? = some x := ⟨_, List.getElem?_eq_getElem hlt⟩
      obtain ⟨-, c, off, rfl, c0, c1, c2, c3, c4, c5, c6⟩ := (HR.out.later HB.out) k x hx
      have k1 : (0 : Int) ≤ (k : Int) := by omega
      have k2 : (k : Int) < (xs.length : Int) := by omega
      clear hx c1 c2 c3 c4 c5 c6
      by_cases h0 : 1 ≤ x.kind ∧ x.kind ≤ 7
      · have hks : x.kind = 1 ∨ x.kind = 2 ∨ x.kind = 3 ∨ x.kind = 4 ∨ x.kind = 5 ∨ x.kind = 6 ∨ x.kind = 7 := by omega
        clear h0
        rcases hks with hkk | hkk | hkk | hkk | hkk | hkk | hkk
        · rw [hkk] at c0
          go_wp2_with fail
          refine (dbyte_is (x := 0) (d' := .stop 31) HH.out.2 (by simp [Ds.left]) rfl).mono ?_
          rintro e w4 ⟨rfl, hc4, hd4⟩
          have HC4 := hid (HH.out.1.trans hc4)
          have HD4 := hid hd4
          clear hc4 hd4
          go_wp2_with fail
          refine (left_any HD4.out).mono ?_
          rintro e w6 ⟨rfl, rfl⟩
          simp only [Ds.left]
          go_wp2_with fail
          refine (end_is HD4.out rfl).mono ?_
          rintro e w7 ⟨rfl, rfl⟩
          go_wp2_with fail
          go_roundg (xs.length - (k + 1))
          case measure => omega
          case rel => exact ⟨k + 1, by omega, rfl, by go_num, HC4.out, HD4.out⟩
        · rw [hkk] at c0
          go_wp2_with fail
          refine (dflag_is (x := false) (d' := .stop 31) HH.out.2 (by simp [Ds.left]) rfl).mono ?_
          rintro e w4 ⟨rfl, hc4, hd4⟩
          have HC4 := hid (HH.out.1.trans hc4)
          have HD4 := hid hd4
          clear hc4 hd4
          go_wp2_with fail
          refine (left_any HD4.out).mono ?_
          rintro e w6 ⟨rfl, rfl⟩
          simp only [Ds.left]
          go_wp2_with fail
          refine (end_is HD4.out rfl).mono ?_
          rintro e w7 ⟨rfl, rfl⟩
          go_wp2_with fail
          go_roundg (xs.length - (k + 1))
          case measure => omega
          case rel => exact ⟨k + 1, by omega, rfl, by go_num, HC4.out, HD4.out⟩
        · rw [hkk] at c0
          go_wp2_with fail
          refine (dvar_is (m := 18446744073709551615) (x := 0) (d' := .stop 31) HH.out.2 (by simp [Ds.left]) rfl).mono ?_
          rintro e w4 ⟨rfl, hc4, hd4⟩
          have HC4 := hid (HH.out.1.trans hc4)
          have HD4 := hid hd4
          clear hc4 hd4
          go_wp2_with fail
          refine (left_any HD4.out).mono ?_
          rintro e w6 ⟨rfl, rfl⟩
          simp only [Ds.left]
          go_wp2_with fail
          refine (end_is HD4.out rfl).mono ?_
          rintro e w7 ⟨rfl, rfl⟩
          go_wp2_with fail
          go_roundg (xs.length - (k + 1))
          case measure => omega
          case rel => exact ⟨k + 1, by omega, rfl, by go_num, HC4.out, HD4.out⟩
        · rw [hkk] at c0
          go_wp2_with fail
          refine (dtext_is (m := (N : Int) + 2) (t := []) (d' := .stop 31) HH.out.2 (by omega) (by omega) (by simp [Ds.left]) rfl).mono ?_
          rintro e w4 ⟨rfl, hc4, hd4⟩
          rw [he0]
          have HC4 := hid (HH.out.1.trans hc4)
          have HD4 := hid hd4
          clear hc4 hd4
          go_wp2_with fail
          refine (left_any HD4.out).mono ?_
          rintro e w6 ⟨rfl, rfl⟩
          simp only [Ds.left]
          go_wp2_with fail
          refine (end_is HD4.out rfl).mono ?_
          rintro e w7 ⟨rfl, rfl⟩
          go_wp2_with fail
          go_roundg (xs.length - (k + 1))
          case measure => omega
          case rel => exact ⟨k + 1, by omega, rfl, by go_num, HC4.out, HD4.out⟩
        · rw [hkk] at c0
          go_wp2_with fail
          refine (dtexts_is (c := (N : Int) + 2) (m := (N : Int) + 2) (l := []) (d' := .stop 31) HH.out.2 (by omega) (by omega) (by omega) (by omega) (by simp [Ds.left]) rfl).mono ?_
          rintro e w4 ⟨v, rfl, hown, hc4, hd4⟩
          obtain ⟨a4, cap4, rfl⟩ := owns_none hown
          clear hown
          have HC4 := hid (HH.out.1.trans hc4)
          have HD4 := hid hd4
          clear hc4 hd4
          go_wp2_with fail
          refine (left_any HD4.out).mono ?_
          rintro e w6 ⟨rfl, rfl⟩
          simp only [Ds.left]
          go_wp2_with fail
          refine (end_is HD4.out rfl).mono ?_
          rintro e w7 ⟨rfl, rfl⟩
          go_wp2_with fail
          go_roundg (xs.length - (k + 1))
          case measure => omega
          case rel => exact ⟨k + 1, by omega, rfl, by go_num, HC4.out, HD4.out⟩
        · rw [hkk] at c0
          go_wp2_with fail
          refine (draw_is (m := 1) (t := []) (d' := .stop 31) HH.out.2 (by decide) (by decide) (by simp [Ds.left]) rfl).mono ?_
          rintro e w4 ⟨rfl, hc4, hd4⟩
          rw [he0]
          have HC4 := hid (HH.out.1.trans hc4)
          have HD4 := hid hd4
          clear hc4 hd4
          go_wp2_with fail
          refine (left_any HD4.out).mono ?_
          rintro e w6 ⟨rfl, rfl⟩
          simp only [Ds.left]
          go_wp2_with fail
          refine (end_is HD4.out rfl).mono ?_
          rintro e w7 ⟨rfl, rfl⟩
          go_wp2_with fail
          go_roundg (xs.length - (k + 1))
          case measure => omega
          case rel => exact ⟨k + 1, by omega, rfl, by go_num, HC4.out, HD4.out⟩
        · rw [hkk] at c0
          go_wp2_with fail
          refine (dstamp_is (x := zSm) (d' := .stop 31) HH.out.2 (by simp [Ds.left]) rfl).mono ?_
          rintro e w4 ⟨rfl, hc4, hd4⟩
          simp only [zSm]
          have HC4 := hid (HH.out.1.trans hc4)
          have HD4 := hid hd4
          clear hc4 hd4
          have hse := run_eq 0 0 0 0 0 0
          have hss := sameB_self 0 0 0
          go_wp2_with fail
          refine (left_any HD4.out).mono ?_
          rintro e w6 ⟨rfl, rfl⟩
          simp only [Ds.left]
          go_wp2_with fail
          refine (end_is HD4.out rfl).mono ?_
          rintro e w7 ⟨rfl, rfl⟩
          go_wp2_with fail
          go_roundg (xs.length - (k + 1))
          case measure => omega
          case rel => exact ⟨k + 1, by omega, rfl, by go_num, HC4.out, HD4.out⟩
      · have e1 : decide (x.kind = 1) = false := by simp; omega
        have f1 : (x.kind == 1) = false := by simp; omega
        have e2 : decide (x.kind = 2) = false := by simp; omega
        have f2 : (x.kind == 2) = false := by simp; omega
        have e3 : decide (x.kind = 3) = false := by simp; omega
        have f3 : (x.kind == 3) = false := by simp; omega
        have e4 : decide (x.kind = 4) = false := by simp; omega
        have f4 : (x.kind == 4) = false := by simp; omega
        have e5 : decide (x.kind = 5) = false := by simp; omega
        have f5 : (x.kind == 5) = false := by simp; omega
        have e6 : decide (x.kind = 6) = false := by simp; omega
        have f6 : (x.kind == 6) = false := by simp; omega
        have e7 : decide (x.kind = 7) = false := by simp; omega
        have f7 : (x.kind == 7) = false := by simp; omega
        clear h0
        go_wp2_with fail
        refine (left_any HH.out.2).mono ?_
        rintro e w6 ⟨rfl, rfl⟩
        simp only [Ds.left]
        go_wp2_with fail
        refine (end_is HH.out.2 rfl).mono ?_
        rintro e w7 ⟨rfl, rfl⟩
        go_wp2_with fail
        go_roundg (xs.length - (k + 1))
        case measure => omega
        case rel => exact ⟨k + 1, by omega, rfl, by go_num, HH.out.1, HH.out.2⟩
    · obtain rfl : k = xs.length := by omega
      clear hlt hk
      go_wp2_with fail
      go_ret
      exact ⟨rfl, HB.out⟩

end Go.Proofs.YtchfoipkaookmaaDoor
