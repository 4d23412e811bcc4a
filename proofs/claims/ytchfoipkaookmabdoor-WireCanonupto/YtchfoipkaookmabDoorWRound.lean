import Derived.Test.YtchfoipkaookmabDoorWAdded
import Derived.Test.YtchfoipkaookmabDoorWBack8
import Derived.Test.YtchfoipkaookmabDoorWGot5
namespace Go.Proofs.YtchfoipkaookmabDoor
open Go.RowKit Go.Sort
set_option linter.unusedVariables false

theorem drop_bytes {xs : List It} {i : Nat} {x : It} (h : xs[i]? = some x) : bytesOf (xs.drop i) = x.bytes ++ bytesOf (xs.drop (i + 1)) := by
  have hi : i < xs.length := by
    rcases Nat.lt_or_ge i xs.length with h1 | h1
    · exact h1
    · rw [List.getElem?_eq_none h1] at h; cases h
  rw [List.getElem?_eq_getElem hi] at h
  injection h with h
  rw [List.drop_eq_getElem_cons hi, h]
  simp [bytesOf]
theorem drop_le (xs : List It) (i : Nat) : (bytesOf (xs.drop i)).length ≤ (bytesOf xs).length := by
  have e : bytesOf xs = bytesOf (xs.take i) ++ bytesOf (xs.drop i) := by
    conv => lhs; rw [← List.take_append_drop i xs]
    unfold bytesOf; rw [List.flatMap_append]
  rw [e, List.length_append]; omega
set_option maxHeartbeats 1000000 in
theorem back_any {w : World} {a : Option Addr} {cap : Nat} {xs : List It} (hr : IRow w a xs) (hn : xs.length ≤ 1099511627776) (hb : (bytesOf xs).length ≤ 1099511627776) :
    Calls Tryd.prog 8 #[.slice a xs.length cap, .string (ofNats (bytesOf xs))] w fun e w' => e = .returned (.bool true) ∧ Below w.heap.size w w' := by
  have HR := hid hr
  have H8 := hid (bytesOf_b8 hr)
  have HBK := hid hb
  have hsz : ((ofNats (bytesOf xs)).size : Int) = ((bytesOf xs).length : Int) := by rw [ofNats_size]
  clear hr hb
  go_enter Tryd.func8, Tryd.ntmps8
  go_wp2_with fail
  refine (open_is H8.out rfl).mono ?_
  rintro e wd ⟨rfl, hbd, hld, hdd⟩
  have HBD := hid hbd
  have HDD := hid hdd
  clear hbd hdd
  go_wp2_with fail
  refine (left_any HDD.out).mono ?_
  rintro e w1 ⟨rfl, rfl⟩
  simp only [Ds.left]
  go_wp2_with fail
  go_loopg [6] xs.length (fun g s6 wr => ∃ k : Nat, k ≤ xs.length ∧ g = xs.length - k ∧ s6 = .int .i64 (k : Int) ∧ Hid (Cel w.heap.size 0 2 w1 wr ∧ DecAt wr w.heap.size 0 (.at (bytesOf (xs.drop k)))))
  case atStart => exact ⟨0, by omega, by omega, rfl, Cel.refl _ _ _ _, HDD.out⟩
  case round =>
    obtain ⟨k, hk, rfl, rfl, HH⟩ := hrel
    have HB : Hid (Below w.heap.size w wr) := HBD.out.trans (HH.out.1.below (Nat.le_refl _) (Nat.le_of_lt hld))
    by_cases hlt : k < xs.length
    · obtain ⟨x, hx⟩ : ∃ x, xs[k]? = some x := ⟨_, List.getElem?_eq_getElem hlt⟩
      have HX := hid (HR.out k x hx).1
      obtain ⟨-, c, off, rfl, c0, c1, c2, c3, c4, c5, c6⟩ := (HR.out.later HB.out) k x hx
      have HDB := hid (drop_bytes hx)
      have hdl := drop_le xs k
      have hdl2 := drop_le xs (k + 1)
      have HL : Hid ((x.bytes ++ bytesOf (xs.drop (k + 1))).length ≤ 1099511627776) := (by rw [← HDB.out]; have := HBK.out; show _ ≤ _; omega)
      have HD : Hid (DecAt wr w.heap.size 0 (.at (x.bytes ++ bytesOf (xs.drop (k + 1))))) := (by have := HH.out.2; rw [HDB.out] at this; exact this)
      have k1 : (0 : Int) ≤ (k : Int) := by omega
      have k2 : (k : Int) < (xs.length : Int) := by omega
      have e1 : decide (((bytesOf xs).length : Int) < ((bytesOf (xs.drop (k + 1))).length : Int)) = false := by simp; omega
      have e2 : decide ((bytesOf xs).length < (bytesOf (xs.drop (k + 1))).length) = false := by simp; omega
      clear hx hdl hdl2
      go_wp2_with fail
      refine (got_any HX.out HB.out (Nat.le_refl _) HD.out HL.out).mono ?_
      rintro e w2 ⟨rfl, hc2, hd2⟩
      have HC2 := hid (HH.out.1.trans hc2)
      have HD2 := hid hd2
      clear hc2 hd2
      go_wp2_with fail
      refine (left_any HD2.out).mono ?_
      rintro e w3 ⟨rfl, rfl⟩
      simp only [Ds.left]
      go_wp2_with fail
      go_roundg (xs.length - (k + 1))
      case measure => omega
      case rel => exact ⟨k + 1, by omega, rfl, by go_num, HC2.out, HD2.out⟩
    · obtain rfl : k = xs.length := by omega
      have HD : Hid (DecAt wr w.heap.size 0 (.at [])) := (by
        have := HH.out.2
        rw [List.drop_of_length_le (Nat.le_refl _)] at this
        exact this)
      clear hlt hk
      go_wp2_with fail
      refine (left_any HD.out).mono ?_
      rintro e w2 ⟨rfl, rfl⟩
      simp only [Ds.left]
      go_wp2_with fail
      refine (end_is HD.out rfl).mono ?_
      rintro e w3 ⟨rfl, rfl⟩
      go_wp2_with fail
      go_ret
      exact ⟨rfl, HB.out⟩

set_option maxRecDepth 8000 in
set_option maxHeartbeats 2000000 in
theorem round_law {w : World} {a : Option Addr} {cap : Nat} {xs : List It} (hr : IRow w a xs) (hn : xs.length ≤ 1048576) (hb : bulks xs ≤ 536870912) (hp : PowTab w) :
    Calls Tryd.prog 4 #[.slice a xs.length cap] w fun e w' => e = .returned (.bool true) ∧ Below w.heap.size w w' := by
  have hlen := bytes_bulks (xs := xs) (fun y hy => (hr.nums y hy).n) (by omega)
  have HR := hid hr
  have HP := hid hp
  have H8 := hid (bytesOf_b8 hr)
  have HLN : Hid ((bytesOf xs).length ≤ 536870912) := (by show _ ≤ _; omega)
  have HBK := hid hb
  have H87 : Hid (B8 (bytesOf xs ++ [7])) := H8.out.append (B8.one (by decide))
  have HO : Hid (ofNats (bytesOf xs) ++ { data := #[7] } = ofNats (bytesOf xs ++ [7])) := (by
    show ofNats (bytesOf xs) ++ { data := #[7] } = ofNats (bytesOf xs ++ [7])
    rw [← ofNats_append]; rfl)
  have hsz : (ofNats (bytesOf xs)).size = (bytesOf xs).length := by rw [ofNats_size]
  have hcat : (9223372036854775807 < (bytesOf xs).length + 1) = False := by simp; omega
  clear hr hp hb hlen
  go_enter Tryd.func4, Tryd.ntmps4
  go_wp2_with fail
  refine (added_any HR.out (by omega) (by have := HBK.out; omega) HP.out).mono ?_
  rintro e w1 ⟨rfl, hb1⟩
  have HB1 := hid hb1
  clear hb1
  go_wp2_with fail
  refine (back_any (HR.out.later HB1.out) (by omega) (by have := HLN.out; omega)).mono ?_
  rintro e w2 ⟨rfl, hb2⟩
  have HB2 := hid (Below.on HB1.out hb2)
  clear hb2
  go_wp2_with fail
  refine (open_at HO.out H87.out rfl).mono ?_
  rintro e wd ⟨rfl, hbd, hld, hdd⟩
  have HBD := hid (Below.on HB2.out hbd)
  have HDD := hid hdd
  have HLE : Hid (w.heap.size ≤ w2.heap.size) := HB2.out.size
  obtain ⟨p, hpz⟩ : ∃ p, p = w2.heap.size := ⟨_, rfl⟩
  rw [← hpz] at HDD HLE ⊢
  have hld' : p < wd.heap.size := by rw [hpz]; exact hld
  clear hbd hdd hpz hld HO hcat hsz
  go_wp2_with fail
  go_loopg [5] xs.length (fun g s5 wr => ∃ k : Nat, k ≤ xs.length ∧ g = xs.length - k ∧ s5 = .int .i64 (k : Int) ∧ Hid (Cel p 0 2 wd wr ∧ DecAt wr p 0 (.at (bytesOf (xs.drop k) ++ [7]))))
  case atStart => exact ⟨0, by omega, by omega, rfl, Cel.refl _ _ _ _, HDD.out⟩
  case round =>
    obtain ⟨k, hk, rfl, rfl, HH⟩ := hrel
    have HB : Hid (Below w.heap.size w wr) := HBD.out.trans (HH.out.1.below HLE.out (Nat.le_trans HLE.out (Nat.le_of_lt hld')))
    by_cases hlt : k < xs.length
    · obtain ⟨x, hx⟩ : ∃ x, xs[k]? = some x := ⟨_, List.getElem?_eq_getElem hlt⟩
      have HX := hid (HR.out k x hx).1
      obtain ⟨-, c, off, rfl, c0, c1, c2, c3, c4, c5, c6⟩ := (HR.out.later HB.out) k x hx
      have HDB := hid (drop_bytes hx)
      have hdl := drop_le xs k
      have HL : Hid ((x.bytes ++ (bytesOf (xs.drop (k + 1)) ++ [7])).length ≤ 1099511627776) := (by rw [← List.append_assoc, ← HDB.out, List.length_append]; have := HLN.out; show _ ≤ _; simp; omega)
      have HD : Hid (DecAt wr p 0 (.at (x.bytes ++ (bytesOf (xs.drop (k + 1)) ++ [7])))) := (by have := HH.out.2; rw [HDB.out, List.append_assoc] at this; exact this)
      have k1 : (0 : Int) ≤ (k : Int) := by omega
      have k2 : (k : Int) < (xs.length : Int) := by omega
      clear hx hdl
      go_wp2_with fail
      refine (got_any HX.out HB.out HLE.out HD.out HL.out).mono ?_
      rintro e w3 ⟨rfl, hc2, hd2⟩
      have HC2 := hid (HH.out.1.trans hc2)
      have HD2 := hid hd2
      clear hc2 hd2
      go_wp2_with fail
      go_roundg (xs.length - (k + 1))
      case measure => omega
      case rel => exact ⟨k + 1, by omega, rfl, by go_num, HC2.out, HD2.out⟩
    · obtain rfl : k = xs.length := by omega
      have HD : Hid (DecAt wr p 0 (.at [7])) := (by
        have := HH.out.2
        rw [List.drop_of_length_le (Nat.le_refl _)] at this
        exact this)
      clear hlt hk
      go_wp2_with fail
      refine (left_any HD.out).mono ?_
      rintro e w3 ⟨rfl, rfl⟩
      simp only [Ds.left]
      go_wp2_with fail
      refine (end_is HD.out rfl).mono ?_
      rintro e w4 ⟨rfl, rfl⟩
      go_wp2_with fail
      refine (dbyte_is (x := 7) (d' := .at []) HD.out (by simp [Ds.left]) rfl).mono ?_
      rintro e w5 ⟨rfl, hc5, hd5⟩
      have HB5 : Hid (Below w.heap.size w w5) := HB.out.trans (hc5.below HLE.out HB.out.size)
      have HD5 := hid hd5
      clear hc5 hd5
      go_wp2_with fail
      refine (end_is HD5.out rfl).mono ?_
      rintro e w6 ⟨rfl, rfl⟩
      go_wp2_with fail
      refine (dbyte_is (x := 0) (d' := .stop 30) HD5.out (by simp [Ds.left]) rfl).mono ?_
      rintro e w7 ⟨rfl, hc7, hd7⟩
      have HB7 : Hid (Below w.heap.size w w7) := HB5.out.trans (hc7.below HLE.out HB5.out.size)
      have HD7 := hid hd7
      clear hc7 hd7
      go_wp2_with fail
      refine (end_is HD7.out rfl).mono ?_
      rintro e w8 ⟨rfl, rfl⟩
      go_wp2_with fail
      go_ret
      exact ⟨rfl, HB7.out⟩

end Go.Proofs.YtchfoipkaookmabDoor
