import Derived.Test.YtfafkohghgliaabDoorRBuild
import Derived.Test.YtfafkohghgliaabDoorRWordP
import Derived.Laws.Strings
import Derived.Handy
/- Word, as the program writes it. -/
namespace Go.Proofs.YtfafkohghgliaabDoor.Rt
open Go.RowKit Go.Sort
set_option linter.unusedVariables false

theorem ret_bool {x u : Bool} (h : x = u) : Ending.returned (.bool x) = Ending.returned (.bool u) := h ▸ rfl
theorem ofNats_get' {l : List Nat} (h : B8 l) (i : Nat) (hi : i < (ofNats l).size) : ((ofNats l)[i]'hi).toNat = l.getD i 0 := by
  have hl : i < l.length := by rw [ofNats_size] at hi; exact hi
  have e : (ofNats l)[i]'hi = UInt8.ofNat l[i] := by
    show (ofNats l).data[i]'_ = _
    simp [ofNats]
  have h2 : l.getD i 0 = l[i] := by simp [List.getD, hl]
  rw [e, UInt8.toNat_ofNat', h2]
  have := h _ (List.getElem_mem hl)
  omega
/-- a text's byte -/
theorem index_ofNats {t : List Nat} {k c : Nat} (ht : B8 t) (hc : t[k]? = some c) (w : World) : (Instr.index 9 (.string (ofNats t)) (.int .i64 (k : Int))).run Tryd.prog w = .ok (.int .u8 (c : Int)) w := by
  have hk : k < t.length := (List.getElem?_eq_some_iff.1 hc).1
  have hd : t.getD k 0 = c := by simp [List.getD, hc]
  rw [run_index_string w 9 (ofNats t) .i64 k Tryd.underlying9, dif_pos (by rw [ofNats_size]; omega)]
  have := ofNats_get' ht k (by rw [ofNats_size]; exact hk)
  rw [hd] at this
  simp [this]

set_option maxHeartbeats 1000000 in
theorem plain_is {b : Nat} (hb : b < 256) {u : Bool} (hu : plB b = u) (w : World) :
    Calls Tryd.prog 75 #[.int .u8 (b : Int)] w fun e w' => e = .returned (.bool u) ∧ w' = w := by
  subst hu
  have e1 : decide ((33 : Int) ≤ (b : Int)) = decide (33 ≤ b) := by rw [decide_eq_decide]; omega
  have e2 : decide ((b : Int) ≤ 126) = decide (b ≤ 126) := by rw [decide_eq_decide]; omega
  have e3 : ((b : Int) == 37) = decide (b = 37) := by rw [Bool.eq_iff_iff]; simp; omega
  go_enter Tryd.func75, Tryd.ntmps75
  cases h1 : decide (33 ≤ b)
  · go_wp2
    go_ret
    exact ⟨ret_bool (by simp [plB, h1]), rfl⟩
  · cases h2 : decide (b ≤ 126)
    · go_wp2
      go_ret
      exact ⟨ret_bool (by simp [plB, h1, h2]), rfl⟩
    · go_wp2
      go_ret
      exact ⟨ret_bool (by simp [plB, h1, h2, bne, e3]), rfl⟩

/-- the hex digits -/
def hexS : ByteArray := ⟨#[48, 49, 50, 51, 52, 53, 54, 55, 56, 57, 97, 98, 99, 100, 101, 102]⟩
def hexL : List Nat := [48, 49, 50, 51, 52, 53, 54, 55, 56, 57, 97, 98, 99, 100, 101, 102]
theorem hexL_eq : ofNats hexL = hexS := rfl
theorem hexL_b8 : B8 hexL := by intro b hb; simp [hexL] at hb; omega
theorem hexL_fin : ∀ n : Fin 16, hexL[n.val]? = some (hx n.val) := by decide
theorem hexL_get {n : Nat} (h : n < 16) : hexL[n]? = some (hx n) := hexL_fin ⟨n, h⟩
theorem hexAt (n : Nat) (h : n < 16) (hi : n < (ByteArray.mk #[48, 49, 50, 51, 52, 53, 54, 55, 56, 57, 97, 98, 99, 100, 101, 102]).size) : ((ByteArray.mk #[48, 49, 50, 51, 52, 53, 54, 55, 56, 57, 97, 98, 99, 100, 101, 102])[n]'hi).toNat = hx n := by
  have h2 := ofNats_get' hexL_b8 n (by rw [ofNats_size]; simp [hexL]; omega)
  simp only [List.getD, hexL_get h, Option.getD_some] at h2
  exact h2
theorem and15_fin : ∀ x : Fin 256, bits .and .u8 ((x.val : Nat) : Int) 15 = ((x.val % 16 : Nat) : Int) := by decide +kernel
theorem and15 {x : Nat} (h : x < 256) : bits .and .u8 (x : Int) 15 = ((x % 16 : Nat) : Int) := and15_fin ⟨x, h⟩

set_option maxHeartbeats 4000000 in
theorem word_is {l : List Nat} (h8 : B8 l) (hl : 3 * l.length + 1 ≤ 140737488355328) (w : World) :
    Calls Tryd.prog 51 #[.string (ofNats l)] w fun e w' => e = .returned (.string (ofNats (wordL l))) ∧ Below w.heap.size w w' := by
  have H8 := hid h8
  have hsz : (ofNats l).size = l.length := ofNats_size l
  clear h8
  by_cases h0 : l = []
  · subst h0
    have hne : (ofNats []).toList.isEmpty = true := by simp [ofNats, ByteArray.toList_eq]
    go_enter Tryd.func51, Tryd.ntmps51
    go_wp2
    go_ret
    exact ⟨rfl, Below.refl _ _⟩
  · have hne : (ofNats l).toList.isEmpty = false := by
      cases l with
      | nil => exact absurd rfl h0
      | cons a l => simp [ofNats, ByteArray.toList_eq]
    have H0 := hid h0
    have HN := Bld.new w
    have HB := hid HN
    clear h0 HN
    go_enter Tryd.func51, Tryd.ntmps51
    go_wp2_with fail
    go_loopg [10] l.length (fun g s10 wr => ∃ k : Nat, k ≤ l.length ∧ g = l.length - k ∧ s10 = .int .i64 k ∧ Hid (Bld w wr w.heap.size (wbs (l.take k))))
    case atStart => exact ⟨0, by omega, by omega, rfl, HB⟩
    case round =>
      obtain ⟨k, hk, rfl, rfl, HK⟩ := hrel
      clear HB
      by_cases hlt : k < l.length
      · have hc : l[k]? = some l[k] := List.getElem?_eq_getElem hlt
        obtain ⟨c, hc'⟩ : ∃ c, c = l[k] := ⟨_, rfl⟩
        rw [← hc'] at hc
        have hc8 : c < 256 := H8.out c (by rw [hc']; exact List.getElem_mem hlt)
        have hix : ∀ w, (Instr.index 9 (.string (ofNats l)) (.int .i64 (k : Int))).run Tryd.prog w = .ok (.int .u8 (c : Int)) w := fun w => index_ofNats H8.out hc w
        have HT : Hid (wbs (l.take (k + 1)) = wbs (l.take k) ++ wb c) := hid (by rw [List.take_succ_eq_append_getElem hlt, ← hc']; simp [wbs])
        have HL : Hid ((wbs (l.take k)).length + 3 ≤ 140737488355328) := hid (by have := (wbs_len (l.take k)).2; rw [List.length_take] at this; omega)
        clear hc hc'
        go_wp2_with fail
        refine (plain_is hc8 rfl _).mono ?_
        rintro e w1 ⟨rfl, rfl⟩
        cases hp : plB c
        · have ha := and15 hc8
          have hx1 : hx (c / 16) < 256 := by have := (hx_plain (show c / 16 < 16 by omega)).2; omega
          have hx2 : hx (c % 16) < 256 := by have := (hx_plain (show c % 16 < 16 by omega)).2; omega
          go_wp2_with fail
          refine (add_is (c := 37) HK.out (by decide) (by have := HL.out; omega)).mono ?_
          rintro e w2 ⟨rfl, hw2⟩
          have HW2 := hid hw2
          clear hw2
          go_wp2_with fail
          rw [hexAt _ (by omega)]
          refine (add_is HW2.out hx1 (by have := HL.out; simp; omega)).mono ?_
          rintro e w3 ⟨rfl, hw3⟩
          have HW3 := hid hw3
          clear hw3
          go_wp2_with fail
          rw [hexAt _ (by omega)]
          refine (add_is HW3.out hx2 (by have := HL.out; simp; omega)).mono ?_
          rintro e w4 ⟨rfl, hw4⟩
          have HW := hid hw4
          clear hw4
          go_wp2_with fail
          go_roundg (l.length - (k + 1))
          case measure => omega
          case rel => exact ⟨k + 1, by omega, rfl, by go_num, hid (by rw [HT.out, wb, hp]; simpa using HW.out)⟩
        · go_wp2_with fail
          refine (add_is HK.out hc8 (by have := HL.out; omega)).mono ?_
          rintro e w2 ⟨rfl, hw2⟩
          have HW := hid hw2
          clear hw2
          go_wp2_with fail
          go_roundg (l.length - (k + 1))
          case measure => omega
          case rel => exact ⟨k + 1, by omega, rfl, by go_num, hid (by rw [HT.out, wb, hp]; exact HW.out)⟩
      · obtain rfl : k = l.length := by omega
        go_wp2_with fail
        refine (text_is HK.out).mono ?_
        rintro e w2 ⟨rfl, hw2⟩
        go_wp2_with fail
        go_ret
        have e : wbs l = wordL l := by rw [wordL, if_neg H0.out]
        exact ⟨by rw [← e]; rfl, hw2⟩

end Go.Proofs.YtfafkohghgliaabDoor.Rt
