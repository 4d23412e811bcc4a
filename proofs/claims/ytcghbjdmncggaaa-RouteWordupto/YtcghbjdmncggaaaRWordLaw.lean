import Derived.Test.YtcghbjdmncggaaaRRead
/- RouteWord: the walk. -/
namespace Go.Proofs.Ytcghbjdmncggaaa.Rt
open Go.RowKit Go.Sort
set_option linter.unusedVariables false

set_option maxHeartbeats 4000000 in
theorem law_word {l : List Nat} (h8 : B8 l) (hl : l.length ≤ 1048576) (w : World) :
    Calls Try.prog 3 #[.string (ofNats l)] w fun e w' => e = .returned (.bool true) ∧ Below w.heap.size w w' := by
  have H8 := hid h8
  have hsz : (ofNats l).size = l.length := ofNats_size l
  obtain ⟨W, hW⟩ : ∃ W, W = wordL l := ⟨_, rfl⟩
  have hlen := wordL_len l
  have hran := wordL_range h8
  have hun := unword_word h8
  have hwd := fun w => word_is h8 (by omega) w
  rw [← hW] at hlen hran hun hwd
  have hW8 : B8 W := fun c hc => by have := hran c hc; omega
  have huA : unA W = (l, 0) := by rw [unA, hun]
  have hu1 := fun w => unword_is hW8 (by omega) w
  have hu2 := fun w => unword_is h8 (by omega) w
  rw [huA] at hu1
  have hWne : W ≠ [] := by rintro rfl; simp at hlen
  have hWe := empty_of hWne
  have hWs : (ofNats W).size = W.length := ofNats_size W
  have HR := hid hran; have HW8 := hid hW8; have HWD := hid hwd; have HU1 := hid hu1; have HU2 := hid hu2
  have hle : W.length ≤ 3 * l.length + 1 := hlen.2
  clear hW hlen hran hun hwd hW8 huA hu1 hu2 hWne h8
  go_enter Try.func3, Try.ntmps3
  go_wp2_with fail
  refine (HWD.out _).mono ?_
  rintro e w1 ⟨rfl, hw1⟩
  have HB := hid hw1
  clear hw1
  go_wp2_with fail
  go_loopg [4] W.length (fun g s4 wr => ∃ k : Nat, k ≤ W.length ∧ g = W.length - k ∧ s4 = .int .i64 k ∧ Hid (Below w.heap.size w wr))
  case atStart => exact ⟨0, by omega, by omega, rfl, HB⟩
  case round =>
    obtain ⟨k, hk, rfl, rfl, HK⟩ := hrel
    clear HB
    by_cases hlt : k < W.length
    · obtain ⟨c, hc⟩ := isAt hlt
      have hcr := HR.out c (List.mem_of_getElem? hc)
      have hix : ∀ w, (Instr.index 9 (.string (ofNats W)) (.int .i64 (k : Int))).run Try.prog w = .ok (.int .u8 (c : Int)) w := fun w => index_ofNats HW8.out hc w
      clear hc
      go_wp2_with fail
      go_roundg (W.length - (k + 1))
      case measure => omega
      case rel => exact ⟨k + 1, by omega, rfl, by go_num, HK⟩
    · obtain rfl : k = W.length := by omega
      go_wp2_with fail
      refine (HU1.out _).mono ?_
      rintro e w2 ⟨rfl, hw2⟩
      have HB2 := hid (Below.on HK.out hw2)
      clear hw2
      go_wp2_with fail
      refine (HU2.out _).mono ?_
      rintro e w3 ⟨rfl, hw3⟩
      have HB3 := hid (Below.on HB2.out hw3)
      clear hw3
      cases hu : unword l with
      | none =>
        have e : unA l = ([], 120) := by rw [unA, hu]
        have hne : (ofNats []).toList.isEmpty = true := by simp [ofNats, ByteArray.toList_eq]
        rw [e]
        go_wp2_with fail
        go_ret
        exact ⟨rfl, HB3.out⟩
      | some r =>
        have e : unA l = (r, 0) := by rw [unA, hu]
        obtain ⟨hr, hr8⟩ := word_unword H8.out hu
        have HR2 := hid hr
        have hrl : r.length ≤ 1048576 := by
          have h1 := (wbs_len r).1
          rcases Nat.eq_zero_or_pos r.length with h0 | h0
          · omega
          · have : wordL r = wbs r := by rw [wordL, if_neg]; rintro rfl; simp at h0
            rw [← hr, this] at hl
            omega
        rw [e]
        clear hr
        go_wp2_with fail
        refine (word_is hr8 (by omega) _).mono ?_
        rintro e w4 ⟨rfl, hw4⟩
        rw [HR2.out]
        have HB4 := hid (Below.on HB3.out hw4)
        clear hw4
        go_wp2_with fail
        go_ret
        exact ⟨rfl, HB4.out⟩

end Go.Proofs.Ytcghbjdmncggaaa.Rt
