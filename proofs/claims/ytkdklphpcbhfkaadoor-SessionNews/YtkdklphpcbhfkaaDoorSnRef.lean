import Derived.Test.YtkdklphpcbhfkaaDoorSnText
/- The document's configurations: are they valid, their words and texts. -/
namespace Go.Proofs.YtkdklphpcbhfkaaDoor.Rt
open Go.RowKit Go.Sort
set_option linter.unusedVariables false

/-- is it a key behind the one before? as the document asks -/
def keyR (ss : List ByteArray) (k : Nat) : Bool := !((nthS ss k).toList.isEmpty) && decide ((nthS ss k).size ≤ 32) && (decide (k = 0) || ltS (prevS ss k) (nthS ss k))

theorem lt_of_empty {p y : ByteArray} (h : y.toList.isEmpty = true) : ltS p y = false := by
  rw [ltS, List.isEmpty_iff.1 h]
  cases p.toList <;> rfl
theorem lt_mt {y : ByteArray} (h : y.toList.isEmpty = false) : ltS mt y = true := by
  rw [ltS, toList_empty]
  cases e : y.toList with
  | nil => rw [e] at h; cases h
  | cons a l => rfl

set_option maxRecDepth 100000 in
set_option maxHeartbeats 8000000 in
theorem rvalid_is {c : Cf} {w : World} (h : c.Ok w) {u : Bool} (hu : c.okB = u) :
    Calls Tryd.prog 24 #[c.val] w fun e w' => e = .returned (.bool u) ∧ Below w.heap.size w w' := by
  have HRW := hid h.row
  have hl := h.len
  have hsh := h.sh
  have HU : Hid (c.okB = u) := hid hu
  clear h hu
  obtain ⟨sh, cl, a, cp, ss, ca, pk, wi⟩ := c
  simp only at hl hsh HRW
  have HB0 : Hid (BoxC (w.alloc (.cells #[.int .i64 sh, .int .i64 cl, .slice a ss.length cp, .int .i64 ca, .int .i64 pk, .int .u64 wi] 26)) w.heap.size ⟨sh, cl, a, cp, ss, ca, pk, wi⟩) := hid (BoxC.new w ⟨sh, cl, a, cp, ss, ca, pk, wi⟩ _)
  have hb0 : Below w.heap.size w (w.alloc (.cells #[.int .i64 sh, .int .i64 cl, .slice a ss.length cp, .int .i64 ca, .int .i64 pk, .int .u64 wi] 26)) := Below.al (Below.refl _ _) _
  have HB := hid hb0
  have HRW := hid (HRW.out.later hb0)
  clear hb0
  by_cases hA : (1 ≤ sh ∧ sh ≤ 6) ∧ 1 ≤ cl ∧ cl ≤ 6
  · by_cases hB : (256 ≤ ca ∧ ca ≤ 1048576) ∧ 0 ≤ pk ∧ pk ≤ 16
    · have d1 : decide (sh < 1) = false := by simp; omega
      have d2 : decide (6 < sh) = false := by simp; omega
      have d3 : decide (cl < 1) = false := by simp; omega
      have d4 : decide (6 < cl) = false := by simp; omega
      have d5 : decide (ca < 256) = false := by simp; omega
      have d6 : decide (1048576 < ca) = false := by simp; omega
      have d7 : decide (pk < 0) = false := by simp; omega
      have d8 : decide (16 < pk) = false := by simp; omega
      by_cases hC : (ss.length : Int) = sh - 1
      · have hC' : ((ss.length : Int) == sh - 1) = true := by simpa using hC
        have HOK : Hid (Cf.okB ⟨sh, cl, a, cp, ss, ca, pk, wi⟩ = risB ss) := hid (by simp [Cf.okB, wiB, hA, hB, hC'])
        have hl5 : ss.length ≤ 5 := by omega
        have hC2 : ((ss.length : Int) != sh - 1) = false := by rw [bne, hC']; rfl
        clear hC hC'
        go_enter Tryd.func24, Tryd.ntmps24
        go_wp2_with fail
        obtain ⟨w0, hw0⟩ : ∃ w0, w0 = w.alloc (.cells #[.int .i64 sh, .int .i64 cl, .slice a ss.length cp, .int .i64 ca, .int .i64 pk, .int .u64 wi] 26) := ⟨_, rfl⟩
        rw [← hw0] at HB0 HB HRW ⊢
        obtain ⟨c0, c1, c2, c3, c4, c5⟩ := HB0.out
        simp only at c2
        clear hw0 c0 c1 c3 c4 c5 HB0 d1 d2 d3 d4 d5 d6 d7 d8 hC2
        go_loopg [3] ss.length (fun g s3 wr => ∃ k : Nat, k ≤ ss.length ∧ g = ss.length - k ∧ s3 = .int .i64 k ∧ wr = w0 ∧ Hid (allB (fun i => keyOk (prevS ss i) (nthS ss i)) k = true))
        case atStart => exact ⟨0, by omega, by omega, rfl, rfl, hid rfl⟩
        case round =>
          obtain ⟨k, hk, rfl, rfl, rfl, HK⟩ := hrel
          by_cases hlt : k < ss.length
          · obtain ⟨b, off, rfl, c0⟩ := HRW.out k hlt
            obtain ⟨y, hy⟩ : ∃ y, y = nthS ss k := ⟨_, rfl⟩
            obtain ⟨p, hp⟩ : ∃ p, p = prevS ss k := ⟨_, rfl⟩
            rw [← hy] at c0
            have HY : Hid (y = nthS ss k ∧ p = prevS ss k) := hid ⟨hy, hp⟩
            clear hy hp
            cases h1 : y.toList.isEmpty
            · cases h32 : decide (y.size ≤ 32)
              · have h32' : ¬ y.size ≤ 32 := by simpa using h32
                have h33 : decide (32 < (y.size : Int)) = true := by simp; omega
                go_wp2_with fail
                go_ret
                exact ⟨ret_bool (by rw [← HU.out, HOK.out]; exact (allB_no (k := k) (by rw [← HY.out.1, keyOk, h32, Bool.and_false]) _ hlt).symm), HB.out⟩
              · have h32' : y.size ≤ 32 := by simpa using h32
                have h33 : decide (32 < (y.size : Int)) = false := by simp; omega
                by_cases hk0 : k = 0
                · have hk1 : decide (0 < (k : Int)) = false := by simp; omega
                  have hk2 : decide (0 < k) = false := by simp; omega
                  have HP : Hid (keyOk (prevS ss k) (nthS ss k) = true) := hid (by
                    rw [← HY.out.1, keyOk, h32, hk0]
                    show (ltS mt y && true) = true
                    rw [lt_mt h1]; rfl)
                  clear hk0
                  go_wp2_with fail
                  go_roundg (ss.length - (k + 1))
                  case measure => omega
                  case rel => exact ⟨k + 1, by omega, rfl, by go_num, rfl, hid (allB_yes HK.out HP.out)⟩
                · obtain ⟨j, hj⟩ : ∃ j, k = j + 1 := ⟨k - 1, by omega⟩
                  obtain ⟨b', off', e', c1⟩ := HRW.out j (by omega)
                  injection e' with e'; injection e' with e1 e2
                  subst e1 e2
                  obtain ⟨q, hq⟩ : ∃ q, q = nthS ss j := ⟨_, rfl⟩
                  rw [← hq] at c1
                  have HQ : Hid (p = q) := hid (by rw [HY.out.2, hq, hj]; simp [prevS])
                  have hlq : Op.bytesLess q.toList y.toList = ltS q y := rfl
                  have hk1 : decide (0 < (k : Int)) = true := by simp; omega
                  have hk2 : decide (0 < k) = true := by simp; omega
                  have hj1 : (k : Int) - 1 = (j : Int) := by omega
                  have hjl : j < ss.length := by omega
                  clear hq hk0 hj
                  cases hqy : ltS q y
                  · rw [hqy] at hlq
                    go_wp2_with fail
                    go_ret
                    exact ⟨ret_bool (by rw [← HU.out, HOK.out]; exact (allB_no (k := k) (by rw [← HY.out.1, ← HY.out.2, HQ.out, keyOk, hqy, Bool.false_and]) _ hlt).symm), HB.out⟩
                  · rw [hqy] at hlq
                    go_wp2_with fail
                    go_roundg (ss.length - (k + 1))
                    case measure => omega
                    case rel => exact ⟨k + 1, by omega, rfl, by go_num, rfl, hid (allB_yes HK.out (by rw [← HY.out.1, ← HY.out.2, HQ.out, keyOk, hqy, h32]; rfl))⟩
            · go_wp2_with fail
              go_ret
              exact ⟨ret_bool (by rw [← HU.out, HOK.out]; exact (allB_no (k := k) (by rw [← HY.out.1, keyOk, lt_of_empty h1, Bool.false_and]) _ hlt).symm), HB.out⟩
          · obtain rfl : k = ss.length := by omega
            go_wp2_with fail
            go_ret
            exact ⟨ret_bool (by rw [← HU.out, HOK.out]; exact HK.out.symm), HB.out⟩
      · have hC' : ((ss.length : Int) == sh - 1) = false := by simpa using hC
        have HOK : Hid (Cf.okB ⟨sh, cl, a, cp, ss, ca, pk, wi⟩ = false) := hid (by simp [Cf.okB, hC'])
        clear hC
        go_enter Tryd.func24, Tryd.ntmps24
        go_wp2_with fail
        go_ret
        exact ⟨ret_bool (by rw [← HU.out, HOK.out]), HB.out⟩
    · have HOK : Hid (Cf.okB ⟨sh, cl, a, cp, ss, ca, pk, wi⟩ = false) := hid (by
        have : (wiB ca 256 1048576 && wiB pk 0 16) = false := by simp [wiB]; omega
        cases e1 : wiB ca 256 1048576
        · simp [Cf.okB, e1]
        · rw [e1, Bool.true_and] at this; simp [Cf.okB, this])
      have d1 : decide (sh < 1) = false := by simp; omega
      have d2 : decide (6 < sh) = false := by simp; omega
      have d3 : decide (cl < 1) = false := by simp; omega
      have d4 : decide (6 < cl) = false := by simp; omega
      have hD : (decide (ca < 256) || decide (1048576 < ca) || decide (pk < 0) || decide (16 < pk)) = true := by simp; omega
      clear hA hB
      go_enter Tryd.func24, Tryd.ntmps24
      go_wp2_with fail
      all_goals first | (go_ret; exact ⟨ret_bool (by rw [← HU.out, HOK.out]), HB.out⟩) | (exfalso; simp only [Bool.or_eq_true, decide_eq_true_eq] at hD; omega)
  · have HOK : Hid (Cf.okB ⟨sh, cl, a, cp, ss, ca, pk, wi⟩ = false) := hid (by
      have : (wiB sh 1 6 && wiB cl 1 6) = false := by simp [wiB]; omega
      simp [Cf.okB, this])
    have hD : (decide (sh < 1) || decide (6 < sh) || decide (cl < 1) || decide (6 < cl)) = true := by simp; omega
    clear hA
    go_enter Tryd.func24, Tryd.ntmps24
    go_wp2_with fail
    all_goals first | (go_ret; exact ⟨ret_bool (by rw [← HU.out, HOK.out]), HB.out⟩) | (exfalso; simp only [Bool.or_eq_true, decide_eq_true_eq] at hD; omega)
end Go.Proofs.YtkdklphpcbhfkaaDoor.Rt
