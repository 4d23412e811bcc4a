import Derived.Test.YtodolbekbeccbaaBase
import Derived.Test.YtodolbekbeccbaaBytes
import Derived.Laws.Bits64
namespace Go.Proofs.Ytodolbekbeccbaa
open Go.RowKit Go.Sort

theorem strOfNums_cons (x : Int) (xs : List Int) : strOfNums [x] ++ strOfNums xs = strOfNums (x :: xs) := by
  simp only [strOfNums]
  rfl

set_option maxHeartbeats 400000 in
theorem big_any (v : Int) (n : Nat) (w : World) (hn : n ≤ 100) (hv : 0 ≤ v) (hv' : v ≤ 18446744073709551615) :
    Calls Try.prog 19 #[.int .u64 v, .int .i64 n] w fun e w' => e = .returned (.string (strOfNums (be v n))) ∧ Below w.heap.size w w' := by
  go_enter Try.func19, Try.ntmps19
  go_wp2_with fail
  go_loopg [0, 5, 6] n (fun g s0 s5 s6 wr => ∃ k : Nat, k ≤ n ∧ g = n - k ∧ s0 = .int .u64 (v / 256 ^ k) ∧ s5 = .string (strOfNums (be v k)) ∧ s6 = .int .i64 k ∧ Below w.heap.size w wr)
  case atStart => exact ⟨0, by omega, by omega, by simp, rfl, rfl, Below.refl _ _⟩
  case round =>
    obtain ⟨k, hk, rfl, rfl, rfl, rfl, hw⟩ := hrel
    obtain ⟨x, hx⟩ : ∃ x, x = v / 256 ^ k := ⟨_, rfl⟩
    have hx0 : 0 ≤ x := by rw [hx]; exact Int.ediv_nonneg hv (Int.le_of_lt (Int.pow_pos (by decide)))
    have hx1 : x ≤ 18446744073709551615 := by rw [hx]; exact Int.le_trans (Int.ediv_le_self _ hv) hv'
    have hnext : x / 256 = v / 256 ^ (k + 1) := by rw [hx, div_pow_next]
    have hbe : be v (k + 1) = (x % 256) :: be v k := by rw [hx, be_cons]
    have HN := hid hnext
    obtain ⟨s, hs⟩ : ∃ s, s = strOfNums (be v k) := ⟨_, rfl⟩
    have hsz : s.size = k := by rw [hs, strOfNums_size, be_length]
    have HB : Hid (strOfNums [x % 256] ++ s = strOfNums (be v (k + 1))) := by rw [hbe, hs]; exact strOfNums_cons _ _
    have HE : Hid (s = strOfNums (be v k)) := hs
    have hroom : ¬ 9223372036854775807 < 1 + s.size := by omega
    rw [← hx, ← hs]
    clear hx hnext hbe hs hsz
    by_cases hlt : k < n
    · have hcv := run_convert_bytes_arg (P := Try.prog) (wr.alloc (.cells #[.int .u8 (x % 256)] 5)) 46 5 Try.underlying46 Try.underlying5 wr.heap.size 0 1 1 [x % 256] rfl (fun i hi => by
        obtain rfl : i = 0 := by omega
        simp [go_sem]) 9 Try.underlying9
      go_wp2_with fail
      go_roundg (n - (k + 1))
      case measure => omega
      case rel => exact ⟨k + 1, by omega, rfl, by rw [HN.out], by rw [HB.out], by go_num, Below.al hw _⟩
    · obtain rfl : k = n := by omega
      rw [HE.out]
      go_wp2_with fail
      go_ret
      exact ⟨rfl, hw⟩

theorem big_8 (v : Int) (w : World) (hv : 0 ≤ v) (hv' : v ≤ 18446744073709551615) :
    Calls Try.prog 19 #[.int .u64 v, .int .i64 8] w fun e w' => e = .returned (.string (strOfNums (be v 8))) ∧ Below w.heap.size w w' := big_any v 8 w (by decide) hv hv'
theorem big_4 (v : Int) (w : World) (hv : 0 ≤ v) (hv' : v ≤ 18446744073709551615) :
    Calls Try.prog 19 #[.int .u64 v, .int .i64 4] w fun e w' => e = .returned (.string (strOfNums (be v 4))) ∧ Below w.heap.size w w' := big_any v 4 w (by decide) hv hv'

end Go.Proofs.Ytodolbekbeccbaa
