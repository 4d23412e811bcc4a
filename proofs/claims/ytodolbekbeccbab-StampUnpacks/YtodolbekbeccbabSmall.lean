import Derived.Test.YtodolbekbeccbabUnpack
namespace Go.Proofs.Ytodolbekbeccbab
open Go.RowKit Go.Sort

set_option maxHeartbeats 400000 in
theorem small_any (s : ByteArray) (w : World) (hs : s.size ≤ 8) :
    Calls Try.prog 19 #[.string s] w fun e w' => e = .returned (.int .u64 (numL s.data.toList 0)) ∧ w' = w := by
  go_enter Try.func19, Try.ntmps19
  go_wp2_with fail
  go_loop [3, 4] (fun s3 s7 => ∃ k : Nat, k ≤ s.size ∧ s3 = .int .u64 (numL (s.data.toList.take k) 0) ∧ s7 = .int .i64 k) (fun _ i => s.size - (intOf i).toNat)
  case atStart => exact ⟨0, by omega, rfl, rfl⟩
  case round =>
    obtain ⟨k, hk, rfl, rfl⟩ := hrel
    have hb := numL_bound (s.data.toList.take k)
    have hl : (s.data.toList.take k).length ≤ k := List.length_take_le _ _
    by_cases hlt : k < s.size
    · have hn := numL_snoc (s.data.toList.take k) s[k] 0
      rw [← take_snoc s k hlt] at hn
      have HN := hid hn
      obtain ⟨x, hx⟩ : ∃ x, x = numL (s.data.toList.take k) 0 := ⟨_, rfl⟩
      rw [← hx] at hb HN ⊢
      have hx0 := hb.1
      have hx1 : x < 72057594037927936 := by
        refine Int.lt_of_lt_of_le hb.2 ?_
        exact Int.le_trans (pow256_le (show (s.data.toList.take k).length ≤ 7 by omega)) (by decide)
      clear hb hl hn hx
      go_wp2
      have hbyte : IntKind.u64.wrap (s[k].toNat : Int) = s[k].toNat := by
        rw [IntKind.wrap_u64]; have := s[k].toNat_lt; omega
      have hsum : IntKind.u64.wrap (x * 256 + (s[k].toNat : Int)) = x * 256 + s[k].toNat := by
        rw [IntKind.wrap_u64]; have := s[k].toNat_lt; omega
      refine ⟨⟨k + 1, by omega, ?_, by go_num⟩, ?_⟩
      · rw [hbyte, hsum, HN.out]
      · simp [intOf]; omega
    · obtain rfl : k = s.size := by omega
      rw [List.take_of_length_le (by simp)]
      clear hb hl
      go_wp2
      go_ret
      exact ⟨rfl, rfl⟩

end Go.Proofs.Ytodolbekbeccbab
