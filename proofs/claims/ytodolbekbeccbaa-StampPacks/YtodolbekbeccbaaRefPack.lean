import Derived.Test.YtodolbekbeccbaaBig
import Derived.Test.YtodolbekbeccbaaLex
import Derived.Test.YtodolbekbeccbaaNextPlain
namespace Go.Proofs.Ytodolbekbeccbaa
open Go.RowKit Go.Sort

theorem strOfNums_append (xs ys : List Int) : strOfNums xs ++ strOfNums ys = strOfNums (xs ++ ys) := by
  apply ByteArray.ext
  rw [ByteArray.data_append]
  simp [strOfNums]

set_option maxHeartbeats 400000 in
theorem refpack_any (a b c : Int) (w : World) (hs : StB a b c) :
    Calls Try.prog 16 #[stv a b c] w fun e w' => e = .returned (.string (strOfNums (pk a b c))) ∧ Below w.heap.size w w' := by
  obtain ⟨⟨ha0, ha1⟩, ⟨hb0, hb1⟩, hc0, hc1⟩ := hs
  have hwb : IntKind.u64.wrap b = b := by rw [IntKind.wrap_u64]; omega
  have hwc : IntKind.u64.wrap c = c := by rw [IntKind.wrap_u64]; omega
  have hb1' : b ≤ 18446744073709551615 := by omega
  have hc1' : c ≤ 18446744073709551615 := by omega
  obtain ⟨s1, hs1⟩ : ∃ s, s = strOfNums (be a 8) := ⟨_, rfl⟩
  obtain ⟨s2, hs2⟩ : ∃ s, s = strOfNums (be b 4) := ⟨_, rfl⟩
  obtain ⟨s3, hs3⟩ : ∃ s, s = strOfNums (be c 4) := ⟨_, rfl⟩
  have z1 : s1.size = 8 := by rw [hs1, strOfNums_size, be_length]
  have z2 : s2.size = 4 := by rw [hs2, strOfNums_size, be_length]
  have z3 : s3.size = 4 := by rw [hs3, strOfNums_size, be_length]
  have c1 := fun w => big_8 a w ha0 ha1
  have c2 := fun w => big_4 b w hb0 hb1'
  have c3 := fun w => big_4 c w hc0 hc1'
  have hres : s1 ++ s2 ++ s3 = strOfNums (pk a b c) := by rw [hs1, hs2, hs3, strOfNums_append, strOfNums_append, pk, List.append_assoc]
  rw [← hs1] at c1; rw [← hs2] at c2; rw [← hs3] at c3
  have C1 := hid c1; have C2 := hid c2; have C3 := hid c3
  have HR := hid hres
  clear hs1 hs2 hs3 c1 c2 c3 hres
  go_enter Try.func16, Try.ntmps16
  go_wp2_with fail
  refine wp_region_quiet_below (by kernel_rfl) (by kernel_rfl) ?_
  have q0 := cell_regrown (w := w.alloc (.cells #[.int .u64 a, .int .u32 b, .int .u32 c] 25)) (a := ⟨w.heap.size, 0, none⟩) (v := .int .u64 a) (by simp [go_sem])
  have q1 := cell_regrown (w := w.alloc (.cells #[.int .u64 a, .int .u32 b, .int .u32 c] 25)) (a := ⟨w.heap.size, 1, none⟩) (v := .int .u32 b) (by simp [go_sem])
  have q2 := cell_regrown (w := w.alloc (.cells #[.int .u64 a, .int .u32 b, .int .u32 c] 25)) (a := ⟨w.heap.size, 2, none⟩) (v := .int .u32 c) (by simp [go_sem])
  repeat (go_big_quiet_step (first | (go_at_call_of 19 (Value.int IntKind.u64 a); exact Calls.regrown_of (C1.out _)) | (go_at_call_of 19 (Value.int IntKind.u64 b); exact Calls.regrown_of (C2.out _)) | (go_at_call_of 19 (Value.int IntKind.u64 c); exact Calls.regrown_of (C3.out _))))
  refine wpQuiet_nil ?_
  intro w1 hw
  replace hw := below_of_regrown hw
  clear q0 q1 q2
  go_wp2_with fail
  rw [HR.out]
  go_ret
  exact ⟨rfl, Below.on (Below.al (Below.refl _ _) _) hw⟩

end Go.Proofs.Ytodolbekbeccbaa
