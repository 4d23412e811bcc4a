import Derived.Test.YtggmhodogfngdaaDoorRefDecimal
import Derived.Test.YtggmhodogfngdaaDoorNextPlain
import Derived.Lib.SmallJoins
namespace Go.Proofs.YtggmhodogfngdaaDoor
open Go.RowKit Go.Sort

def dot : ByteArray := ⟨#[46]⟩
/-- a stamp's text -/
def txt (a b c : Int) : ByteArray := dec a.toNat ++ dot ++ dec b.toNat ++ dot ++ dec c.toNat

theorem dec_le {u : Nat} (hu64 : u < 18446744073709551616) : (dec u).size ≤ 20 := by
  rw [dec_size]
  by_cases hu0 : 1 ≤ u
  · have := Lib.numDigits_eq u hu0 hu64; split at this <;> omega
  · rw [Lib.nDigits_small (by omega)]; omega

theorem gPow : Tryd.prog.globalNamed "internal/strconv.uint64pow10" = some 1 := by kernel_rfl
theorem PowTab.later {w w' : World} (h : PowTab w) (hb : Below w.heap.size w w') : PowTab w' := Joins.tab_stays gPow h hb (Nat.le_refl _)

set_option maxHeartbeats 1000000 in
theorem text_any (a b c : Int) (w : World) (hs : StB a b c) (ht : PowTab w) :
    Calls Tryd.prog 14 #[stv a b c] w fun e w' => e = .returned (.string (txt a b c)) ∧ Below w.heap.size w w' := by
  obtain ⟨⟨ha0, ha1⟩, ⟨hb0, hb1⟩, hc0, hc1⟩ := hs
  have hwb : IntKind.u64.wrap b = b := by rw [IntKind.wrap_u64]; omega
  have hwc : IntKind.u64.wrap c = c := by rw [IntKind.wrap_u64]; omega
  have z1 := dec_le (u := a.toNat) (by omega)
  have z2 := dec_le (u := b.toNat) (by omega)
  have z3 := dec_le (u := c.toNat) (by omega)
  have hres : txt a b c = dec a.toNat ++ dot ++ dec b.toNat ++ dot ++ dec c.toNat := rfl
  have c1 : ∀ W, Below w.heap.size w W → Calls Tryd.prog 31 #[.int .u64 a] W fun e w' => e = .returned (.string (dec a.toNat)) ∧ Below W.heap.size W w' := fun W hW => by
    have := decimal_any a.toNat (by omega) W (ht.later hW)
    rwa [Int.toNat_of_nonneg ha0] at this
  have c2 : ∀ W, Below w.heap.size w W → Calls Tryd.prog 31 #[.int .u64 b] W fun e w' => e = .returned (.string (dec b.toNat)) ∧ Below W.heap.size W w' := fun W hW => by
    have := decimal_any b.toNat (by omega) W (ht.later hW)
    rwa [Int.toNat_of_nonneg hb0] at this
  have c3 : ∀ W, Below w.heap.size w W → Calls Tryd.prog 31 #[.int .u64 c] W fun e w' => e = .returned (.string (dec c.toNat)) ∧ Below W.heap.size W w' := fun W hW => by
    have := decimal_any c.toNat (by omega) W (ht.later hW)
    rwa [Int.toNat_of_nonneg hc0] at this
  generalize dec a.toNat = s1 at *
  generalize dec b.toNat = s2 at *
  generalize dec c.toNat = s3 at *
  have C1 := hid c1; have C2 := hid c2; have C3 := hid c3
  have HR := hid hres
  have zd : dot.size = 1 := rfl
  have hdot : (⟨#[46]⟩ : ByteArray) = dot := rfl
  have n1 : ¬ 9223372036854775807 < s1.size + 1 := by omega
  have n2 : ¬ 9223372036854775807 < s1.size + 1 + s2.size := by omega
  have n3 : ¬ 9223372036854775807 < s1.size + 1 + s2.size + 1 := by omega
  have n4 : ¬ 9223372036854775807 < s1.size + 1 + s2.size + 1 + s3.size := by omega
  have hW0 : Hid (Below w.heap.size w (w.alloc (.cells #[.int .u64 a, .int .u32 b, .int .u32 c] 31))) := Below.al (Below.refl _ _) _
  clear c1 c2 c3 hres
  go_enter Tryd.func14, Tryd.ntmps14
  go_wp2_with fail
  refine wp_region_quiet_below (by kernel_rfl) (by kernel_rfl) ?_
  have q0 := cell_regrown (w := w.alloc (.cells #[.int .u64 a, .int .u32 b, .int .u32 c] 31)) (a := ⟨w.heap.size, 0, none⟩) (v := .int .u64 a) (by simp [go_sem])
  have q1 := cell_regrown (w := w.alloc (.cells #[.int .u64 a, .int .u32 b, .int .u32 c] 31)) (a := ⟨w.heap.size, 1, none⟩) (v := .int .u32 b) (by simp [go_sem])
  have q2 := cell_regrown (w := w.alloc (.cells #[.int .u64 a, .int .u32 b, .int .u32 c] 31)) (a := ⟨w.heap.size, 2, none⟩) (v := .int .u32 c) (by simp [go_sem])
  repeat (go_big_quiet_step (first | (go_at_call_of 31 (Value.int IntKind.u64 a); exact Calls.regrown_of (C1.out _ (Below.on hW0.out (below_regrown _ _ _)))) | (go_at_call_of 31 (Value.int IntKind.u64 b); exact Calls.regrown_of (C2.out _ (Below.on hW0.out (below_regrown _ _ _)))) | (go_at_call_of 31 (Value.int IntKind.u64 c); exact Calls.regrown_of (C3.out _ (Below.on hW0.out (below_regrown _ _ _))))))
  refine wpQuiet_nil ?_
  intro w1 hw
  replace hw := below_of_regrown hw
  clear q0 q1 q2
  go_wp2_with fail
  rw [HR.out]
  go_ret
  exact ⟨rfl, Below.on hW0.out hw⟩

set_option maxHeartbeats 1000000 in
theorem reftext_any (a b c : Int) (w : World) (hs : StB a b c) :
    Calls Tryd.prog 20 #[stv a b c] w fun e w' => e = .returned (.string (txt a b c)) ∧ Below w.heap.size w w' := by
  obtain ⟨⟨ha0, ha1⟩, ⟨hb0, hb1⟩, hc0, hc1⟩ := hs
  have hwb : IntKind.u64.wrap b = b := by rw [IntKind.wrap_u64]; omega
  have hwc : IntKind.u64.wrap c = c := by rw [IntKind.wrap_u64]; omega
  have z1 := dec_le (u := a.toNat) (by omega)
  have z2 := dec_le (u := b.toNat) (by omega)
  have z3 := dec_le (u := c.toNat) (by omega)
  have hres : txt a b c = dec a.toNat ++ dot ++ dec b.toNat ++ dot ++ dec c.toNat := rfl
  have c1 : ∀ W, Below w.heap.size w W → Calls Tryd.prog 19 #[.int .u64 a] W fun e w' => e = .returned (.string (dec a.toNat)) ∧ Below W.heap.size W w' := fun W hW => by
    have := refdecimal_any a.toNat (by omega) W
    rwa [Int.toNat_of_nonneg ha0] at this
  have c2 : ∀ W, Below w.heap.size w W → Calls Tryd.prog 19 #[.int .u64 b] W fun e w' => e = .returned (.string (dec b.toNat)) ∧ Below W.heap.size W w' := fun W hW => by
    have := refdecimal_any b.toNat (by omega) W
    rwa [Int.toNat_of_nonneg hb0] at this
  have c3 : ∀ W, Below w.heap.size w W → Calls Tryd.prog 19 #[.int .u64 c] W fun e w' => e = .returned (.string (dec c.toNat)) ∧ Below W.heap.size W w' := fun W hW => by
    have := refdecimal_any c.toNat (by omega) W
    rwa [Int.toNat_of_nonneg hc0] at this
  generalize dec a.toNat = s1 at *
  generalize dec b.toNat = s2 at *
  generalize dec c.toNat = s3 at *
  have C1 := hid c1; have C2 := hid c2; have C3 := hid c3
  have HR := hid hres
  have zd : dot.size = 1 := rfl
  have hdot : (⟨#[46]⟩ : ByteArray) = dot := rfl
  have n1 : ¬ 9223372036854775807 < s1.size + 1 := by omega
  have n2 : ¬ 9223372036854775807 < s1.size + 1 + s2.size := by omega
  have n3 : ¬ 9223372036854775807 < s1.size + 1 + s2.size + 1 := by omega
  have n4 : ¬ 9223372036854775807 < s1.size + 1 + s2.size + 1 + s3.size := by omega
  have hW0 : Hid (Below w.heap.size w (w.alloc (.cells #[.int .u64 a, .int .u32 b, .int .u32 c] 31))) := Below.al (Below.refl _ _) _
  clear c1 c2 c3 hres
  go_enter Tryd.func20, Tryd.ntmps20
  go_wp2_with fail
  refine wp_region_quiet_below (by kernel_rfl) (by kernel_rfl) ?_
  have q0 := cell_regrown (w := w.alloc (.cells #[.int .u64 a, .int .u32 b, .int .u32 c] 31)) (a := ⟨w.heap.size, 0, none⟩) (v := .int .u64 a) (by simp [go_sem])
  have q1 := cell_regrown (w := w.alloc (.cells #[.int .u64 a, .int .u32 b, .int .u32 c] 31)) (a := ⟨w.heap.size, 1, none⟩) (v := .int .u32 b) (by simp [go_sem])
  have q2 := cell_regrown (w := w.alloc (.cells #[.int .u64 a, .int .u32 b, .int .u32 c] 31)) (a := ⟨w.heap.size, 2, none⟩) (v := .int .u32 c) (by simp [go_sem])
  repeat (go_big_quiet_step (first | (go_at_call_of 19 (Value.int IntKind.u64 a); exact Calls.regrown_of (C1.out _ (Below.on hW0.out (below_regrown _ _ _)))) | (go_at_call_of 19 (Value.int IntKind.u64 b); exact Calls.regrown_of (C2.out _ (Below.on hW0.out (below_regrown _ _ _)))) | (go_at_call_of 19 (Value.int IntKind.u64 c); exact Calls.regrown_of (C3.out _ (Below.on hW0.out (below_regrown _ _ _))))))
  refine wpQuiet_nil ?_
  intro w1 hw
  replace hw := below_of_regrown hw
  clear q0 q1 q2
  go_wp2_with fail
  rw [HR.out]
  go_ret
  exact ⟨rfl, Below.on hW0.out hw⟩

end Go.Proofs.YtggmhodogfngdaaDoor
