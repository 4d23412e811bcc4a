import Derived.Test.YtngnifemghahkaaGSame
namespace Go.Proofs.Ytngnifemghahkaa
open Go.RowKit Go.Sort
set_option linter.unusedVariables false

set_option maxHeartbeats 2000000 in
theorem named_1 {m : Rg} (hk : m.k = 1) (w : World) :
    Calls Try.prog 20 #[m.val] w fun e w' => e = .returned m.named.val ∧ Below w.heap.size w w' := by
  have q1 : (m.k == 1) = true := by rw [hk]; rfl
  have hv : m.named.val = .agg #[.int .i64 (m.k), .int .u64 (m.x), .int .u32 (0), .int .u32 (0), .int .u32 (0), .int .i64 (0), .int .u64 (0), .int .u32 (0), .int .u32 (0), .slice none 0 0, .slice none 0 0, .string ⟨#[]⟩] := by
    have : m.named = { Rg.zero with k := m.k, x := m.x } := by unfold Rg.named; rw [if_pos hk]
    exact congrArg Rg.val this
  rw [hv]
  clear hv hk
  go_enter Try.func20, Try.ntmps20
  go_wp2_with fail
  refine bodyPost_ret (v := .agg #[.int .i64 (m.k), .int .u64 (m.x), .int .u32 (0), .int .u32 (0), .int .u32 (0), .int .i64 (0), .int .u64 (0), .int .u32 (0), .int .u32 (0), .slice none 0 0, .slice none 0 0, .string ⟨#[]⟩]) (by simp [results, Try.results20, go_sem]) rfl ⟨rfl, ?_⟩
  (repeat (first | exact Below.refl _ _ | assumption | refine Below.drew ?_ | refine Below.al ?_ _ | refine Below.setCell ?_ (by first | exact Nat.le_refl _ | (simp; omega) | (simp; done)) _ | refine Below.on ?_ (by assumption)))

set_option maxHeartbeats 2000000 in
theorem named_2 {m : Rg} (hk : m.k = 2) (w : World) :
    Calls Try.prog 20 #[m.val] w fun e w' => e = .returned m.named.val ∧ Below w.heap.size w w' := by
  have q1 : (m.k == 1) = false := by rw [hk]; rfl
  have q2 : (m.k == 2) = true := by rw [hk]; rfl
  have hv : m.named.val = .agg #[.int .i64 (m.k), .int .u64 (0), .int .u32 (m.c), .int .u32 (m.s), .int .u32 (m.h), .int .i64 (0), .int .u64 (m.w), .int .u32 (m.l), .int .u32 (m.n), .slice m.ra m.rs.length m.rc, .slice m.wa m.ws.length m.wc, .string ⟨#[]⟩] := by
    have : m.named = { m with x := 0, oc := 0, im := ⟨#[]⟩ } := by unfold Rg.named; rw [if_neg (by rw [hk]; decide), if_pos hk]
    exact congrArg Rg.val this
  rw [hv]
  clear hv hk
  go_enter Try.func20, Try.ntmps20
  go_wp2_with fail
  refine bodyPost_ret (v := .agg #[.int .i64 (m.k), .int .u64 (0), .int .u32 (m.c), .int .u32 (m.s), .int .u32 (m.h), .int .i64 (0), .int .u64 (m.w), .int .u32 (m.l), .int .u32 (m.n), .slice m.ra m.rs.length m.rc, .slice m.wa m.ws.length m.wc, .string ⟨#[]⟩]) (by simp [results, Try.results20, go_sem]) rfl ⟨rfl, ?_⟩
  (repeat (first | exact Below.refl _ _ | assumption | refine Below.drew ?_ | refine Below.al ?_ _ | refine Below.setCell ?_ (by first | exact Nat.le_refl _ | (simp; omega) | (simp; done)) _ | refine Below.on ?_ (by assumption)))

set_option maxHeartbeats 2000000 in
theorem named_3 {m : Rg} (hk : m.k = 3) (w : World) :
    Calls Try.prog 20 #[m.val] w fun e w' => e = .returned m.named.val ∧ Below w.heap.size w w' := by
  have q1 : (m.k == 1) = false := by rw [hk]; rfl
  have q2 : (m.k == 2) = false := by rw [hk]; rfl
  have q3 : (m.k == 3) = true := by rw [hk]; rfl
  have hv : m.named.val = .agg #[.int .i64 (m.k), .int .u64 (0), .int .u32 (m.c), .int .u32 (m.s), .int .u32 (m.h), .int .i64 (m.oc), .int .u64 (m.w), .int .u32 (m.l), .int .u32 (m.n), .slice none 0 0, .slice none 0 0, .string ⟨#[]⟩] := by
    have : m.named = { Rg.zero with k := m.k, c := m.c, s := m.s, h := m.h, oc := m.oc, w := m.w, l := m.l, n := m.n } := by unfold Rg.named; rw [if_neg (by rw [hk]; decide), if_neg (by rw [hk]; decide), if_pos hk]
    exact congrArg Rg.val this
  rw [hv]
  clear hv hk
  go_enter Try.func20, Try.ntmps20
  go_wp2_with fail
  refine bodyPost_ret (v := .agg #[.int .i64 (m.k), .int .u64 (0), .int .u32 (m.c), .int .u32 (m.s), .int .u32 (m.h), .int .i64 (m.oc), .int .u64 (m.w), .int .u32 (m.l), .int .u32 (m.n), .slice none 0 0, .slice none 0 0, .string ⟨#[]⟩]) (by simp [results, Try.results20, go_sem]) rfl ⟨rfl, ?_⟩
  (repeat (first | exact Below.refl _ _ | assumption | refine Below.drew ?_ | refine Below.al ?_ _ | refine Below.setCell ?_ (by first | exact Nat.le_refl _ | (simp; omega) | (simp; done)) _ | refine Below.on ?_ (by assumption)))

set_option maxHeartbeats 2000000 in
theorem named_4 {m : Rg} (hk : m.k = 4) (w : World) :
    Calls Try.prog 20 #[m.val] w fun e w' => e = .returned m.named.val ∧ Below w.heap.size w w' := by
  have q1 : (m.k == 1) = false := by rw [hk]; rfl
  have q2 : (m.k == 2) = false := by rw [hk]; rfl
  have q3 : (m.k == 3) = false := by rw [hk]; rfl
  have q4 : (m.k == 4) = true := by rw [hk]; rfl
  have hv : m.named.val = .agg #[.int .i64 (m.k), .int .u64 (0), .int .u32 (0), .int .u32 (0), .int .u32 (0), .int .i64 (0), .int .u64 (m.w), .int .u32 (m.l), .int .u32 (m.n), .slice none 0 0, .slice none 0 0, .string ⟨#[]⟩] := by
    have : m.named = { Rg.zero with k := m.k, w := m.w, l := m.l, n := m.n } := by unfold Rg.named; rw [if_neg (by rw [hk]; decide), if_neg (by rw [hk]; decide), if_neg (by rw [hk]; decide), if_pos hk]
    exact congrArg Rg.val this
  rw [hv]
  clear hv hk
  go_enter Try.func20, Try.ntmps20
  go_wp2_with fail
  refine bodyPost_ret (v := .agg #[.int .i64 (m.k), .int .u64 (0), .int .u32 (0), .int .u32 (0), .int .u32 (0), .int .i64 (0), .int .u64 (m.w), .int .u32 (m.l), .int .u32 (m.n), .slice none 0 0, .slice none 0 0, .string ⟨#[]⟩]) (by simp [results, Try.results20, go_sem]) rfl ⟨rfl, ?_⟩
  (repeat (first | exact Below.refl _ _ | assumption | refine Below.drew ?_ | refine Below.al ?_ _ | refine Below.setCell ?_ (by first | exact Nat.le_refl _ | (simp; omega) | (simp; done)) _ | refine Below.on ?_ (by assumption)))

set_option maxHeartbeats 2000000 in
theorem named_5 {m : Rg} (hk : m.k = 5) (w : World) :
    Calls Try.prog 20 #[m.val] w fun e w' => e = .returned m.named.val ∧ Below w.heap.size w w' := by
  have q1 : (m.k == 1) = false := by rw [hk]; rfl
  have q2 : (m.k == 2) = false := by rw [hk]; rfl
  have q3 : (m.k == 3) = false := by rw [hk]; rfl
  have q4 : (m.k == 4) = false := by rw [hk]; rfl
  have q5 : (m.k == 5) = true := by rw [hk]; rfl
  have hv : m.named.val = .agg #[.int .i64 (m.k), .int .u64 (0), .int .u32 (0), .int .u32 (0), .int .u32 (0), .int .i64 (0), .int .u64 (0), .int .u32 (0), .int .u32 (0), .slice none 0 0, .slice none 0 0, .string m.im] := by
    have : m.named = { Rg.zero with k := m.k, im := m.im } := by unfold Rg.named; rw [if_neg (by rw [hk]; decide), if_neg (by rw [hk]; decide), if_neg (by rw [hk]; decide), if_neg (by rw [hk]; decide), if_pos hk]
    exact congrArg Rg.val this
  rw [hv]
  clear hv hk
  go_enter Try.func20, Try.ntmps20
  go_wp2_with fail
  refine bodyPost_ret (v := .agg #[.int .i64 (m.k), .int .u64 (0), .int .u32 (0), .int .u32 (0), .int .u32 (0), .int .i64 (0), .int .u64 (0), .int .u32 (0), .int .u32 (0), .slice none 0 0, .slice none 0 0, .string m.im]) (by simp [results, Try.results20, go_sem]) rfl ⟨rfl, ?_⟩
  (repeat (first | exact Below.refl _ _ | assumption | refine Below.drew ?_ | refine Below.al ?_ _ | refine Below.setCell ?_ (by first | exact Nat.le_refl _ | (simp; omega) | (simp; done)) _ | refine Below.on ?_ (by assumption)))

set_option maxHeartbeats 2000000 in
theorem named_0 {m : Rg} (g1 : m.k ≠ 1) (g2 : m.k ≠ 2) (g3 : m.k ≠ 3) (g4 : m.k ≠ 4) (g5 : m.k ≠ 5) (w : World) :
    Calls Try.prog 20 #[m.val] w fun e w' => e = .returned m.named.val ∧ Below w.heap.size w w' := by
  have q1 : (m.k == 1) = false := beq_eq_false_iff_ne.2 g1
  have q2 : (m.k == 2) = false := beq_eq_false_iff_ne.2 g2
  have q3 : (m.k == 3) = false := beq_eq_false_iff_ne.2 g3
  have q4 : (m.k == 4) = false := beq_eq_false_iff_ne.2 g4
  have q5 : (m.k == 5) = false := beq_eq_false_iff_ne.2 g5
  have hv : m.named.val = .agg #[.int .i64 0, .int .u64 (0), .int .u32 (0), .int .u32 (0), .int .u32 (0), .int .i64 (0), .int .u64 (0), .int .u32 (0), .int .u32 (0), .slice none 0 0, .slice none 0 0, .string ⟨#[]⟩] := by
    have : m.named = Rg.zero := by unfold Rg.named; rw [if_neg g1, if_neg g2, if_neg g3, if_neg g4, if_neg g5]
    exact congrArg Rg.val this
  rw [hv]
  clear hv g1 g2 g3 g4 g5
  go_enter Try.func20, Try.ntmps20
  go_wp2_with fail
  refine bodyPost_ret (v := .agg #[.int .i64 0, .int .u64 (0), .int .u32 (0), .int .u32 (0), .int .u32 (0), .int .i64 (0), .int .u64 (0), .int .u32 (0), .int .u32 (0), .slice none 0 0, .slice none 0 0, .string ⟨#[]⟩]) (by simp [results, Try.results20, go_sem]) rfl ⟨rfl, ?_⟩
  (repeat (first | exact Below.refl _ _ | assumption | refine Below.drew ?_ | refine Below.al ?_ _ | refine Below.setCell ?_ (by first | exact Nat.le_refl _ | (simp; omega) | (simp; done)) _ | refine Below.on ?_ (by assumption)))

theorem named_is (m : Rg) (w : World) : Calls Try.prog 20 #[m.val] w fun e w' => e = .returned m.named.val ∧ Below w.heap.size w w' := by
  by_cases g1 : m.k = 1
  · exact named_1 g1 w
  by_cases g2 : m.k = 2
  · exact named_2 g2 w
  by_cases g3 : m.k = 3
  · exact named_3 g3 w
  by_cases g4 : m.k = 4
  · exact named_4 g4 w
  by_cases g5 : m.k = 5
  · exact named_5 g5 w
  exact named_0 g1 g2 g3 g4 g5 w

end Go.Proofs.Ytngnifemghahkaa
