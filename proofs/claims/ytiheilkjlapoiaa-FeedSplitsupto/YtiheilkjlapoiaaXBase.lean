import Derived.Test.YtiheilkjlapoiaaQKeys
/- Entries of a ledger, in plain mathematics; how they are compared. -/
namespace Go.Proofs.Ytiheilkjlapoiaa.Lg
open Go.RowKit Go.Sort Lk
set_option linter.unusedVariables false

/-- an entry -/
structure En where
  id : Ix
  home : Int
  oc : Int
  w : Int
  l : Int
  n : Int
abbrev En.val (e : En) : Value := .agg #[.int .u32 e.id.1, .int .u32 e.id.2, .int .u32 e.home, .int .i64 e.oc, .int .u64 e.w, .int .u32 e.l, .int .u32 e.n]
abbrev ecs (e : En) : List Value := [.int .u32 e.id.1, .int .u32 e.id.2, .int .u32 e.home, .int .i64 e.oc, .int .u64 e.w, .int .u32 e.l, .int .u32 e.n]
abbrev En.zero : En := ⟨(0, 0), 0, 0, 0, 0, 0⟩
/-- may it be? -/
def mayB (e : En) : Bool := e.oc == 1 || (e.oc == 2 && sameB e.w e.l e.n 0 0 0)
def agrB (a b : En) : Bool := a.oc == b.oc && sameB a.w a.l a.n b.w b.l b.n
def sameE (a b : En) : Bool := sameI a.id b.id && (a.home == b.home && (a.oc == b.oc && sameB a.w a.l a.n b.w b.l b.n))
theorem sameE_iff {a b : En} : sameE a b = true ↔ a = b := by
  obtain ⟨ai, ah, ao, aw, al, an⟩ := a
  obtain ⟨bi, bh, bo, bw, bl, bn⟩ := b
  simp [sameE, sameI, sameB_iff]
theorem sameE_self (a : En) : sameE a a = true := sameE_iff.2 rfl
theorem sameE_no {a b : En} (h : a ≠ b) : sameE a b = false := by
  cases hs : sameE a b with
  | false => rfl
  | true => exact absurd (sameE_iff.1 hs) h
theorem agrB_self (a : En) : agrB a a = true := by simp [agrB, sameB_self]
theorem agrB_comm (a b : En) : agrB a b = agrB b a := by
  rw [Bool.eq_iff_iff]
  simp only [agrB, Bool.and_eq_true, sameB_iff, beq_iff_eq]
  constructor <;> rintro ⟨h1, h2, h3, h4⟩ <;> exact ⟨h1.symm, h2.symm, h3.symm, h4.symm⟩

theorem run_eqS (a b c x y z : Int) (w : World) : (binOp .eql 30 (.agg #[.int .u64 a, .int .u32 b, .int .u32 c]) (.agg #[.int .u64 x, .int .u32 y, .int .u32 z])).run Try.prog w = .ok (.bool (sameB a b c x y z)) w := by
  by_cases h1 : a = x <;> by_cases h2 : b = y <;> by_cases h3 : c = z <;> simp [sameB, h1, h2, h3, go_sem, Try.underlying30]
theorem run_neS (a b c x y z : Int) (w : World) : (binOp .neq 30 (.agg #[.int .u64 a, .int .u32 b, .int .u32 c]) (.agg #[.int .u64 x, .int .u32 y, .int .u32 z])).run Try.prog w = .ok (.bool (!sameB a b c x y z)) w := by
  by_cases h1 : a = x <;> by_cases h2 : b = y <;> by_cases h3 : c = z <;> simp [sameB, h1, h2, h3, go_sem, Try.underlying30]
theorem eq_in_T (d : Nat) (a b : Ix) (w : World) : (Op.equalIn (d + 1 + 1) 57 (ixv a) (ixv b)).run Try.prog w = .ok (sameI a b) w := by
  rw [sameI_eq]
  rw [run_equalIn_struct w _ _ _ _ (by kernel_rfl) (by kernel_rfl)]
  have hi : ∀ (x y : Int) (w : World), (Op.equalIn (d + 1) 28 (.int .u32 x) (.int .u32 y)).run Try.prog w = .ok (x == y) w := fun x y w => eq_u32 d x y w
  by_cases h1 : a.1 = b.1 <;> by_cases h2 : a.2 = b.2 <;> simp [h1, h2, hi, go_sem, Try.underlying57]
theorem eq_in_S (d : Nat) (a b c x y z : Int) (w : World) : (Op.equalIn (d + 1 + 1) 30 (.agg #[.int .u64 a, .int .u32 b, .int .u32 c]) (.agg #[.int .u64 x, .int .u32 y, .int .u32 z])).run Try.prog w = .ok (sameB a b c x y z) w := by
  rw [run_equalIn_struct w _ _ _ _ (by kernel_rfl) (by kernel_rfl)]
  by_cases h1 : a = x <;> by_cases h2 : b = y <;> by_cases h3 : c = z <;> simp [sameB, h1, h2, h3, go_sem, Try.underlying30, Try.underlying28, Try.underlying27]
theorem eq_in_E (a b : En) (w : World) : (Op.equalIn 10000 60 a.val b.val).run Try.prog w = .ok (sameE a b) w := by
  obtain ⟨⟨ac, aq⟩, ah, ao, aw, al, an⟩ := a
  obtain ⟨⟨bc, bq⟩, bh, bo, bw, bl, bn⟩ := b
  have hT : ∀ w, (Op.equalIn 9999 57 (.agg #[.int .u32 ac, .int .u32 aq]) (.agg #[.int .u32 bc, .int .u32 bq])).run Try.prog w = .ok (sameI (ac, aq) (bc, bq)) w := fun w => eq_in_T 9997 (ac, aq) (bc, bq) w
  have hS : ∀ w, (Op.equalIn 9999 30 (.agg #[.int .u64 aw, .int .u32 al, .int .u32 an]) (.agg #[.int .u64 bw, .int .u32 bl, .int .u32 bn])).run Try.prog w = .ok (sameB aw al an bw bl bn) w := fun w => eq_in_S 9997 aw al an bw bl bn w
  have hU : ∀ (x y : Int) (w : World), (Op.equalIn 9999 28 (.int .u32 x) (.int .u32 y)).run Try.prog w = .ok (x == y) w := fun x y w => eq_u32 9998 x y w
  have hO : ∀ (x y : Int) (w : World), (Op.equalIn 9999 58 (.int .i64 x) (.int .i64 y)).run Try.prog w = .ok (x == y) w := fun x y w => run_equalIn_int w 9998 _ _ _ _ _ Try.underlying58
  show (Op.equalIn (9999 + 1) _ _ _).run _ _ = _
  rw [run_equalIn_struct w _ _ _ _ (by kernel_rfl) (by kernel_rfl)]
  simp only [sameE]
  by_cases h2 : ah = bh <;> by_cases h3 : ao = bo <;> cases h1 : sameI (ac, aq) (bc, bq) <;> cases h4 : sameB aw al an bw bl bn <;>
    simp [h1, h2, h3, h4, hT, hS, hU, hO, go_sem, Try.underlying60]
theorem run_eqE (a b : En) (w : World) : (binOp .eql 60 a.val b.val).run Try.prog w = .ok (.bool (sameE a b)) w := by
  rw [run_eql_struct, eq_in_E]; rfl
theorem run_neE (a b : En) (w : World) : (binOp .neq 60 a.val b.val).run Try.prog w = .ok (.bool (!sameE a b)) w := by
  rw [run_neq_struct, eq_in_E]; rfl

/-- the entry that stands for a transaction -/
def outM (M : List En) (t : Ix) : Option En := M.find? (fun e => sameI e.id t)
/-- what Decide leaves and answers -/
def decM (M : List En) (e : En) : List En := if mayB e then (match outM M e.id with | none => M ++ [e] | some _ => M) else M
def decE (M : List En) (e : En) : En := if mayB e then (outM M e.id).getD e else En.zero
def decX (M : List En) (e : En) : Int := if mayB e then (if agrB e ((outM M e.id).getD e) then 0 else 110) else 1
theorem sameI_iff {a b : Ix} : sameI a b = true ↔ a = b := by simp [sameI]
theorem outM_some {M : List En} {t : Ix} {f : En} (h : outM M t = some f) : f ∈ M ∧ f.id = t := by
  have h1 : sameI f.id t = true := List.find?_some (p := fun e : En => sameI e.id t) h
  exact ⟨List.mem_of_find?_eq_some h, sameI_iff.1 h1⟩
theorem outM_none {M : List En} {t : Ix} : outM M t = none ↔ t ∉ M.map En.id := by
  rw [outM, List.find?_eq_none]
  simp only [Bool.not_eq_true, List.mem_map, not_exists, not_and]
  constructor
  · intro h e he ht; have := h e he; rw [← Bool.not_eq_true, sameI_iff] at this; exact this ht
  · intro h e he; rw [← Bool.not_eq_true, sameI_iff]; exact fun ht => h e he ht
theorem outM_mem {M : List En} (hn : (M.map En.id).Nodup) {f : En} (h : f ∈ M) : outM M f.id = some f := by
  cases ho : outM M f.id with
  | none => exact absurd (List.mem_map.2 ⟨f, h, rfl⟩) (outM_none.1 ho)
  | some g =>
    obtain ⟨h1, h2⟩ := outM_some ho
    rw [nodup_inj hn h1 h h2]
theorem outM_app (M : List En) (e : En) (t : Ix) : outM (M ++ [e]) t = (match outM M t with | some f => some f | none => if sameI e.id t then some e else none) := by
  rw [outM, List.find?_append]
  show (outM M t).or _ = _
  cases outM M t with
  | some f => rfl
  | none => cases h : sameI e.id t <;> simp [h]
theorem decM_nodup {M : List En} (hn : (M.map En.id).Nodup) (e : En) : ((decM M e).map En.id).Nodup := by
  unfold decM
  split
  · cases ho : outM M e.id with
    | some f => exact hn
    | none =>
      simp only [List.map_append, List.map_cons, List.map_nil]
      rw [List.nodup_append]
      refine ⟨hn, by simp, fun a ha b hb => ?_⟩
      simp at hb; subst hb
      rintro rfl; exact outM_none.1 ho ha
  · exact hn
end Go.Proofs.Ytiheilkjlapoiaa.Lg
