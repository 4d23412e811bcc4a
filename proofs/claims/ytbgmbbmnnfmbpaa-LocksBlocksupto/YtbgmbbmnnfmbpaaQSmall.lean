import Derived.Test.YtbgmbbmnnfmbpaaQPlain
/- Inside and Overlap, the program's and the document's. -/
namespace Go.Proofs.Ytbgmbbmnnfmbpaa.Lk
open Go.RowKit Go.Sort
set_option linter.unusedVariables false

abbrev spv (s : T2) : Value := .agg #[.string s.1, .string s.2]

theorem inside_is {k : ByteArray} {s : T2} {u : Bool} (hu : insB k s = u) (w : World) :
    Calls Try.prog 9 #[.string k, spv s] w fun e w' => e = .returned (.bool u) ∧ Below w.heap.size w w' := by
  subst hu
  obtain ⟨lo, hi⟩ := s
  go_enter Try.func9, Try.ntmps9
  go_wp2_with fail
  all_goals go_ret
  all_goals refine ⟨ret_bool ?_, by (repeat (first | exact Below.refl _ _ | assumption | refine Below.drew ?_ | refine Below.al ?_ _ | refine Below.setCell ?_ (by first | exact Nat.le_refl _ | (simp; omega) | (simp; done)) _ | refine Below.on ?_ (by assumption)))⟩
  all_goals simp only [insB, emS, ltS, leq_less]
  · rename_i h1 h0
    rw [h0]; simp
  · rename_i h
    rw [← leq_less]
    have : (Op.bytesLess lo.toList k.toList || lo.toList == k.toList) = false := by
      rw [Bool.eq_false_iff]
      intro h2
      apply h
      simpa using h2
    rw [this]; rfl

theorem refinside_is {k : ByteArray} {s : T2} {u : Bool} (hu : insB k s = u) (w : World) :
    Calls Try.prog 10 #[.string k, spv s] w fun e w' => e = .returned (.bool u) ∧ Below w.heap.size w w' := by
  subst hu
  obtain ⟨lo, hi⟩ := s
  go_enter Try.func10, Try.ntmps10
  go_wp2_with fail
  all_goals go_ret
  all_goals refine ⟨ret_bool ?_, by (repeat (first | exact Below.refl _ _ | assumption | refine Below.drew ?_ | refine Below.al ?_ _ | refine Below.setCell ?_ (by first | exact Nat.le_refl _ | (simp; omega) | (simp; done)) _ | refine Below.on ?_ (by assumption)))⟩
  all_goals simp only [insB, emS, ltS]
  · rename_i h; rw [h]; rfl
  · rename_i h1 _ _ h0; rw [h1, h0]; rfl
  · rename_i h1 h0; rw [h1, h0]; rfl

/-- the greater of two texts -/
def maxS (a b : ByteArray) : ByteArray := if ltS a b then b else a
def overB (a b : T2) : Bool := insB (maxS a.1 b.1) a && insB (maxS a.1 b.1) b

theorem run_max (a b : ByteArray) (ts : Array TypeId) (ty : TypeId) (w : World) : (Builtin.max_ ts ty #[.string a, .string b]).run Try.prog w = .ok (.string (maxS a b)) w := by
  cases h : Op.bytesLess a.toList b.toList <;> simp [Builtin.max_, Builtin.max2, Op.stringOp, maxS, ltS, asBool, h]

set_option maxHeartbeats 1000000 in
theorem overlap_is {a b : T2} {u : Bool} (hu : overB a b = u) (w : World) :
    Calls Try.prog 11 #[spv a, spv b] w fun e w' => e = .returned (.bool u) ∧ Below w.heap.size w w' := by
  obtain ⟨lo, hi⟩ := a
  obtain ⟨lo', hi'⟩ := b
  obtain ⟨m, hm⟩ : ∃ m, maxS lo lo' = m := ⟨_, rfl⟩
  have hr : ∀ (ts : Array TypeId) (ty : TypeId) (w : World), (Builtin.max_ ts ty #[.string lo, .string lo']).run Try.prog w = .ok (.string m) w := fun ts ty w => by rw [run_max, hm]
  obtain ⟨u1, h1⟩ : ∃ u1, insB m (lo, hi) = u1 := ⟨_, rfl⟩
  obtain ⟨u2, h2⟩ : ∃ u2, insB m (lo', hi') = u2 := ⟨_, rfl⟩
  simp only [overB, hm, h1, h2] at hu
  clear hm
  have H1 := hid h1
  have H2 := hid h2
  clear h1 h2
  subst hu
  cases u1
  · go_enter Try.func11, Try.ntmps11
    go_wp2_with (go_at_call 9; refine (inside_is (s := (lo, hi)) H1.out _).mono ?_; rintro e w1 ⟨rfl, hw1⟩)
    go_ret
    exact ⟨rfl, by (repeat (first | exact Below.refl _ _ | assumption | refine Below.drew ?_ | refine Below.al ?_ _ | refine Below.setCell ?_ (by first | exact Nat.le_refl _ | (simp; omega) | (simp; done)) _ | refine Below.on ?_ (by assumption)))⟩
  · go_enter Try.func11, Try.ntmps11
    go_wp2_with fail
    refine (inside_is (s := (lo, hi)) H1.out _).mono ?_
    rintro e w1 ⟨rfl, hw1⟩
    have hb : Below w.heap.size w w1 := by (repeat (first | exact Below.refl _ _ | assumption | refine Below.drew ?_ | refine Below.al ?_ _ | refine Below.setCell ?_ (by first | exact Nat.le_refl _ | (simp; omega) | (simp; done)) _ | refine Below.on ?_ (by assumption)))
    have b0 : w1.cell? ⟨w.heap.size + 1, 0, none⟩ = some (.string lo') := cell_later hw1 (by simp [go_sem])
    have b1 : w1.cell? ⟨w.heap.size + 1, 1, none⟩ = some (.string hi') := cell_later hw1 (by simp [go_sem])
    clear hw1
    go_wp2_with fail
    refine (inside_is (s := (lo', hi')) H2.out _).mono ?_
    rintro e w2 ⟨rfl, hw2⟩
    go_wp2_with fail
    go_ret
    exact ⟨rfl, by (repeat (first | exact Below.refl _ _ | assumption | refine Below.drew ?_ | refine Below.al ?_ _ | refine Below.setCell ?_ (by first | exact Nat.le_refl _ | (simp; omega) | (simp; done)) _ | refine Below.on ?_ (by assumption)))⟩

set_option maxHeartbeats 1000000 in
theorem refoverlap_is {a b : T2} {u : Bool} (hu : overB a b = u) (w : World) :
    Calls Try.prog 12 #[spv a, spv b] w fun e w' => e = .returned (.bool u) ∧ Below w.heap.size w w' := by
  obtain ⟨lo, hi⟩ := a
  obtain ⟨lo', hi'⟩ := b
  obtain ⟨c, hc⟩ : ∃ c, ltS lo lo' = c := ⟨_, rfl⟩
  have hc' : Op.bytesLess lo.toList lo'.toList = c := hc
  obtain ⟨u1, h1⟩ : ∃ u1, insB (maxS lo lo') (lo, hi) = u1 := ⟨_, rfl⟩
  obtain ⟨u2, h2⟩ : ∃ u2, insB (maxS lo lo') (lo', hi') = u2 := ⟨_, rfl⟩
  simp only [overB, h1, h2] at hu
  simp only [maxS, hc] at h1 h2
  have H1 := hid h1
  have H2 := hid h2
  clear h1 h2 hc
  subst hu
  cases c <;> simp only [if_true, if_false, Bool.false_eq_true] at H1 H2 <;> cases u1
  all_goals go_enter Try.func12, Try.ntmps12
  · go_wp2_with (go_at_call 10; refine (refinside_is (s := (lo, hi)) H1.out _).mono ?_; rintro e w1 ⟨rfl, hw1⟩)
    go_ret
    exact ⟨rfl, by (repeat (first | exact Below.refl _ _ | assumption | refine Below.drew ?_ | refine Below.al ?_ _ | refine Below.setCell ?_ (by first | exact Nat.le_refl _ | (simp; omega) | (simp; done)) _ | refine Below.on ?_ (by assumption)))⟩
  · go_wp2_with fail
    refine (refinside_is (s := (lo, hi)) H1.out _).mono ?_
    rintro e w1 ⟨rfl, hw1⟩
    have hb : Below w.heap.size w w1 := by (repeat (first | exact Below.refl _ _ | assumption | refine Below.drew ?_ | refine Below.al ?_ _ | refine Below.setCell ?_ (by first | exact Nat.le_refl _ | (simp; omega) | (simp; done)) _ | refine Below.on ?_ (by assumption)))
    have a0 : w1.cell? ⟨w.heap.size, 0, none⟩ = some (.string lo) := cell_later hw1 (by simp [go_sem])
    have b0 : w1.cell? ⟨w.heap.size + 1, 0, none⟩ = some (.string lo') := cell_later hw1 (by simp [go_sem])
    have b1 : w1.cell? ⟨w.heap.size + 1, 1, none⟩ = some (.string hi') := cell_later hw1 (by simp [go_sem])
    clear hw1
    go_wp2_with fail
    refine (refinside_is (s := (lo', hi')) H2.out _).mono ?_
    rintro e w2 ⟨rfl, hw2⟩
    go_wp2_with fail
    go_ret
    exact ⟨rfl, by (repeat (first | exact Below.refl _ _ | assumption | refine Below.drew ?_ | refine Below.al ?_ _ | refine Below.setCell ?_ (by first | exact Nat.le_refl _ | (simp; omega) | (simp; done)) _ | refine Below.on ?_ (by assumption)))⟩
  · go_wp2_with (go_at_call 10; refine (refinside_is (s := (lo, hi)) H1.out _).mono ?_; rintro e w1 ⟨rfl, hw1⟩)
    go_ret
    exact ⟨rfl, by (repeat (first | exact Below.refl _ _ | assumption | refine Below.drew ?_ | refine Below.al ?_ _ | refine Below.setCell ?_ (by first | exact Nat.le_refl _ | (simp; omega) | (simp; done)) _ | refine Below.on ?_ (by assumption)))⟩
  · go_wp2_with fail
    refine (refinside_is (s := (lo, hi)) H1.out _).mono ?_
    rintro e w1 ⟨rfl, hw1⟩
    have hb : Below w.heap.size w w1 := by (repeat (first | exact Below.refl _ _ | assumption | refine Below.drew ?_ | refine Below.al ?_ _ | refine Below.setCell ?_ (by first | exact Nat.le_refl _ | (simp; omega) | (simp; done)) _ | refine Below.on ?_ (by assumption)))
    have b0 : w1.cell? ⟨w.heap.size + 1, 0, none⟩ = some (.string lo') := cell_later hw1 (by simp [go_sem])
    have b1 : w1.cell? ⟨w.heap.size + 1, 1, none⟩ = some (.string hi') := cell_later hw1 (by simp [go_sem])
    clear hw1
    go_wp2_with fail
    refine (refinside_is (s := (lo', hi')) H2.out _).mono ?_
    rintro e w2 ⟨rfl, hw2⟩
    go_wp2_with fail
    go_ret
    exact ⟨rfl, by (repeat (first | exact Below.refl _ _ | assumption | refine Below.drew ?_ | refine Below.al ?_ _ | refine Below.setCell ?_ (by first | exact Nat.le_refl _ | (simp; omega) | (simp; done)) _ | refine Below.on ?_ (by assumption)))⟩

end Go.Proofs.Ytbgmbbmnnfmbpaa.Lk
