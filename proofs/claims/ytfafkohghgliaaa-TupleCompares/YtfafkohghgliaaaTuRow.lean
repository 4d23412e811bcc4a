import Derived.Test.YtfafkohghgliaaaTuO
import Derived.Test.YtfafkohghgliaaaGRows
/- Rows of values. -/
namespace Go.Proofs.Ytfafkohghgliaaa.Tu
open Go.RowKit Go.Sort Go.Proofs.Ytfafkohghgliaaa
set_option linter.unusedVariables false
set_option linter.unusedSectionVars false
variable [DecidableEq Vl]

theorem bdn {B : Nat} {a w : World} (h : RowKit.Below B a w) (n : Nat) : RowKit.Below B a (w.drewN n) := ⟨h.os, h.tape, h.output, h.size, h.block⟩
theorem toL (l : List Nat) : (ofNats l).toList = l.map UInt8.ofNat := by rw [ByteArray.toList_eq]; simp [ofNats]
theorem less_nats : ∀ {a b : List Nat}, B8 a → B8 b → Op.bytesLess (a.map UInt8.ofNat) (b.map UInt8.ofNat) = ltL a b
  | [], [], _, _ => rfl
  | [], _ :: _, _, _ => rfl
  | _ :: _, [], _, _ => rfl
  | a :: x, b :: y, ha, hb => by
    have ih := less_nats (a := x) (b := y) (fun c hc => ha c (by simp [hc])) (fun c hc => hb c (by simp [hc]))
    have h1 := ha a (by simp)
    have h2 := hb b (by simp)
    simp only [List.map_cons, Op.bytesLess, ltL, ih]
    have e1 : (UInt8.ofNat a < UInt8.ofNat b) ↔ a < b := by
      rw [UInt8.lt_iff_toNat_lt]
      simp [Nat.mod_eq_of_lt h1, Nat.mod_eq_of_lt h2]
    have e2 : (UInt8.ofNat a == UInt8.ofNat b) = decide (a = b) := by
      by_cases e : a = b
      · subst e; simp
      · have : UInt8.ofNat a ≠ UInt8.ofNat b := fun h => e (by have := congrArg UInt8.toNat h; simpa [Nat.mod_eq_of_lt h1, Nat.mod_eq_of_lt h2] using this)
        simp [e, beq_eq_false_iff_ne.2 this]
    rw [e2]
    simp only [e1]
/-- the machine's comparison of texts -/
theorem bless {a b : List Nat} (ha : B8 a) (hb : B8 b) : Op.bytesLess (ofNats a).toList (ofNats b).toList = ltL a b := by rw [toL, toL, less_nats ha hb]
theorem beq_nats {a b : List Nat} (ha : B8 a) (hb : B8 b) : ((ofNats a).toList == (ofNats b).toList) = decide (a = b) := by
  by_cases e : a = b
  · subst e; simp
  · have : (ofNats a).toList ≠ (ofNats b).toList := fun h => e (ofNats_inj ha hb (by
      rw [ByteArray.toList_eq, ByteArray.toList_eq] at h
      exact ByteArray.ext (Array.toList_inj.1 h)))
    rw [beq_eq_false_iff_ne.2 this]; simp [e]

/-- a value -/
abbrev vlv (k : Int) (f : Bool) (n : Int) (s : ByteArray) : Value := .agg #[.int .i64 k, .bool f, .int .i64 n, .string s]
abbrev Vl.val (v : Vl) : Value := vlv v.kd v.fl v.n (ofNats v.s)
def nthV (xs : List Vl) (i : Nat) : Vl := (xs[i]?).getD vNull
/-- a row of values -/
def RowV (w : World) (a : Option Addr) (xs : List Vl) : Prop :=
  ∀ i, i < xs.length → ∃ b off, a = some ⟨b, off, none⟩ ∧ w.cell? ⟨b, off + i * 4, none⟩ = some (.int .i64 (nthV xs i).kd) ∧ w.cell? ⟨b, off + i * 4 + 1, none⟩ = some (.bool (nthV xs i).fl) ∧
    w.cell? ⟨b, off + i * 4 + 2, none⟩ = some (.int .i64 (nthV xs i).n) ∧ w.cell? ⟨b, off + i * 4 + 3, none⟩ = some (.string (ofNats (nthV xs i).s))
theorem RowV.later {w w' : World} {a : Option Addr} {xs : List Vl} (h : RowV w a xs) (hb : Below w.heap.size w w') : RowV w' a xs := fun i hi => by
  obtain ⟨b, off, e, h0, h1, h2, h3⟩ := h i hi
  exact ⟨b, off, e, cell_later hb h0, cell_later hb h1, cell_later hb h2, cell_later hb h3⟩
theorem RowV.nil (w : World) (a : Option Addr) : RowV w a [] := fun i hi => absurd hi (Nat.not_lt_zero i)
theorem nthV_take {xs : List Vl} {k : Nat} (h : k < xs.length) : xs.take (k + 1) = xs.take k ++ [nthV xs k] := by
  rw [List.take_succ_eq_append_getElem h]; simp [nthV, h]
theorem nthV_mem {xs : List Vl} {k : Nat} (h : k < xs.length) : nthV xs k ∈ xs := by simp [nthV, h]
theorem nthV_drop {xs : List Vl} {k : Nat} (h : k < xs.length) : xs.drop k = nthV xs k :: xs.drop (k + 1) := by
  rw [List.drop_eq_getElem_cons h]; simp [nthV, h]
theorem nthV_ext {xs ys : List Vl} (h : xs.length = ys.length) (k : ∀ i, i < xs.length → nthV xs i = nthV ys i) : xs = ys := by
  apply List.ext_getElem h
  intro i h1 h2
  have := k i h1
  simpa [nthV, h1, h2] using this
/-- values are compared -/
theorem run_neV {x y : Vl} (hx : x.ok) (hy : y.ok) (w : World) : (binOp .neq 29 x.val y.val).run Try.prog w = .ok (.bool (!decide (x = y))) w := by
  have q := beq_nats hx.b8 hy.b8
  have e : decide (x = y) = (decide (x.kd = y.kd) && decide (x.fl = y.fl) && decide (x.n = y.n) && decide (x.s = y.s)) := by
    rw [Bool.eq_iff_iff]
    simp only [Bool.and_eq_true, decide_eq_true_eq]
    exact ⟨fun h => by subst h; exact ⟨⟨⟨rfl, rfl⟩, rfl⟩, rfl⟩, fun h => Vl.ext' h.1.1.1 h.1.1.2 h.1.2 h.2⟩
  rw [e]
  obtain ⟨k, f, n, s⟩ := x
  obtain ⟨k', f', n', s'⟩ := y
  simp only at q ⊢
  by_cases h1 : k = k'
  · by_cases h2 : f = f'
    · by_cases h3 : n = n'
      · subst h1 h2 h3
        simp [go_sem, Try.underlying29, q]
        by_cases h4 : s = s' <;> simp [h4]
      · subst h1 h2; simp [go_sem, Try.underlying29, h3]
    · subst h1; simp [go_sem, Try.underlying29, h2]
  · simp [go_sem, Try.underlying29, h1]
theorem run_eqV {x y : Vl} (hx : x.ok) (hy : y.ok) (w : World) : (binOp .eql 29 x.val y.val).run Try.prog w = .ok (.bool (decide (x = y))) w := by
  have q := beq_nats hx.b8 hy.b8
  have e : decide (x = y) = (decide (x.kd = y.kd) && decide (x.fl = y.fl) && decide (x.n = y.n) && decide (x.s = y.s)) := by
    rw [Bool.eq_iff_iff]
    simp only [Bool.and_eq_true, decide_eq_true_eq]
    exact ⟨fun h => by subst h; exact ⟨⟨⟨rfl, rfl⟩, rfl⟩, rfl⟩, fun h => Vl.ext' h.1.1.1 h.1.1.2 h.1.2 h.2⟩
  rw [e]
  obtain ⟨k, f, n, s⟩ := x
  obtain ⟨k', f', n', s'⟩ := y
  simp only at q ⊢
  by_cases h1 : k = k'
  · by_cases h2 : f = f'
    · by_cases h3 : n = n'
      · subst h1 h2 h3
        simp [go_sem, Try.underlying29, q]
        by_cases h4 : s = s' <;> simp [h4]
      · subst h1 h2; simp [go_sem, Try.underlying29, h3]
    · subst h1; simp [go_sem, Try.underlying29, h2]
  · simp [go_sem, Try.underlying29, h1]
end Go.Proofs.Ytfafkohghgliaaa.Tu
