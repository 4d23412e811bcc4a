import Derived.Test.YtfafkohghgliaabDoorTuQ
import Derived.Test.YtfafkohghgliaabDoorRBytes
import Derived.Lib.Bytealg
/- A byte 0 is sought, and written as two, plain. -/
namespace Go.Proofs.YtfafkohghgliaabDoor.Tu
open Go.Proofs.YtfafkohghgliaabDoor
set_option linter.unusedVariables false
set_option linter.unusedSectionVars false
variable [DecidableEq Vl]

theorem esc_no : ∀ {p : List Nat}, 0 ∉ p → esc p = p
  | [], _ => rfl
  | b :: p, h => by
    have hb : b ≠ 0 := fun e => h (by simp [e])
    have ih := esc_no (p := p) (fun e => h (List.mem_cons_of_mem _ e))
    show (if b = 0 then [0, 255] else [b]) ++ esc p = _
    rw [if_neg hb, ih]; rfl
theorem esc_app (a b : List Nat) : esc (a ++ b) = esc a ++ esc b := by simp [esc]
theorem esc_cut {p t : List Nat} (h : 0 ∉ p) : esc (p ++ 0 :: t) = p ++ [0, 255] ++ esc t := by
  rw [esc_app, esc_no h, List.append_assoc]; rfl
theorem zero_nats {l : List Nat} (h8 : B8 l) : (0 : UInt8) ∈ l.map UInt8.ofNat ↔ 0 ∈ l := by
  constructor
  · intro h
    obtain ⟨b, hb, e⟩ := List.mem_map.1 h
    have : b = 0 := by
      have := congrArg UInt8.toNat e
      simpa [Nat.mod_eq_of_lt (h8 b hb)] using this
    rw [← this]; exact hb
  · intro h
    exact List.mem_map.2 ⟨0, h, rfl⟩
theorem ixb_none : ∀ {l : List UInt8}, (0 : UInt8) ∉ l → Lib.indexByte l 0 = -1
  | [], _ => rfl
  | b :: l, h => by
    have hb : b ≠ 0 := fun e => h (by simp [e])
    have ih := ixb_none (l := l) (fun e => h (by simp [e]))
    simp [Lib.indexByte, hb, ih]
theorem ixb_at : ∀ {a t : List UInt8}, (0 : UInt8) ∉ a → Lib.indexByte (a ++ 0 :: t) 0 = a.length
  | [], t, _ => by simp [Lib.indexByte]
  | b :: a, t, h => by
    have hb : b ≠ 0 := fun e => h (by simp [e])
    have ih := ixb_at (a := a) (t := t) (fun e => h (by simp [e]))
    have hn : ((a.length : Int) == -1) = false := by rw [beq_eq_false_iff_ne]; omega
    simp only [List.cons_append, Lib.indexByte, ih, hn]
    simp [hb]
theorem ix0_none {l : List Nat} (h8 : B8 l) (h : 0 ∉ l) : Lib.indexByte (ofNats l).data.toList 0 = -1 := by
  show Lib.indexByte (l.map UInt8.ofNat) 0 = -1
  exact ixb_none (fun e => h ((zero_nats h8).1 e))
theorem ix0_at {p t : List Nat} (h8 : B8 p) (h : 0 ∉ p) : Lib.indexByte (ofNats (p ++ 0 :: t)).data.toList 0 = p.length := by
  show Lib.indexByte ((p ++ 0 :: t).map UInt8.ofNat) 0 = _
  rw [List.map_append, List.map_cons]
  show Lib.indexByte (p.map UInt8.ofNat ++ 0 :: t.map UInt8.ofNat) 0 = _
  rw [ixb_at (fun e => h ((zero_nats h8).1 e)), List.length_map]
theorem count0 {l : List Nat} (h8 : B8 l) : Lib.countByte (ofNats l).data.toList 0 = l.count 0 := by
  show (l.map UInt8.ofNat).count 0 = _
  induction l with
  | nil => rfl
  | cons b l ih =>
    have ih := ih (fun x hx => h8 x (List.mem_cons_of_mem _ hx))
    have hb := h8 b (by simp)
    rw [List.map_cons, List.count_cons, List.count_cons, ih]
    have e : (UInt8.ofNat b == 0) = (b == 0) := by
      by_cases e : b = 0
      · subst e; rfl
      · have : UInt8.ofNat b ≠ 0 := fun h => e (by have := congrArg UInt8.toNat h; simpa [Nat.mod_eq_of_lt hb] using this)
        rw [beq_eq_false_iff_ne.2 this, beq_eq_false_iff_ne.2 e]
    rw [e]
/-- where a byte 0 is, the list is cut at the first -/
theorem cut0 {l : List Nat} (h : 0 ∈ l) : ∃ p t, l = p ++ 0 :: t ∧ 0 ∉ p := List.eq_append_cons_of_mem h
theorem takeV_text (r : List Nat) : takeV (48 :: r) = (unesc r).map fun p => (vText p.1, p.2) := by
  rw [takeV_cons, if_neg (by decide), if_neg (by decide), if_neg (by decide), if_pos rfl]
end Go.Proofs.YtfafkohghgliaabDoor.Tu
