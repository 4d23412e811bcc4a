import Derived.Test.YtfafkohghgliaabDoorTuO
/- A tuple is read value by value, plain. -/
namespace Go.Proofs.YtfafkohghgliaabDoor.Tu
open Go.Proofs.YtfafkohghgliaabDoor
set_option linter.unusedVariables false
set_option linter.unusedSectionVars false
variable [DecidableEq Vl]

theorem take_less {l r : List Nat} {v : Vl} (h8 : B8 l) (h : takeV l = some (v, r)) : r.length < l.length ∧ B8 r ∧ codeV v ++ r = l := by
  obtain ⟨e, _, hv, _⟩ := take_only h8 h
  obtain ⟨c, q, e2, _⟩ := code_head hv
  refine ⟨?_, fun x hx => h8 x (by rw [e]; exact List.mem_append_right _ hx), e.symm⟩
  rw [e, List.length_append, e2]
  simp
theorem decF_more : ∀ {f g : Nat} {l : List Nat}, B8 l → l.length ≤ f → l.length ≤ g → decF f l = decF g l
  | 0, g, l, _, h, _ => by
    obtain rfl : l = [] := List.eq_nil_of_length_eq_zero (by omega)
    cases g <;> rfl
  | f + 1, 0, l, _, _, h => by
    obtain rfl : l = [] := List.eq_nil_of_length_eq_zero (by omega)
    rfl
  | f + 1, g + 1, l, h8, h1, h2 => by
    unfold decF
    by_cases e : l = []
    · rw [if_pos e, if_pos e]
    · rw [if_neg e, if_neg e]
      cases ht : takeV l with
      | none => rfl
      | some p =>
        obtain ⟨v, r⟩ := p
        obtain ⟨hr, r8, _⟩ := take_less h8 ht
        show (decF f r).map _ = (decF g r).map _
        rw [decF_more (f := f) (g := g) r8 (by omega) (by omega)]
theorem decT_nil : decT [] = some [] := rfl
theorem decT_none {l : List Nat} (h0 : l ≠ []) (h : takeV l = none) : decT l = none := by
  unfold decT
  cases hl : l.length with
  | zero => exact absurd (List.eq_nil_of_length_eq_zero hl) h0
  | succ f => unfold decF; rw [if_neg h0, h]
theorem decT_take {l r : List Nat} {v : Vl} (h8 : B8 l) (h : takeV l = some (v, r)) : decT l = (decT r).map (v :: ·) := by
  obtain ⟨hr, r8, _⟩ := take_less h8 h
  have h0 : l ≠ [] := by intro e; subst e; simp at hr
  unfold decT
  cases hl : l.length with
  | zero => omega
  | succ f =>
    have e : decF (f + 1) l = (decF f r).map (v :: ·) := by
      show (if l = [] then some [] else match takeV l with | none => none | some (v, r) => (decF f r).map (v :: ·)) = _
      rw [if_neg h0, h]
    rw [e]
    rw [decF_more (f := f) (g := r.length) r8 (by omega) (Nat.le_refl _)]
theorem unesc_none : ∀ {l : List Nat}, 0 ∉ l → unesc l = none
  | [], _ => rfl
  | [b], h => by unfold unesc; rw [if_neg (fun e => h (by simp [e]))]
  | b :: c :: r, h => by
    unfold unesc
    rw [if_neg (fun e => h (by simp [e])), unesc_none (l := c :: r) (fun e => h (List.mem_cons_of_mem _ e))]
    rfl
theorem unesc_end {r : List Nat} (h : r.head? ≠ some 255) : ∀ {p : List Nat}, 0 ∉ p → unesc (p ++ 0 :: r) = some (p, r)
  | [], _ => by
    cases r with
    | nil => rfl
    | cons c r => show unesc (0 :: c :: r) = _; unfold unesc; rw [if_pos rfl, if_neg (by simpa using h)]
  | b :: p, h0 => by
    have ih := unesc_end h (p := p) (fun e => h0 (List.mem_cons_of_mem _ e))
    have hb : b ≠ 0 := fun e => h0 (by simp [e])
    cases hp : p ++ 0 :: r with
    | nil => simp at hp
    | cons c q =>
      rw [hp] at ih
      show unesc (b :: (p ++ 0 :: r)) = _
      rw [hp]
      unfold unesc
      rw [if_neg hb, ih]; rfl
theorem unesc_more {r : List Nat} : ∀ {p : List Nat}, 0 ∉ p → unesc (p ++ 0 :: 255 :: r) = (unesc r).map fun q => (p ++ 0 :: q.1, q.2)
  | [], _ => by show unesc (0 :: 255 :: r) = _; rw [unesc, if_pos rfl, if_pos rfl]; rfl
  | b :: p, h0 => by
    have ih := unesc_more (r := r) (p := p) (fun e => h0 (List.mem_cons_of_mem _ e))
    have hb : b ≠ 0 := fun e => h0 (by simp [e])
    cases hp : p ++ 0 :: 255 :: r with
    | nil => simp at hp
    | cons c q =>
      rw [hp] at ih
      show unesc (b :: (p ++ 0 :: 255 :: r)) = _
      rw [hp]
      rw [show unesc (b :: c :: q) = if b = 0 then (if c = 255 then (unesc q).map fun p => (0 :: p.1, p.2) else some ([], c :: q)) else (unesc (c :: q)).map fun p => (b :: p.1, p.2) from rfl]
      rw [if_neg hb, ih]
      show _ = Option.map (fun q : List Nat × List Nat => (b :: p ++ 0 :: q.1, q.2)) (unesc r)
      generalize unesc r = o
      cases o <;> rfl
/-! integers -/
theorem takeI_short {c : Nat} {r : List Nat} (h : r.length < dgs c) : takeI c r = none := by unfold takeI; rw [if_pos h]
theorem takeI_app {c : Nat} {d z : List Nat} (hd : d.length = dgs c) : takeI c (d ++ z) = (takeI c d).map fun p => (p.1, z) := by
  unfold takeI
  rw [if_neg (show ¬ (d ++ z).length < dgs c by rw [List.length_append]; omega), if_neg (show ¬ d.length < dgs c by omega), List.take_left' hd, List.drop_left' hd, List.take_of_length_le (by omega)]
  split <;> rfl
theorem takeV_int {c : Nat} (r : List Nat) (h1 : 16 ≤ c) (h2 : c ≤ 32) : takeV (c :: r) = takeI c r := by
  rw [takeV_cons, if_neg (by omega), if_neg (by omega), if_neg (by omega), if_neg (by omega), if_pos ⟨h1, h2⟩]
theorem takeI_hit {c : Nat} {d z : List Nat} {x : Int} (h1 : 16 ≤ c) (h2 : c ≤ 32) (hd : d.length = dgs c) (hx : In64 x) (h : intC x = c :: d) : takeI c (d ++ z) = some (vInt x, z) := by
  have k := take_code (v := vInt x) (r := []) (ok_int x) ⟨hx, B8.nil⟩ (by simp)
  rw [code_int, h, List.append_nil, takeV_int _ h1 h2] at k
  rw [takeI_app hd, k]; rfl
theorem takeI_miss {c : Nat} {d z : List Nat} {x q : Int} (h8 : B8 (c :: d)) (h1 : 16 ≤ c) (h2 : c ≤ 32) (hd : d.length = dgs c) (hx : In64 x) (hq : x = dgI c (vb (dgL c d)) + q * 18446744073709551616) (h : intC x ≠ c :: d) : takeI c (d ++ z) = none := by
  rw [takeI_app hd]
  cases ht : takeI c d with
  | none => rfl
  | some p =>
    exfalso
    have ht' := ht
    unfold takeI at ht'
    rw [if_neg (by omega), List.take_of_length_le (by omega), List.drop_eq_nil_of_le (by omega)] at ht'
    split at ht'
    · rename_i hh
      injection ht' with ht'
      subst ht'
      obtain ⟨a1, a2⟩ := hx
      obtain ⟨_, b1, b2⟩ := hh
      have hq0 : q = 0 := by omega
      have e : x = dgI c (vb (dgL c d)) := by rw [hq, hq0]; omega
      rw [← e] at ht
      rw [← takeV_int _ h1 h2] at ht
      have k := (take_only h8 ht).1
      rw [code_int, List.append_nil] at k
      exact h k.symm
    · cases ht'
end Go.Proofs.YtfafkohghgliaabDoor.Tu
