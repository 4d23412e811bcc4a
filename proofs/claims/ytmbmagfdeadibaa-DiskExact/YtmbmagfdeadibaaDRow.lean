import Derived.Test.YtmbmagfdeadibaaDSync
import Derived.Test.YtmbmagfdeadibaaDBytes
import Derived.Test.YtmbmagfdeadibaaDPut
import Derived.Test.YtmbmagfdeadibaaDClone
/- Plain: a slot as bytes and how many of them are synced; what the document's cells say of it. -/
namespace Go.Proofs.Ytmbmagfdeadibaa
open Go.RowKit Go.Sort
set_option linter.unusedVariables false

def tru (b : List Nat) : List Cc := b.map fun v => ⟨v, true⟩
def rowC (b : List Nat) (m : Nat) : List Cc := tru (b.take m) ++ loose (b.drop m)
theorem tru_length (b : List Nat) : (tru b).length = b.length := by simp [tru]
theorem rowC_length (b : List Nat) (m : Nat) : (rowC b m).length = b.length := by
  simp only [rowC, List.length_append, tru_length, loose_length, List.length_take, List.length_drop]; omega
theorem rowC_mk (b : List Nat) (m : Nat) : mkC b (sureP m b.length) = rowC b m := by
  apply List.ext_getElem?
  intro i
  by_cases h : i < b.length
  · rw [show (mkC b (sureP m b.length))[i]? = some ⟨b[i], sureP m b.length i⟩ by simp [mkC, h]]
    by_cases hm : i < m
    · rw [rowC, List.getElem?_append_left (by rw [tru_length, List.length_take]; omega)]
      simp [tru, hm, h, sureP]
    · have hl : (tru (b.take m)).length ≤ i := by rw [tru_length, List.length_take]; omega
      have hmi : m + (i - m) = i := by omega
      have hmin : min m b.length = m := by omega
      rw [rowC, List.getElem?_append_right hl, tru_length, List.length_take, hmin]
      simp [loose, List.getElem?_drop, hmi, h, sureP]
      omega
  · rw [List.getElem?_eq_none (by rw [mkC_length]; omega), List.getElem?_eq_none (by rw [rowC_length]; omega)]
theorem rowC_bytes (b : List Nat) (m : Nat) : bytesC (rowC b m) = b := by
  have h1 : bytesC (tru (b.take m)) = b.take m := by simp [bytesC, tru, Function.comp_def]
  have h2 : bytesC (loose (b.drop m)) = b.drop m := by simp [bytesC, loose, Function.comp_def]
  have : bytesC (rowC b m) = bytesC (tru (b.take m)) ++ bytesC (loose (b.drop m)) := by simp [bytesC, rowC]
  rw [this, h1, h2, List.take_append_drop]
theorem rowC_sures {b : List Nat} {m : Nat} (h : m ≤ b.length) : sures (rowC b m) = m := by
  have h1 : (tru (b.take m)).filter Cc.s = tru (b.take m) := List.filter_eq_self.2 (fun c hc => by
    obtain ⟨v, _, rfl⟩ := List.mem_map.1 hc; rfl)
  have h2 : (loose (b.drop m)).filter Cc.s = [] := List.filter_eq_nil_iff.2 (fun c hc => by
    obtain ⟨v, _, rfl⟩ := List.mem_map.1 hc; simp)
  rw [sures, rowC, List.filter_append, h1, h2, List.append_nil, tru_length, List.length_take]
  omega
theorem rowC_append {b t : List Nat} {m : Nat} (h : m ≤ b.length) : rowC b m ++ loose t = rowC (b ++ t) m := by
  rw [rowC, rowC, List.append_assoc, ← loose_append, List.take_append_of_le_length h, List.drop_append_of_le_length h]
theorem rowC_take {b : List Nat} {m n : Nat} (hn : n ≤ b.length) : (rowC b m).take n = rowC (b.take n) (min m n) := by
  rw [rowC, rowC, List.take_append, tru_length]
  by_cases h : n ≤ m
  · rw [show min m n = n by omega, List.length_take, show n - min m b.length = 0 by omega, List.take_zero, List.append_nil]
    have e1 : (tru (b.take m)).take n = tru (b.take n) := by
      simp only [tru, ← List.map_take, List.take_take]
      rw [show min n m = n by omega]
    rw [e1, List.take_take, Nat.min_self, List.drop_eq_nil_of_le (by rw [List.length_take]; omega)]
    simp [loose]
  · rw [show min m n = m by omega, List.length_take]
    have hm : min m b.length = m := by omega
    rw [hm]
    have e1 : (tru (b.take m)).take n = tru (b.take m) := List.take_of_length_le (by rw [tru_length, List.length_take]; omega)
    have e2 : (loose (b.drop m)).take (n - m) = loose ((b.drop m).take (n - m)) := by simp [loose, List.map_take]
    rw [e1, e2, List.take_take, show min m n = m by omega, List.drop_take]
theorem kept_tru (b : List Nat) : ∀ (out : List Cc) (k : Int), (tru b).foldl keptStep (out, k) = (out ++ tru b, k) := by
  induction b with
  | nil => intro out k; simp [tru]
  | cons v b ih =>
    intro out k
    have e : tru (v :: b) = ⟨v, true⟩ :: tru b := rfl
    rw [e, List.foldl_cons, show keptStep (out, k) ⟨v, true⟩ = (out ++ [⟨v, true⟩], k) by simp [keptStep], ih, List.append_assoc]
    rfl
theorem kept_loose (b : List Nat) : ∀ (out : List Cc) (k : Int), ((loose b).foldl keptStep (out, k)).1 = out ++ tru (b.take k.toNat) := by
  induction b with
  | nil => intro out k; simp [loose, tru]
  | cons v b ih =>
    intro out k
    have e : loose (v :: b) = ⟨v, false⟩ :: loose b := rfl
    rw [e, List.foldl_cons]
    by_cases h : 0 < k
    · rw [show keptStep (out, k) ⟨v, false⟩ = (out ++ [⟨v, true⟩], k - 1) by simp [keptStep, h], ih, List.append_assoc]
      obtain ⟨j, hj⟩ : ∃ j, k.toNat = j + 1 := ⟨k.toNat - 1, by omega⟩
      rw [show (k - 1).toNat = j by omega, hj, List.take_succ_cons]
      rfl
    · rw [show keptStep (out, k) ⟨v, false⟩ = (out, k) by simp [keptStep, h], ih, show k.toNat = 0 by omega, List.take_zero, List.take_zero]
/-- how many bytes a crash leaves -/
def left (len m : Nat) (keep : Int) : Nat := m + min keep.toNat (len - m)
theorem rowC_kept {b : List Nat} {m : Nat} (h : m ≤ b.length) (keep : Int) : (keptF keep (rowC b m)).1 = rowC (b.take (left b.length m keep)) (left b.length m keep) := by
  rw [keptF, rowC, List.foldl_append, kept_tru, kept_loose, List.nil_append]
  have hL : left b.length m keep ≤ b.length := by unfold left; omega
  have hd : (b.take (left b.length m keep)).drop (left b.length m keep) = [] := List.drop_eq_nil_of_le (by rw [List.length_take]; omega)
  rw [rowC, List.take_take, Nat.min_self, hd, show loose [] = [] from rfl, List.append_nil]
  simp only [tru, ← List.map_append]
  congr 1
  have : (b.drop m).take keep.toNat = (b.drop m).take (min keep.toNat (b.length - m)) := by
    rcases Nat.le_total keep.toNat (b.length - m) with h1 | h1
    · rw [Nat.min_eq_left h1]
    · rw [Nat.min_eq_right h1, List.take_of_length_le (by rw [List.length_drop]; omega), List.take_of_length_le (by rw [List.length_drop]; omega)]
  rw [this, left, List.take_add]
theorem rowC_full (b : List Nat) : mkC b (sureP b.length b.length) = rowC b b.length := rowC_mk b b.length

/-- a slot, and a disk -/
structure Sl where
  b : List Nat
  s : Nat
structure Dk where
  cap : Nat
  x : Sl
  y : Sl
structure Dk.ok (d : Dk) : Prop where
  bx : B8 d.x.b
  by' : B8 d.y.b
  sx : d.x.s ≤ d.x.b.length
  sy : d.y.s ≤ d.y.b.length
  used : d.x.b.length + d.y.b.length ≤ d.cap
  cap : d.cap ≤ 1048576
def Dk.used (d : Dk) : Nat := d.x.b.length + d.y.b.length
def Dk.free (d : Dk) : Nat := d.cap - d.used
def Dk.new (c : Int) : Dk := ⟨fit c, ⟨[], 0⟩, ⟨[], 0⟩⟩
def Sl.app (s : Sl) (t : List Nat) : Sl := ⟨s.b ++ t, s.s⟩
def Sl.sync (s : Sl) : Sl := ⟨s.b, s.b.length⟩
def Sl.cut (s : Sl) (n : Nat) : Sl := ⟨s.b.take n, min s.s n⟩
def Sl.crash (s : Sl) (keep : Int) : Sl := ⟨s.b.take (left s.b.length s.s keep), left s.b.length s.s keep⟩
def Dk.appE (d : Dk) (s : Int) (t : List Nat) : Int := if s = 0 ∨ s = 1 then (if t.length ≤ d.free then 0 else 60) else 61
def Dk.app (d : Dk) (s : Int) (t : List Nat) : Dk := if t.length ≤ d.free then (if s = 0 then { d with x := d.x.app t } else if s = 1 then { d with y := d.y.app t } else d) else d
def Dk.sync (d : Dk) : Dk := { d with x := d.x.sync, y := d.y.sync }
def Dk.bytes (d : Dk) (s : Int) : List Nat := if s = 0 then d.x.b else if s = 1 then d.y.b else []
def Dk.synced (d : Dk) (s : Int) : Nat := if s = 0 then d.x.s else if s = 1 then d.y.s else 0
def Dk.cutE (d : Dk) (s n : Int) : Int := if (s = 0 ∨ s = 1) ∧ 0 ≤ n ∧ n ≤ ((d.bytes s).length : Int) then 0 else 61
def Dk.cut (d : Dk) (s n : Int) : Dk := if 0 ≤ n ∧ n ≤ ((d.bytes s).length : Int) then (if s = 0 then { d with x := d.x.cut n.toNat } else if s = 1 then { d with y := d.y.cut n.toNat } else d) else d
def Dk.crash (d : Dk) (k0 k1 : Int) : Dk := { d with x := d.x.crash k0, y := d.y.crash k1 }

end Go.Proofs.Ytmbmagfdeadibaa
