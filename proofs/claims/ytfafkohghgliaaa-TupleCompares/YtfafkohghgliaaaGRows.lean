import Derived.Test.YtfafkohghgliaaaDOnl
import Derived.Laws.Strings
import Derived.Laws.StructEq
import Derived.Handy
/- Rows of spans, pairs and writes; may writes be? -/
namespace Go.Proofs.Ytfafkohghgliaaa
open Go.RowKit Go.Sort
set_option linter.unusedVariables false

theorem ret_bool {x u : Bool} (h : x = u) : Ending.returned (.bool x) = Ending.returned (.bool u) := h ▸ rfl
/-- two texts: a span -/
abbrev T2 := ByteArray × ByteArray
/-- a write -/
structure Wr where
  key : ByteArray
  del : Bool
  val : ByteArray

def ltS (a b : ByteArray) : Bool := Op.bytesLess a.toList b.toList
def emS (a : ByteArray) : Bool := a.toList.isEmpty
theorem em_size (a : ByteArray) : emS a = decide (a.size = 0) := by
  rw [emS, ByteArray.toList_eq, Bool.eq_iff_iff]
  simp only [List.isEmpty_iff, decide_eq_true_eq, ByteArray.size]
  cases h : a.data with
  | mk l => cases l <;> simp_all
theorem toList_empty : (ByteArray.mk #[]).toList = ([] : List UInt8) := by rw [ByteArray.toList_eq]
theorem lt_empty (a : ByteArray) : ltS ⟨#[]⟩ a = !emS a := by
  rw [ltS, toList_empty, emS]
  cases h : a.toList <;> rfl
theorem binOp_string_geq (t : TypeId) (a b : ByteArray) : binOp .geq t (.string a) (.string b) = pure (.bool !(Op.bytesLess a.toList b.toList)) := by simp [binOp, Op.stringOp]
theorem leq_less : ∀ a b : List UInt8, (Op.bytesLess a b || a == b) = !Op.bytesLess b a
  | [], [] => rfl
  | [], _ :: _ => rfl
  | _ :: _, [] => rfl
  | a :: x, b :: y => by
    have ih := leq_less x y
    rw [Op.bytesLess, Op.bytesLess]
    rcases Nat.lt_trichotomy a.toNat b.toNat with h | h | h
    · have h1 : a < b := h
      have h2 : ¬ b < a := by show ¬ b.toNat < a.toNat; omega
      have h3 : (b == a) = false := beq_eq_false_iff_ne.2 (fun e => by subst e; omega)
      simp [h1, h2, h3]
    · obtain rfl : a = b := UInt8.toNat.inj h
      have h2 : ¬ a < a := by show ¬ a.toNat < a.toNat; omega
      simp [h2]
      simpa using ih
    · have h1 : b < a := h
      have h2 : ¬ a < b := by show ¬ a.toNat < b.toNat; omega
      have h3 : (a == b) = false := beq_eq_false_iff_ne.2 (fun e => by subst e; omega)
      simp [h1, h2, h3]
theorem binOp_string_leq (t : TypeId) (a b : ByteArray) : binOp .leq t (.string a) (.string b) = pure (.bool !(Op.bytesLess b.toList a.toList)) := by
  rw [← leq_less]; simp [binOp, Op.stringOp]

/-- the i-th, nothing where there is none -/
def nth2 (xs : List T2) (i : Nat) : T2 := (xs[i]?).getD (⟨#[]⟩, ⟨#[]⟩)
def nthW (xs : List Wr) (i : Nat) : Wr := (xs[i]?).getD ⟨⟨#[]⟩, false, ⟨#[]⟩⟩
def Row2 (w : World) (a : Option Addr) (xs : List T2) : Prop :=
  ∀ i, i < xs.length → ∃ b off, a = some ⟨b, off, none⟩ ∧ w.cell? ⟨b, off + i * 2, none⟩ = some (.string (nth2 xs i).1) ∧ w.cell? ⟨b, off + i * 2 + 1, none⟩ = some (.string (nth2 xs i).2)
def RowW (w : World) (a : Option Addr) (xs : List Wr) : Prop :=
  ∀ i, i < xs.length → ∃ b off, a = some ⟨b, off, none⟩ ∧ w.cell? ⟨b, off + i * 3, none⟩ = some (.string (nthW xs i).key) ∧ w.cell? ⟨b, off + i * 3 + 1, none⟩ = some (.bool (nthW xs i).del) ∧ w.cell? ⟨b, off + i * 3 + 2, none⟩ = some (.string (nthW xs i).val)
theorem Row2.later {w w' : World} {a : Option Addr} {xs : List T2} (h : Row2 w a xs) (hb : Below w.heap.size w w') : Row2 w' a xs := fun i hi => by
  obtain ⟨b, off, e, h0, h1⟩ := h i hi
  exact ⟨b, off, e, cell_later hb h0, cell_later hb h1⟩
theorem RowW.later {w w' : World} {a : Option Addr} {xs : List Wr} (h : RowW w a xs) (hb : Below w.heap.size w w') : RowW w' a xs := fun i hi => by
  obtain ⟨b, off, e, h0, h1, h2⟩ := h i hi
  exact ⟨b, off, e, cell_later hb h0, cell_later hb h1, cell_later hb h2⟩
theorem nth2_take {xs : List T2} {k : Nat} (h : k < xs.length) : xs.take (k + 1) = xs.take k ++ [nth2 xs k] := by
  rw [List.take_succ_eq_append_getElem h]; simp [nth2, h]
theorem nthW_take {xs : List Wr} {k : Nat} (h : k < xs.length) : xs.take (k + 1) = xs.take k ++ [nthW xs k] := by
  rw [List.take_succ_eq_append_getElem h]; simp [nthW, h]

/-- all of the first n -/
def allB (p : Nat → Bool) : Nat → Bool
  | 0 => true
  | n + 1 => allB p n && p n
theorem allB_no {p : Nat → Bool} {k : Nat} (h : p k = false) : ∀ n, k < n → allB p n = false
  | 0, hn => by omega
  | n + 1, hn => by
    by_cases e : k = n
    · subst e; rw [allB, h, Bool.and_false]
    · rw [allB, allB_no h n (by omega), Bool.false_and]
theorem allB_yes {p : Nat → Bool} {k : Nat} (h : allB p k = true) (h' : p k = true) : allB p (k + 1) = true := by rw [allB, h, h']; rfl
/-- may a key stand behind last? -/
def keyOk (last key : ByteArray) : Bool := ltS last key && decide (key.size ≤ 32)
def prevW (xs : List Wr) (i : Nat) : ByteArray := if i = 0 then ⟨#[]⟩ else (nthW xs (i - 1)).key
theorem prevW_succ (xs : List Wr) (i : Nat) : prevW xs (i + 1) = (nthW xs i).key := by simp [prevW]
def writeAt (xs : List Wr) (i : Nat) : Bool := keyOk (prevW xs i) (nthW xs i).key && decide ((nthW xs i).val.size ≤ 64) && !((nthW xs i).del && !emS (nthW xs i).val)
def writesOk (xs : List Wr) : Bool := decide (xs.length ≤ 16) && allB (writeAt xs) xs.length

end Go.Proofs.Ytfafkohghgliaaa
