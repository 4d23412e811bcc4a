import Derived.Test.YtpnbgdbkiokooaaDoorFlRow
import Derived.Test.YtpnbgdbkiokooaaDoorOpenRows
/- A script: its steps. -/
namespace Go.Proofs.YtpnbgdbkiokooaaDoor.Fl
open Go.RowKit Go.Sort Go.Proofs.YtpnbgdbkiokooaaDoor
set_option linter.unusedVariables false

structure Sp where
  k : Int
  o : Int
  i : Int
  v : Value
  l : List ByteArray
abbrev Sp.val (s : Sp) : Value := .agg #[.int .i64 s.k, .int .i64 s.o, .int .i64 s.i, s.v]

/-- a script -/
def spz : Sp := ⟨0, 0, 0, .slice none 0 0, []⟩
def spc (s : Sp) : List Value := [.int .i64 s.k, .int .i64 s.o, .int .i64 s.i, s.v]
abbrev RowP (w : World) (a : Option Addr) (xs : List Sp) : Prop := RowC spz spc 4 w a xs
theorem RowP.later {w w' : World} {a : Option Addr} {xs : List Sp} (h : RowP w a xs) (hb : Below w.heap.size w w') : RowP w' a xs := fun i hi => by
  obtain ⟨b, off, e, hc⟩ := h i hi
  exact ⟨b, off, e, fun o u hu => cell_later hb (hc o u hu)⟩
def sz (xs : List Sp) : Nat := (xs.map fun s => s.l.length + 1).sum
def nthP (xs : List Sp) (i : Nat) : Sp := (xs[i]?).getD spz
theorem nthP_mem {xs : List Sp} {i : Nat} (h : i < xs.length) : nthP xs i ∈ xs := by
  rw [nthP, List.getElem?_eq_getElem h]; exact List.getElem_mem h
theorem sz_take {xs : List Sp} {i : Nat} (h : i < xs.length) : sz (xs.take (i + 1)) = sz (xs.take i) + ((nthP xs i).l.length + 1) := by
  have e : sz (xs.take i ++ [nthP xs i]) = sz (xs.take i) + ((nthP xs i).l.length + 1) := by
    rw [sz, List.map_append, List.sum_append, sz]; rfl
  rw [← e, List.take_add_one, nthP, List.getElem?_eq_getElem h]
  rfl
theorem sz_le (xs : List Sp) (i : Nat) : sz (xs.take i) ≤ sz xs := by
  have h : sz xs = sz (xs.take i) + sz (xs.drop i) := by
    rw [sz, sz, sz, ← List.sum_append, ← List.map_append, List.take_append_drop]
  omega
theorem sz_len : ∀ (xs : List Sp), xs.length ≤ sz xs
  | [] => by simp [sz]
  | x :: xs => by
    have := sz_len xs
    simp only [sz, List.map_cons, List.sum_cons, List.length_cons] at this ⊢
    omega
end Go.Proofs.YtpnbgdbkiokooaaDoor.Fl
