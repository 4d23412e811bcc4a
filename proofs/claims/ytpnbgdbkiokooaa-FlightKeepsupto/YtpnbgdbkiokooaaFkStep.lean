import Derived.Test.YtpnbgdbkiokooaaFkBooks2
import Derived.Test.YtpnbgdbkiokooaaOpenRows
/- Any step of the law. -/
namespace Go.Proofs.Ytpnbgdbkiokooaa.Fl
open Go.RowKit Go.Sort Go.Proofs.Ytpnbgdbkiokooaa
set_option linter.unusedVariables false

theorem books_is {W w : World} {p q : Nat} {xs : List ByteArray} {T : Tl} (h : Bn W w p q xs T) (hg : Tg T xs) (s : Sp) (hs : Rd W s.v s.l) (hx : xs.length ≤ 1073741824) (hT : T.length ≤ 1073741824) (hsl : s.l.length ≤ 1073741824) :
    Calls Try.prog 7 #[pt q, pt p, s.val] w fun e w' => e = .returned (.bool true) ∧ Hid (Aft W w' p q xs T s.l.length) := by
  obtain ⟨v, vt, vn, h⟩ := h
  by_cases hA : s.i < 0
  · by_cases h1 : s.k = 1
    · exact books_send_A h hg s hs hx hT hsl hA h1
    by_cases h4 : s.k = 4
    · exact books_take_A h hg s hs hx hT hsl hA h4
    by_cases h5 : s.k = 5
    · exact books_drop_A h hg s hs hx hT hsl hA h5
    by_cases h6 : s.k = 6
    · exact books_copy_A h hg s hs hx hT hsl hA h6
    by_cases h7 : s.k = 7
    · exact books_drain_A h hg s hs hx hT hsl hA h7
    exact books_none_A h hg s hs hx hT hsl hA ⟨h1, h4, h5, h6, h7⟩
  by_cases hB : s.i < (xs.length : Int)
  · have hB : 0 ≤ s.i ∧ s.i < (xs.length : Int) := ⟨by omega, hB⟩
    by_cases h1 : s.k = 1
    · exact books_send_B h hg s hs hx hT hsl hB h1
    by_cases h4 : s.k = 4
    · exact books_take_B h hg s hs hx hT hsl hB h4
    by_cases h5 : s.k = 5
    · exact books_drop_B h hg s hs hx hT hsl hB h5
    by_cases h6 : s.k = 6
    · exact books_copy_B h hg s hs hx hT hsl hB h6
    by_cases h7 : s.k = 7
    · exact books_drain_B h hg s hs hx hT hsl hB h7
    exact books_none_B h hg s hs hx hT hsl hB ⟨h1, h4, h5, h6, h7⟩
  · have hC : (xs.length : Int) ≤ s.i := by omega
    by_cases h1 : s.k = 1
    · exact books_send_C h hg s hs hx hT hsl hC h1
    by_cases h4 : s.k = 4
    · exact books_take_C h hg s hs hx hT hsl hC h4
    by_cases h5 : s.k = 5
    · exact books_drop_C h hg s hs hx hT hsl hC h5
    by_cases h6 : s.k = 6
    · exact books_copy_C h hg s hs hx hT hsl hC h6
    by_cases h7 : s.k = 7
    · exact books_drain_C h hg s hs hx hT hsl hC h7
    exact books_none_C h hg s hs hx hT hsl hC ⟨h1, h4, h5, h6, h7⟩

/-- a script -/
def spz : Sp := ⟨0, 0, 0, .slice none 0 0, []⟩
def spc (s : Sp) : List Value := [.int .i64 s.k, .int .i64 s.o, .int .i64 s.i, s.v]
abbrev RowP (w : World) (a : Option Addr) (xs : List Sp) : Prop := RowC spz spc 4 w a xs
theorem RowP.later {w w' : World} {a : Option Addr} {xs : List Sp} (h : RowP w a xs) (hb : Below w.heap.size w w') : RowP w' a xs := fun i hi => by
  obtain ⟨b, off, e, hc⟩ := h i hi
  exact ⟨b, off, e, fun o u hu => cell_later hb (hc o u hu)⟩
def sz (xs : List Sp) : Nat := (xs.map fun s => s.l.length + 1).sum
def nthP (xs : List Sp) (i : Nat) : Sp := (xs[i]?).getD spz
theorem nthP_mem {xs : List Sp} {i : Nat} (h : i < xs.length) : nthP xs i ∈ xs := by
  rw [nthP, List.getElem?_eq_getElem h]; exact List.getElem_mem h
theorem sz_take {xs : List Sp} {i : Nat} (h : i < xs.length) : sz (xs.take (i + 1)) = sz (xs.take i) + ((nthP xs i).l.length + 1) := by
  have e : sz (xs.take i ++ [nthP xs i]) = sz (xs.take i) + ((nthP xs i).l.length + 1) := by
    rw [sz, List.map_append, List.sum_append, sz]; rfl
  rw [← e, List.take_add_one, nthP, List.getElem?_eq_getElem h]
  rfl
theorem sz_le (xs : List Sp) (i : Nat) : sz (xs.take i) ≤ sz xs := by
  have h : sz xs = sz (xs.take i) + sz (xs.drop i) := by
    rw [sz, sz, sz, ← List.sum_append, ← List.map_append, List.take_append_drop]
  omega
theorem sz_len : ∀ (xs : List Sp), xs.length ≤ sz xs
  | [] => by simp [sz]
  | x :: xs => by
    have := sz_len xs
    simp only [sz, List.map_cons, List.sum_cons, List.length_cons] at this ⊢
    omega
end Go.Proofs.Ytpnbgdbkiokooaa.Fl
