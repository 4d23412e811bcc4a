import Derived.Test.YtchfoipkaookmabDoorWRoomy
import Derived.Test.YtchfoipkaookmabDoorWTTexts
namespace Go.Proofs.YtchfoipkaookmabDoor
open Go.RowKit Go.Sort
set_option linter.unusedVariables false

/-- an item: where its list lies, too -/
structure It where
  kind : Int
  n : Nat
  s : List Nat
  l : List (List Nat)
  st : Sm
  a : Option Addr
  cap : Nat
abbrev It.val (x : It) : Value := .agg #[.int .i64 x.kind, .int .u64 (x.n : Int), .string (ofNats x.s), .slice x.a x.l.length x.cap, .int .u64 x.st.w, .int .u32 x.st.l, .int .u32 x.st.n]
abbrev It.cells (x : It) : Array Value := #[.int .i64 x.kind, .int .u64 (x.n : Int), .string (ofNats x.s), .slice x.a x.l.length x.cap, .int .u64 x.st.w, .int .u32 x.st.l, .int .u32 x.st.n]
/-- how much it adds at most -/
def It.bulk (x : It) : Nat := x.s.length + x.l.length + (x.l.flatMap eText).length + 30
structure It.ok (w : World) (x : It) : Prop where
  n : x.n < 18446744073709551616
  s : B8 x.s
  l : TRow w x.a x.l
  st : x.st.ok
  bulk : x.bulk ≤ 1099511627776
theorem It.ok.later {w w' : World} {x : It} (h : x.ok w) (hb : Below w.heap.size w w') : x.ok w' := ⟨h.n, h.s, h.l.later hb, h.st, h.bulk⟩
def It.bytes (x : It) : List Nat :=
  if x.kind = 1 then [x.n % 256] else if x.kind = 2 then [if x.n % 2 = 1 then 1 else 0] else if x.kind = 3 then vb x.n else if x.kind = 4 then eText x.s
  else if x.kind = 5 then eTexts x.l else if x.kind = 6 then x.s else if x.kind = 7 then pkN x.st else []
theorem It.bytes_le {x : It} (hn : x.n < 18446744073709551616) (hb : x.bulk ≤ 1099511627776) : x.bytes.length ≤ x.bulk := by
  have h1 := vb_len x.n 0 (by decide) (by unfold lim; omega)
  unfold It.bytes
  unfold It.bulk at hb ⊢
  have h2 := eText_length_le x.s (by omega)
  have h3 := vb_len x.l.length 0 (by decide) (by unfold lim; omega)
  have h4 := pkN_length x.st
  split
  · simp
  · split
    · simp
    · split
      · omega
      · split
        · omega
        · split
          · rw [eTexts, List.length_append]; omega
          · split
            · omega
            · split
              · omega
              · simp
/-- the item in its box -/
structure BoxI (w : World) (q : Nat) (x : It) : Prop where
  c0 : w.cell? ⟨q, 0, none⟩ = some (.int .i64 x.kind)
  c1 : w.cell? ⟨q, 1, none⟩ = some (.int .u64 (x.n : Int))
  c2 : w.cell? ⟨q, 2, none⟩ = some (.string (ofNats x.s))
  c3 : w.cell? ⟨q, 3, none⟩ = some (.slice x.a x.l.length x.cap)
  c4 : w.cell? ⟨q, 4, none⟩ = some (.int .u64 x.st.w)
  c5 : w.cell? ⟨q, 5, none⟩ = some (.int .u32 x.st.l)
  c6 : w.cell? ⟨q, 6, none⟩ = some (.int .u32 x.st.n)
theorem boxI (w : World) (x : It) (T : TypeId) : BoxI (w.alloc (.cells x.cells T)) w.heap.size x := by
  refine ⟨?_, ?_, ?_, ?_, ?_, ?_, ?_⟩ <;> simp [go_sem]
theorem and_one {n : Nat} (h : n < 18446744073709551616) : bits .and .u64 (n : Int) 1 = ((n % 2 : Nat) : Int) := by
  have := bits_and_u64_nat n 1 h (by omega)
  rw [Nat.and_one_is_mod] at this
  exact this
theorem wrap_u8 (n : Nat) : IntKind.u8.wrap (n : Int) = ((n % 256 : Nat) : Int) := by simp [IntKind.wrap, IntKind.bits, IntKind.signed]

end Go.Proofs.YtchfoipkaookmabDoor
