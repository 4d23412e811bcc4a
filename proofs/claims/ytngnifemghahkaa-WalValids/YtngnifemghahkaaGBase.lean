import Derived.Test.YtngnifemghahkaaGRows
import Derived.Test.YtngnifemghahkaaEqs
import Derived.Laws.Strings
import Derived.Laws.StructEq
import Derived.Handy
/- A log's record as the program holds it. -/
namespace Go.Proofs.Ytngnifemghahkaa
open Go.RowKit Go.Sort
set_option linter.unusedVariables false

/-- a record: its numbers and where its lists lie -/
structure Rg where
  k : Int
  x : Int
  c : Int
  s : Int
  h : Int
  oc : Int
  w : Int
  l : Int
  n : Int
  ra : Option Addr
  rs : List T2
  rc : Nat
  wa : Option Addr
  ws : List Wr
  wc : Nat
  im : ByteArray
abbrev Rg.cells (m : Rg) : Array Value := #[.int .i64 m.k, .int .u64 m.x, .int .u32 m.c, .int .u32 m.s, .int .u32 m.h, .int .i64 m.oc, .int .u64 m.w, .int .u32 m.l, .int .u32 m.n, .slice m.ra m.rs.length m.rc, .slice m.wa m.ws.length m.wc, .string m.im]
abbrev Rg.val (m : Rg) : Value := .agg m.cells
structure Rg.ok (W : World) (m : Rg) : Prop where
  r : Row2 W m.ra m.rs
  w : RowW W m.wa m.ws
  rl : m.rs.length ≤ 9223372036854775807
  wl : m.ws.length ≤ 9223372036854775807
  rg : 0 ≤ m.s ∧ 0 ≤ m.w ∧ m.w ≤ 18446744073709551615
theorem Rg.ok.later {w w' : World} {m : Rg} (h : m.ok w) (hb : Below w.heap.size w w') : m.ok w' := ⟨h.r.later hb, h.w.later hb, h.rl, h.wl, h.rg⟩
/-- the record in its box -/
structure BoxG (w : World) (q : Nat) (m : Rg) : Prop where
  c0 : w.cell? ⟨q, 0, none⟩ = some (.int .i64 m.k)
  c1 : w.cell? ⟨q, 1, none⟩ = some (.int .u64 m.x)
  c2 : w.cell? ⟨q, 2, none⟩ = some (.int .u32 m.c)
  c3 : w.cell? ⟨q, 3, none⟩ = some (.int .u32 m.s)
  c4 : w.cell? ⟨q, 4, none⟩ = some (.int .u32 m.h)
  c5 : w.cell? ⟨q, 5, none⟩ = some (.int .i64 m.oc)
  c6 : w.cell? ⟨q, 6, none⟩ = some (.int .u64 m.w)
  c7 : w.cell? ⟨q, 7, none⟩ = some (.int .u32 m.l)
  c8 : w.cell? ⟨q, 8, none⟩ = some (.int .u32 m.n)
  c9 : w.cell? ⟨q, 9, none⟩ = some (.slice m.ra m.rs.length m.rc)
  c10 : w.cell? ⟨q, 10, none⟩ = some (.slice m.wa m.ws.length m.wc)
  c11 : w.cell? ⟨q, 11, none⟩ = some (.string m.im)
theorem boxG (w : World) (m : Rg) (T : TypeId) : BoxG (w.alloc (.cells m.cells T)) w.heap.size m := by
  refine ⟨?_, ?_, ?_, ?_, ?_, ?_, ?_, ?_, ?_, ?_, ?_, ?_⟩ <;> simp [go_sem]
theorem BoxG.later {w w' : World} {q : Nat} {m : Rg} (h : BoxG w q m) (hb : Below w.heap.size w w') : BoxG w' q m :=
  ⟨cell_later hb h.c0, cell_later hb h.c1, cell_later hb h.c2, cell_later hb h.c3, cell_later hb h.c4, cell_later hb h.c5, cell_later hb h.c6, cell_later hb h.c7, cell_later hb h.c8, cell_later hb h.c9, cell_later hb h.c10, cell_later hb h.c11⟩

abbrev txv (c s : Int) : Value := .agg #[.int .u32 c, .int .u32 s]
def sameT (c s d t : Int) : Bool := c == d && s == t
theorem run_neT (c s d t : Int) (w : World) : (binOp .neq 26 (txv c s) (txv d t)).run Try.prog w = .ok (.bool (!sameT c s d t)) w := by
  by_cases h1 : c = d <;> by_cases h2 : s = t <;> simp [sameT, h1, h2, txv, go_sem, Try.underlying26]
theorem run_neSpan (x : T2) (w : World) : (binOp .neq 43 (.agg #[.string x.1, .string x.2]) (.agg #[.string x.1, .string x.2])).run Try.prog w = .ok (.bool false) w := by
  simp [go_sem, Try.underlying43]
theorem run_eqSpan (x : T2) (w : World) : (binOp .eql 43 (.agg #[.string x.1, .string x.2]) (.agg #[.string x.1, .string x.2])).run Try.prog w = .ok (.bool true) w := by
  simp [go_sem, Try.underlying43]
theorem run_neWrite (x : Wr) (w : World) : (binOp .neq 45 (.agg #[.string x.key, .bool x.del, .string x.val]) (.agg #[.string x.key, .bool x.del, .string x.val])).run Try.prog w = .ok (.bool false) w := by
  simp [go_sem, Try.underlying45]
theorem run_eqWrite (x : Wr) (w : World) : (binOp .eql 45 (.agg #[.string x.key, .bool x.del, .string x.val]) (.agg #[.string x.key, .bool x.del, .string x.val])).run Try.prog w = .ok (.bool true) w := by
  simp [go_sem, Try.underlying45]

/-- may a span be? -/
def spanOk (x : T2) : Bool := decide (x.1.size ≤ 33) && decide (x.2.size ≤ 33) && (emS x.2 || ltS x.1 x.2)
def spanAt (xs : List T2) (i : Nat) : Bool := spanOk (nth2 xs i)
def readsOk (xs : List T2) : Bool := decide (xs.length ≤ 16) && allB (spanAt xs) xs.length

/-- the fields, and how long the lists are -/
def sameR (m n : Rg) : Bool := (m.k == n.k) && (m.x == n.x) && sameT m.c m.s n.c n.s && (m.h == n.h) && (m.oc == n.oc) && sameB m.w m.l m.n n.w n.l n.n && decide (m.im = n.im) && decide (m.rs.length = n.rs.length) && decide (m.ws.length = n.ws.length)
/-- the record that has just the fields that its kind names -/
def Rg.zero : Rg := ⟨0, 0, 0, 0, 0, 0, 0, 0, 0, none, [], 0, none, [], 0, ⟨#[]⟩⟩
def Rg.named (m : Rg) : Rg :=
  if m.k = 1 then { Rg.zero with k := m.k, x := m.x }
  else if m.k = 2 then { m with x := 0, oc := 0, im := ⟨#[]⟩ }
  else if m.k = 3 then { Rg.zero with k := m.k, c := m.c, s := m.s, h := m.h, oc := m.oc, w := m.w, l := m.l, n := m.n }
  else if m.k = 4 then { Rg.zero with k := m.k, w := m.w, l := m.l, n := m.n }
  else if m.k = 5 then { Rg.zero with k := m.k, im := m.im }
  else Rg.zero
def topW : Int := 18446744073709551615
/-- may it be? -/
def Rg.rules (m : Rg) : Bool :=
  if m.k = 1 then true
  else if m.k = 2 then !(m.s == 0) && !(m.w == topW) && !(decide (m.rs.length = 0) && decide (m.ws.length = 0)) && readsOk m.rs && writesOk m.ws
  else if m.k = 3 then !(m.s == 0) && ((m.oc == 1 && !(m.w == topW)) || (m.oc == 2 && (m.w == 0 && m.l == 0 && m.n == 0)))
  else if m.k = 4 then !(m.w == topW)
  else if m.k = 5 then decide (m.im.size ≤ 1048560)
  else false
def Rg.valid (m : Rg) : Bool := sameR m m.named && m.rules
def Rg.err (m : Rg) : Int := if m.valid then 0 else 70

end Go.Proofs.Ytngnifemghahkaa
