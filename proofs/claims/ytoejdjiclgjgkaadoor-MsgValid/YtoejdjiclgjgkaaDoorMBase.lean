import Derived.Test.YtoejdjiclgjgkaaDoorBase0
import Derived.Test.YtoejdjiclgjgkaaDoorEqs
import Derived.Laws.Strings
import Derived.Laws.StructEq
import Derived.Handy
/- A message as the program holds it. -/
namespace Go.Proofs.YtoejdjiclgjgkaaDoor
open Go.RowKit Go.Sort
set_option linter.unusedVariables false

theorem ret_bool {x u : Bool} (h : x = u) : Ending.returned (.bool x) = Ending.returned (.bool u) := h ▸ rfl
/-- two texts: a span or a pair -/
abbrev T2 := ByteArray × ByteArray
/-- a write -/
structure Wr where
  key : ByteArray
  del : Bool
  val : ByteArray

def ltS (a b : ByteArray) : Bool := Op.bytesLess a.toList b.toList
def emS (a : ByteArray) : Bool := a.toList.isEmpty
theorem em_size (a : ByteArray) : emS a = decide (a.size = 0) := by
  rw [emS, ByteArray.toList_eq, Bool.eq_iff_iff]
  simp only [List.isEmpty_iff, decide_eq_true_eq, ByteArray.size]
  cases h : a.data with
  | mk l => cases l <;> simp_all
theorem toList_empty : (ByteArray.mk #[]).toList = ([] : List UInt8) := by rw [ByteArray.toList_eq]
theorem lt_empty (a : ByteArray) : ltS ⟨#[]⟩ a = !emS a := by
  rw [ltS, toList_empty, emS]
  cases h : a.toList <;> rfl
theorem binOp_string_geq (t : TypeId) (a b : ByteArray) : binOp .geq t (.string a) (.string b) = pure (.bool !(Op.bytesLess a.toList b.toList)) := by simp [binOp, Op.stringOp]

/-- the i-th, nothing where there is none -/
def nth2 (xs : List T2) (i : Nat) : T2 := (xs[i]?).getD (⟨#[]⟩, ⟨#[]⟩)
def nthW (xs : List Wr) (i : Nat) : Wr := (xs[i]?).getD ⟨⟨#[]⟩, false, ⟨#[]⟩⟩
def Row2 (w : World) (a : Option Addr) (xs : List T2) : Prop :=
  ∀ i, i < xs.length → ∃ b off, a = some ⟨b, off, none⟩ ∧ w.cell? ⟨b, off + i * 2, none⟩ = some (.string (nth2 xs i).1) ∧ w.cell? ⟨b, off + i * 2 + 1, none⟩ = some (.string (nth2 xs i).2)
def RowW (w : World) (a : Option Addr) (xs : List Wr) : Prop :=
  ∀ i, i < xs.length → ∃ b off, a = some ⟨b, off, none⟩ ∧ w.cell? ⟨b, off + i * 3, none⟩ = some (.string (nthW xs i).key) ∧ w.cell? ⟨b, off + i * 3 + 1, none⟩ = some (.bool (nthW xs i).del) ∧ w.cell? ⟨b, off + i * 3 + 2, none⟩ = some (.string (nthW xs i).val)
theorem Row2.later {w w' : World} {a : Option Addr} {xs : List T2} (h : Row2 w a xs) (hb : Below w.heap.size w w') : Row2 w' a xs := fun i hi => by
  obtain ⟨b, off, e, h0, h1⟩ := h i hi
  exact ⟨b, off, e, cell_later hb h0, cell_later hb h1⟩
theorem RowW.later {w w' : World} {a : Option Addr} {xs : List Wr} (h : RowW w a xs) (hb : Below w.heap.size w w') : RowW w' a xs := fun i hi => by
  obtain ⟨b, off, e, h0, h1, h2⟩ := h i hi
  exact ⟨b, off, e, cell_later hb h0, cell_later hb h1, cell_later hb h2⟩
theorem nth2_take {xs : List T2} {k : Nat} (h : k < xs.length) : xs.take (k + 1) = xs.take k ++ [nth2 xs k] := by
  rw [List.take_succ_eq_append_getElem h]; simp [nth2, h]
theorem nthW_take {xs : List Wr} {k : Nat} (h : k < xs.length) : xs.take (k + 1) = xs.take k ++ [nthW xs k] := by
  rw [List.take_succ_eq_append_getElem h]; simp [nthW, h]

/-- a message: its numbers and where its lists lie -/
structure Mg where
  k : Int
  f : Int
  t : Int
  c : Int
  s : Int
  h : Int
  o : Int
  w : Int
  l : Int
  n : Int
  st : Int
  oc : Int
  ra : Option Addr
  rs : List T2
  rc : Nat
  wa : Option Addr
  ws : List Wr
  wc : Nat
  pa : Option Addr
  ps : List T2
  pc : Nat
abbrev Mg.cells (m : Mg) : Array Value := #[.int .i64 m.k, .int .u32 m.f, .int .u32 m.t, .int .u32 m.c, .int .u32 m.s, .int .u32 m.h, .int .u32 m.o, .int .u64 m.w, .int .u32 m.l, .int .u32 m.n, .int .i64 m.st, .int .i64 m.oc, .slice m.ra m.rs.length m.rc, .slice m.wa m.ws.length m.wc, .slice m.pa m.ps.length m.pc]
abbrev Mg.val (m : Mg) : Value := .agg m.cells
structure Mg.ok (W : World) (m : Mg) : Prop where
  r : Row2 W m.ra m.rs
  w : RowW W m.wa m.ws
  p : Row2 W m.pa m.ps
  rl : m.rs.length ≤ 9223372036854775807
  wl : m.ws.length ≤ 9223372036854775807
  pl : m.ps.length ≤ 9223372036854775807
theorem Mg.ok.later {w w' : World} {m : Mg} (h : m.ok w) (hb : Below w.heap.size w w') : m.ok w' := ⟨h.r.later hb, h.w.later hb, h.p.later hb, h.rl, h.wl, h.pl⟩
/-- the message in its box -/
structure BoxM (w : World) (q : Nat) (m : Mg) : Prop where
  c0 : w.cell? ⟨q, 0, none⟩ = some (.int .i64 m.k)
  c1 : w.cell? ⟨q, 1, none⟩ = some (.int .u32 m.f)
  c2 : w.cell? ⟨q, 2, none⟩ = some (.int .u32 m.t)
  c3 : w.cell? ⟨q, 3, none⟩ = some (.int .u32 m.c)
  c4 : w.cell? ⟨q, 4, none⟩ = some (.int .u32 m.s)
  c5 : w.cell? ⟨q, 5, none⟩ = some (.int .u32 m.h)
  c6 : w.cell? ⟨q, 6, none⟩ = some (.int .u32 m.o)
  c7 : w.cell? ⟨q, 7, none⟩ = some (.int .u64 m.w)
  c8 : w.cell? ⟨q, 8, none⟩ = some (.int .u32 m.l)
  c9 : w.cell? ⟨q, 9, none⟩ = some (.int .u32 m.n)
  c10 : w.cell? ⟨q, 10, none⟩ = some (.int .i64 m.st)
  c11 : w.cell? ⟨q, 11, none⟩ = some (.int .i64 m.oc)
  c12 : w.cell? ⟨q, 12, none⟩ = some (.slice m.ra m.rs.length m.rc)
  c13 : w.cell? ⟨q, 13, none⟩ = some (.slice m.wa m.ws.length m.wc)
  c14 : w.cell? ⟨q, 14, none⟩ = some (.slice m.pa m.ps.length m.pc)
theorem boxM (w : World) (m : Mg) (T : TypeId) : BoxM (w.alloc (.cells m.cells T)) w.heap.size m := by
  refine ⟨?_, ?_, ?_, ?_, ?_, ?_, ?_, ?_, ?_, ?_, ?_, ?_, ?_, ?_, ?_⟩ <;> simp [go_sem]
theorem BoxM.later {w w' : World} {q : Nat} {m : Mg} (h : BoxM w q m) (hb : Below w.heap.size w w') : BoxM w' q m :=
  ⟨cell_later hb h.c0, cell_later hb h.c1, cell_later hb h.c2, cell_later hb h.c3, cell_later hb h.c4, cell_later hb h.c5, cell_later hb h.c6, cell_later hb h.c7, cell_later hb h.c8, cell_later hb h.c9, cell_later hb h.c10, cell_later hb h.c11, cell_later hb h.c12, cell_later hb h.c13, cell_later hb h.c14⟩

/-- the run of '==' between two names of transactions -/
abbrev txv (c s : Int) : Value := .agg #[.int .u32 c, .int .u32 s]
def sameT (c s d t : Int) : Bool := c == d && s == t
theorem run_eqT (c s d t : Int) (w : World) : (binOp .eql 25 (txv c s) (txv d t)).run Tryd.prog w = .ok (.bool (sameT c s d t)) w := by
  by_cases h1 : c = d <;> by_cases h2 : s = t <;> simp [sameT, h1, h2, txv, go_sem, Tryd.underlying25]
theorem run_neT (c s d t : Int) (w : World) : (binOp .neq 25 (txv c s) (txv d t)).run Tryd.prog w = .ok (.bool (!sameT c s d t)) w := by
  by_cases h1 : c = d <;> by_cases h2 : s = t <;> simp [sameT, h1, h2, txv, go_sem, Tryd.underlying25]
theorem run_neSpan (x : T2) (w : World) : (binOp .neq 51 (.agg #[.string x.1, .string x.2]) (.agg #[.string x.1, .string x.2])).run Tryd.prog w = .ok (.bool false) w := by
  simp [go_sem, Tryd.underlying51]
theorem run_nePair (x : T2) (w : World) : (binOp .neq 55 (.agg #[.string x.1, .string x.2]) (.agg #[.string x.1, .string x.2])).run Tryd.prog w = .ok (.bool false) w := by
  simp [go_sem, Tryd.underlying55]
theorem run_neWrite (x : Wr) (w : World) : (binOp .neq 53 (.agg #[.string x.key, .bool x.del, .string x.val]) (.agg #[.string x.key, .bool x.del, .string x.val])).run Tryd.prog w = .ok (.bool false) w := by
  simp [go_sem, Tryd.underlying53]

end Go.Proofs.YtoejdjiclgjgkaaDoor
