import Derived.Test.YtcghbjdmncggaaaDoorRTwinW
/- What is asked: a configuration, reads, writes and keys. -/
namespace Go.Proofs.YtcghbjdmncggaaaDoor.Rt
open Go.RowKit Go.Sort
set_option linter.unusedVariables false

structure Ak where
  c : Cf
  ra : Option Addr
  rc : Nat
  rs : List T2
  wa : Option Addr
  wc : Nat
  ws : List Wr
  ka : Option Addr
  kc : Nat
  ks : List ByteArray
abbrev Ak.val (x : Ak) : Value := .agg #[.int .i64 x.c.sh, .int .i64 x.c.cl, .slice x.c.a x.c.ss.length x.c.cp, .int .i64 x.c.ca, .int .i64 x.c.pk, .int .u64 x.c.wi, .slice x.ra x.rs.length x.rc, .slice x.wa x.ws.length x.wc, .slice x.ka x.ks.length x.kc]
structure Ak.Ok (x : Ak) (w : World) : Prop where
  c : x.c.Ok w
  cl : x.c.ss.length ≤ 8796093022208
  r : Row2 w x.ra x.rs
  rl : x.rs.length ≤ 8796093022208
  wr : RowW w x.wa x.ws
  wl : x.ws.length ≤ 8796093022208
  k : RowS w x.ka x.ks
  kl : x.ks.length ≤ 8796093022208
theorem Ak.Ok.later {x : Ak} {w w' : World} (h : x.Ok w) (hb : Below w.heap.size w w') : x.Ok w' := ⟨h.c.later hb, h.cl, h.r.later hb, h.rl, h.wr.later hb, h.wl, h.k.later hb, h.kl⟩
structure BoxA (w : World) (p : Nat) (x : Ak) : Prop where
  c0 : w.cell? ⟨p, 0, none⟩ = some (.int .i64 x.c.sh)
  c1 : w.cell? ⟨p, 1, none⟩ = some (.int .i64 x.c.cl)
  c2 : w.cell? ⟨p, 2, none⟩ = some (.slice x.c.a x.c.ss.length x.c.cp)
  c3 : w.cell? ⟨p, 3, none⟩ = some (.int .i64 x.c.ca)
  c4 : w.cell? ⟨p, 4, none⟩ = some (.int .i64 x.c.pk)
  c5 : w.cell? ⟨p, 5, none⟩ = some (.int .u64 x.c.wi)
  c6 : w.cell? ⟨p, 6, none⟩ = some (.slice x.ra x.rs.length x.rc)
  c7 : w.cell? ⟨p, 7, none⟩ = some (.slice x.wa x.ws.length x.wc)
  c8 : w.cell? ⟨p, 8, none⟩ = some (.slice x.ka x.ks.length x.kc)
theorem BoxA.later {w w' : World} {p : Nat} {x : Ak} (h : BoxA w p x) (hb : Below w.heap.size w w') : BoxA w' p x := ⟨cell_later hb h.c0, cell_later hb h.c1, cell_later hb h.c2, cell_later hb h.c3, cell_later hb h.c4, cell_later hb h.c5, cell_later hb h.c6, cell_later hb h.c7, cell_later hb h.c8⟩
abbrev Ak.cells (x : Ak) : Array Value := #[.int .i64 x.c.sh, .int .i64 x.c.cl, .slice x.c.a x.c.ss.length x.c.cp, .int .i64 x.c.ca, .int .i64 x.c.pk, .int .u64 x.c.wi, .slice x.ra x.rs.length x.rc, .slice x.wa x.ws.length x.wc, .slice x.ka x.ks.length x.kc]
theorem BoxA.new (w : World) (x : Ak) (t : TypeId) : BoxA (w.alloc (.cells x.cells t)) w.heap.size x := by
  constructor <;> simp [go_sem]

/-- a world behind the box, and all that stands in it -/
structure At (W w : World) (p : Nat) (x : Ak) : Prop where
  box : BoxA W p x
  ok : x.Ok W
  tab : PowTab W
  bl : Below W.heap.size W w
theorem At.twin {W w : World} {p : Nat} {x : Ak} (h : At W w p x) : Calls Tryd.prog 7 #[x.c.val] w fun e w' => ∃ a cp, e = .returned (x.c.at a cp).val ∧ (x.c.at a cp).Ok w' ∧ Below w.heap.size w w' :=
  twin_is (h.ok.c.later h.bl) h.ok.cl (h.tab.later h.bl)
theorem At.on {W w w' : World} {p : Nat} {x : Ak} (h : At W w p x) (hb : Below w.heap.size w w') : At W w' p x := ⟨h.box, h.ok, h.tab, Below.on h.bl hb⟩

end Go.Proofs.YtcghbjdmncggaaaDoor.Rt
