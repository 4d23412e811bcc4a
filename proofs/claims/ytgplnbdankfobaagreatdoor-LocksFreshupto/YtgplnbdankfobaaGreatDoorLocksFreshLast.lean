import Derived.Test.YtgplnbdankfobaaGreatDoorQLawP
import Derived.Test.YtgplnbdankfobaaGreatDoorQFrT
import Derived.Deep.DeepHandedRow
import Derived.Deep.DeepWitnessRowRef
import Derived.Lib.LaidTab
import Derived.LaidLaws
import Derived.ProofKit
import Derived.Test.YtgplnbdankfobaaGreatDoorQFrLaw
import Derived.Test.YtgplnbdankfobaaGreatDoorCards
import Derived.Test.YtgplnbdankfobaaGreatDoorTie
import Derived.OpenShut
import Derived.ShutString
import Derived.ChangeOld
import Derived.Below
/- The openings: what is held, steps, a scene. -/
namespace Go.Proofs.YtgplnbdankfobaaGreatDoor.Lk
open Go.ChangeShapes Go.WideShapes Go.ChangeAt Go.RowKit Go.Deep
set_option linter.unusedVariables false

theorem cells_str : Tryz.prog.cellsOf 9 = 1 := by kernel_rfl
theorem cells_bool : Tryz.prog.cellsOf 4 = 1 := by kernel_rfl
theorem cells_int : Tryz.prog.cellsOf 3 = 1 := by kernel_rfl
theorem cells_u64 : Tryz.prog.cellsOf 26 = 1 := by kernel_rfl
theorem cells_u32 : Tryz.prog.cellsOf 23 = 1 := by kernel_rfl
theorem cells_txn : Tryz.prog.cellsOf 25 = 2 := by kernel_rfl
theorem cells_stamp : Tryz.prog.cellsOf 28 = 3 := by kernel_rfl
theorem cells_spans : Tryz.prog.cellsOf 29 = 1 := by kernel_rfl
theorem cells_writes : Tryz.prog.cellsOf 30 = 1 := by kernel_rfl
theorem cells_Span : Tryz.prog.cellsOf 34 = 2 := by kernel_rfl
theorem cells_Write : Tryz.prog.cellsOf 64 = 3 := by kernel_rfl
theorem cells_Held : Tryz.prog.cellsOf 32 = 8 := by kernel_rfl
theorem bytes_Span : Tryz.prog.bytesOf 34 = 32 := by kernel_rfl
theorem bytes_Write : Tryz.prog.bytesOf 64 = 40 := by kernel_rfl
theorem bytes_Held : Tryz.prog.bytesOf 32 = 80 := by kernel_rfl
theorem list2 {α : Type} {cs : List α} (h : cs.length = 2) : ∃ c0 c1, cs = [c0, c1] := by
  match cs, h with
  | [c0, c1], _ => exact ⟨c0, c1, rfl⟩
theorem list3 {α : Type} {cs : List α} (h : cs.length = 3) : ∃ c0 c1 c2, cs = [c0, c1, c2] := by
  match cs, h with
  | [c0, c1, c2], _ => exact ⟨c0, c1, c2, rfl⟩
theorem list4 {α : Type} {cs : List α} (h : cs.length = 4) : ∃ c0 c1 c2 c3, cs = [c0, c1, c2, c3] := by
  match cs, h with
  | [c0, c1, c2, c3], _ => exact ⟨c0, c1, c2, c3, rfl⟩
theorem list5 {α : Type} {cs : List α} (h : cs.length = 5) : ∃ c0 c1 c2 c3 c4, cs = [c0, c1, c2, c3, c4] := by
  match cs, h with
  | [c0, c1, c2, c3, c4], _ => exact ⟨c0, c1, c2, c3, c4, rfl⟩
theorem list8 {α : Type} {cs : List α} (h : cs.length = 8) : ∃ c0 c1 c2 c3 c4 c5 c6 c7, cs = [c0, c1, c2, c3, c4, c5, c6, c7] := by
  match cs, h with
  | [c0, c1, c2, c3, c4, c5, c6, c7], _ => exact ⟨c0, c1, c2, c3, c4, c5, c6, c7, rfl⟩
theorem list12 {α : Type} {cs : List α} (h : cs.length = 12) : ∃ c0 c1 c2 c3 c4 c5 c6 c7 c8 c9 c10 c11, cs = [c0, c1, c2, c3, c4, c5, c6, c7, c8, c9, c10, c11] := by
  match cs, h with
  | [c0, c1, c2, c3, c4, c5, c6, c7, c8, c9, c10, c11], _ => exact ⟨c0, c1, c2, c3, c4, c5, c6, c7, c8, c9, c10, c11, rfl⟩

section
variable {H : Type} {enc : TypeId × Value → H} {w : World} {base : Nat} {fuel : Nat} {cs : List Value} {y : DataW H × List MemPlace}

theorem trod_Span (h : DataW.trod enc Tryz.prog w base (fun _ => true) true fuel 34 cs = some y) : ∃ x : T2, cs = encS x := by
  obtain ⟨ys, n, _, rfl, hl, hlen, hf⟩ := DataW.trod_struct Tryz.underlying34 h
  rw [cells_Span] at hl
  obtain ⟨c0, c1, rfl⟩ := list2 hl
  obtain ⟨y0, y1, rfl⟩ := list2 (cs := ys) (by simpa using hlen)
  obtain ⟨s0, e0, _, _⟩ := DataW.trod_string Tryz.underlying9 (hf 0 _ rfl)
  obtain ⟨s1, e1, _, _⟩ := DataW.trod_string Tryz.underlying9 (hf 1 _ rfl)
  simp [cells_str] at e0 e1
  subst e0 e1
  exact ⟨(s0, s1), rfl⟩
theorem trod_Write (h : DataW.trod enc Tryz.prog w base (fun _ => true) true fuel 64 cs = some y) (hr : InReach 64 y.1) : ∃ x : Wr, cs = encW x ∧ x.key.size ≤ reachBytes := by
  obtain ⟨ys, n, _, rfl, hl, hlen, hf⟩ := DataW.trod_struct Tryz.underlying64 h
  rw [cells_Write] at hl
  obtain ⟨c0, c1, c2, rfl⟩ := list3 hl
  obtain ⟨y0, y1, y2, rfl⟩ := list3 (cs := ys) (by simpa using hlen)
  obtain ⟨s0, e0, d0, _⟩ := DataW.trod_string Tryz.underlying9 (hf 0 _ rfl)
  obtain ⟨b1, e1, _⟩ := DataW.trod_bool Tryz.underlying4 (hf 1 _ rfl)
  obtain ⟨s2, e2, _, _⟩ := DataW.trod_string Tryz.underlying9 (hf 2 _ rfl)
  simp [cells_str, cells_bool] at e0 e1 e2
  subst e0 e1 e2
  refine ⟨⟨s0, b1, s2⟩, rfl, ?_⟩
  have := InReach.part (ps := [y0.1, y1.1, y2.1]) hr Tryz.underlying64 (j := 0) rfl rfl
  rw [d0] at this
  exact this.text
theorem trod_txn (h : DataW.trod enc Tryz.prog w base (fun _ => true) true fuel 25 cs = some y) : ∃ a b : Int, cs = [.int .u32 a, .int .u32 b] ∧ (0 ≤ a ∧ a ≤ 4294967295) := by
  obtain ⟨ys, n, _, rfl, hl, hlen, hf⟩ := DataW.trod_struct Tryz.underlying25 h
  rw [cells_txn] at hl
  obtain ⟨c0, c1, rfl⟩ := list2 hl
  obtain ⟨y0, y1, rfl⟩ := list2 (cs := ys) (by simpa using hlen)
  obtain ⟨s0, e0, _, w0⟩ := DataW.trod_int Tryz.underlying23 (hf 0 _ rfl)
  obtain ⟨s1, e1, _, w1⟩ := DataW.trod_int Tryz.underlying23 (hf 1 _ rfl)
  simp [cells_u32] at e0 e1
  subst e0 e1
  refine ⟨s0, s1, rfl, ?_⟩
  simp [Lit.wf, IntKind.min, IntKind.max, IntKind.bits, IntKind.signed] at w0; omega
theorem trod_st (h : DataW.trod enc Tryz.prog w base (fun _ => true) true fuel 28 cs = some y) : ∃ a b c : Int, cs = [.int .u64 a, .int .u32 b, .int .u32 c] := by
  obtain ⟨ys, n, _, rfl, hl, hlen, hf⟩ := DataW.trod_struct Tryz.underlying28 h
  rw [cells_stamp] at hl
  obtain ⟨c0, c1, c2, rfl⟩ := list3 hl
  obtain ⟨y0, y1, y2, rfl⟩ := list3 (cs := ys) (by simpa using hlen)
  obtain ⟨s0, e0, _, _⟩ := DataW.trod_int Tryz.underlying26 (hf 0 _ rfl)
  obtain ⟨s1, e1, _, _⟩ := DataW.trod_int Tryz.underlying23 (hf 1 _ rfl)
  obtain ⟨s2, e2, _, _⟩ := DataW.trod_int Tryz.underlying23 (hf 2 _ rfl)
  simp [cells_u32, cells_u64] at e0 e1 e2
  subst e0 e1 e2
  exact ⟨s0, s1, s2, rfl⟩
/-- the list of spans -/
theorem Span_cell {v : Value} (hf : DataW.trod enc Tryz.prog w base (fun _ => true) true fuel 29 [v] = some y) (hr : InReach 29 y.1) :
    ∃ (a : Option Addr) (cap : Nat) (xs : List T2), v = .slice a xs.length cap ∧ Row2 w a xs ∧ xs.length + 1 ≤ 4398046511104 := by
  obtain ⟨a, cap, xs, rfl, _, _, hrow, hel⟩ := open_rows Tryz.underlying29 cells_Span (by decide) ((⟨#[]⟩, ⟨#[]⟩) : T2) encS (fun _ _ => True) (fun _ _ _ h _ => by obtain ⟨x, e⟩ := trod_Span h; exact ⟨x, e, trivial⟩) hf hr
  refine ⟨a, cap, xs, rfl, fun i hi => ?_, ?_⟩
  · obtain ⟨b, off, e, hc⟩ := hrow i hi
    exact ⟨b, off, e, hc 0 _ rfl, hc 1 _ rfl⟩
  · rcases hel with rfl | ⟨el, sp, e1, e2, _⟩
    · simp
    · rw [e1] at hr
      have := hr.len Tryz.underlying29 bytes_Span (by decide)
      rw [e2] at this
      simp only [reachBytes] at this
      omega
theorem Write_cell {v : Value} (hf : DataW.trod enc Tryz.prog w base (fun _ => true) true fuel 30 [v] = some y) (hr : InReach 30 y.1) :
    ∃ (a : Option Addr) (cap : Nat) (xs : List Wr), v = .slice a xs.length cap ∧ RowW w a xs ∧ xs.length + 1 ≤ 3518437208883 ∧ (∀ x ∈ xs, x.key.size ≤ reachBytes) ∧ xs.length ≤ Rows.uptoBulk y.1 := by
  obtain ⟨a, cap, xs, rfl, _, _, hrow, hel⟩ := open_rows Tryz.underlying30 cells_Write (by decide) (⟨⟨#[]⟩, false, ⟨#[]⟩⟩ : Wr) encW (fun x _ => x.key.size ≤ reachBytes) (fun _ _ _ h k => trod_Write h k) hf hr
  refine ⟨a, cap, xs, rfl, fun i hi => ?_, ?_⟩
  · obtain ⟨b, off, e, hc⟩ := hrow i hi
    exact ⟨b, off, e, hc 0 _ rfl, hc 1 _ rfl, hc 2 _ rfl⟩
  · rcases hel with rfl | ⟨el, sp, e1, e2, e3⟩
    · simp
    · rw [e1] at hr
      have := hr.len Tryz.underlying30 bytes_Write (by decide)
      rw [e2] at this
      simp only [reachBytes] at this
      refine ⟨by omega, fun x hx => ?_, ?_⟩
      · obtain ⟨i, hi, rfl⟩ := List.getElem_of_mem hx
        obtain ⟨d, hd, hg⟩ := e3 i hi
        simpa [hi] using hg
      · have := bulkAll_len el
        rw [e1]; simp only [Rows.uptoBulk]; omega
/-- what is held -/
theorem trod_Held (h : DataW.trod enc Tryz.prog w base (fun _ => true) true fuel 32 cs = some y) (hr : InReach 32 y.1) : ∃ x : Hv, cs = hcs x ∧ x.ok w ∧ (0 ≤ x.h.id.1 ∧ x.h.id.1 ≤ 4294967295) ∧ (∀ z ∈ x.h.ws, z.key.size ≤ reachBytes) ∧ x.h.ws.length ≤ Rows.uptoBulk y.1 := by
  obtain ⟨ys, n, _, rfl, hl, hlen, hf⟩ := DataW.trod_struct Tryz.underlying32 h
  rw [cells_Held] at hl
  obtain ⟨c0, c1, c2, c3, c4, c5, c6, c7, rfl⟩ := list8 hl
  obtain ⟨y0, y1, y2, y3, y4, rfl⟩ := list5 (cs := ys) (by simpa using hlen)
  obtain ⟨a0, a1, e0, w0⟩ := trod_txn (hf 0 _ rfl)
  obtain ⟨a2, e2, _, _⟩ := DataW.trod_int Tryz.underlying23 (hf 1 _ rfl)
  obtain ⟨a3, a4, a5, e3⟩ := trod_st (hf 2 _ rfl)
  have s6 : ([c0, c1, c2, c3, c4, c5, c6, c7].drop 6).take (Tryz.prog.cellsOf 29) = [c6] := by rw [cells_spans]; rfl
  have s7 : ([c0, c1, c2, c3, c4, c5, c6, c7].drop 7).take (Tryz.prog.cellsOf 30) = [c7] := by rw [cells_writes]; rfl
  have g6 : DataW.trod enc Tryz.prog w base (fun _ => true) true n 29 [c6] = some y3 := by rw [← s6]; exact hf 3 _ rfl
  have g7 : DataW.trod enc Tryz.prog w base (fun _ => true) true n 30 [c7] = some y4 := by rw [← s7]; exact hf 4 _ rfl
  obtain ⟨ra, rc, rs, rfl, hR, hrl⟩ := Span_cell g6 (InReach.part (ps := [y0.1, y1.1, y2.1, y3.1, y4.1]) hr Tryz.underlying32 (j := 3) rfl rfl)
  obtain ⟨wa, wc, ws, rfl, hW, hwl, hk, hbk⟩ := Write_cell g7 (InReach.part (ps := [y0.1, y1.1, y2.1, y3.1, y4.1]) hr Tryz.underlying32 (j := 4) rfl rfl)
  simp [cells_u32, cells_txn, cells_stamp] at e0 e2 e3
  obtain ⟨e0, e1⟩ := e0
  obtain ⟨e3, e4, e5⟩ := e3
  subst e0 e1 e2 e3 e4 e5
  refine ⟨⟨⟨⟨a0, a1⟩, a2, a3, a4, a5, rs, ws⟩, ra, rc, wa, wc⟩, rfl, ⟨hR, hW, hrl, hwl⟩, w0, hk, ?_⟩
  show ws.length ≤ _
  simp only [List.map_cons, List.map_nil, Rows.uptoBulk, Rows.uptoBulkAll]
  omega
end
end Go.Proofs.YtgplnbdankfobaaGreatDoor.Lk
/- The openings: a scene. -/
namespace Go.Proofs.YtgplnbdankfobaaGreatDoor.Lk
open Go.ChangeShapes Go.WideShapes Go.ChangeAt Go.RowKit Go.Deep
set_option linter.unusedVariables false

theorem cells_Scene : Tryz.prog.cellsOf 36 = 14 := by kernel_rfl
theorem cells_helds : Tryz.prog.cellsOf 22 = 1 := by kernel_rfl
theorem list14 {α : Type} {cs : List α} (h : cs.length = 14) : ∃ c0 c1 c2 c3 c4 c5 c6 c7 c8 c9 c10 c11 c12 c13, cs = [c0, c1, c2, c3, c4, c5, c6, c7, c8, c9, c10, c11, c12, c13] := by
  match cs, h with
  | [c0, c1, c2, c3, c4, c5, c6, c7, c8, c9, c10, c11, c12, c13], _ => exact ⟨c0, c1, c2, c3, c4, c5, c6, c7, c8, c9, c10, c11, c12, c13, rfl⟩
theorem Held_cell {H : Type} {enc : TypeId × Value → H} {w : World} {base fuel : Nat} {v : Value} {y : DataW H × List MemPlace} (hf : DataW.trod enc Tryz.prog w base (fun _ => true) true fuel 22 [v] = some y) (hr : InReach 22 y.1) :
    ∃ (a : Option Addr) (cap : Nat) (xs : List Hv), v = .slice a xs.length cap ∧ RowL w a xs ∧ (∀ x ∈ xs, x.ok w) ∧ xs.length ≤ 1759218604391 ∧ (xs.map fun x => x.h.ws.length).sum ≤ Rows.uptoBulk y.1 := by
  obtain ⟨a, cap, xs, rfl, _, _, hrow, hel⟩ := open_rows Tryz.underlying22 cells_Held (by decide) Hv.zero hcs (fun x d => x.ok w ∧ x.h.ws.length ≤ Rows.uptoBulk d) (fun _ _ _ h k => by obtain ⟨x, e, h1, _, _, h2⟩ := trod_Held h k; exact ⟨x, e, h1, h2⟩) hf hr
  refine ⟨a, cap, xs, rfl, hrow, ?_, ?_, ?_⟩
  · rcases hel with rfl | ⟨el, sp, _, _, e3⟩
    · simp
    · intro x hx
      obtain ⟨i, hi, rfl⟩ := List.getElem_of_mem hx
      obtain ⟨d, _, hg⟩ := e3 i hi
      simpa [hi] using hg.1
  · rcases hel with rfl | ⟨el, sp, e1, e2, _⟩
    · simp
    · rw [e1] at hr
      have := hr.len Tryz.underlying22 bytes_Held (by decide)
      rw [e2] at this
      simp only [reachBytes] at this
      omega
  · rcases hel with rfl | ⟨el, sp, e1, e2, e3⟩
    · simp
    · have := bulkAll_sum Hv.zero (fun x : Hv => x.h.ws.length) e2 (fun i hi => by obtain ⟨d, hd, hg⟩ := e3 i hi; exact ⟨d, hd, hg.2⟩)
      rw [e1]; simp only [Rows.uptoBulk]; omega
set_option maxRecDepth 100000 in
theorem open_scene {H : Type} {enc : TypeId × Value → H} {W : World} {r : Reach} {b : Nat} {v : Value} {d : DataW H} {p : List MemPlace}
    (hv : Value.okWide Tryz.prog W r b 36 v) (h : DataW.Trod enc Tryz.prog W 0 (fun _ => true) true 36 v d p)
    (hr : InReach 36 d) :
    ∃ (a : Option Addr) (c : Nat) (L : List Hv) (x : Hv) (s : T2) (tw tl tn : Int), v = .agg (scs a c L x s tw tl tn).toArray ∧ RowL W a L ∧ (∀ y ∈ L, y.ok W) ∧ L.length ≤ 1759218604391 ∧ x.ok W ∧ (0 ≤ x.h.id.1 ∧ x.h.id.1 ≤ 4294967295) ∧ (∀ z ∈ x.h.ws, z.key.size ≤ reachBytes) ∧ (L.map fun y => y.h.ws.length).sum ≤ Rows.uptoBulk d := by
  obtain ⟨cs, rfl, hs⟩ := okWide_struct Tryz.underlying36 hv
  obtain ⟨fuel, hf⟩ := h
  obtain ⟨ys, n, hfu, hd, hl, hlen, hfld⟩ := DataW.trod_struct Tryz.underlying36 hf
  rw [cells_Scene] at hl
  obtain ⟨cs⟩ := cs
  simp only [Value.cells] at hl hfld
  obtain ⟨c0, c1, c2, c3, c4, c5, c6, c7, c8, c9, c10, c11, c12, c13, rfl⟩ := list14 hl
  obtain ⟨y0, y1, y2, y3, rfl⟩ := list4 (cs := ys) (by simpa using hlen)
  have hd1 : d = .agg [y0.1, y1.1, y2.1, y3.1] := by injection hd
  rw [hd1] at hr
  have s0 : ([c0, c1, c2, c3, c4, c5, c6, c7, c8, c9, c10, c11, c12, c13].drop 0).take (Tryz.prog.cellsOf 22) = [c0] := by rw [cells_helds]; rfl
  have g0 : DataW.trod enc Tryz.prog W 0 (fun _ => true) true n 22 [c0] = some y0 := by rw [← s0]; exact hfld 0 _ rfl
  obtain ⟨a, c, L, rfl, h1, h2, h3, h7⟩ := Held_cell g0 (hr.part Tryz.underlying36 (j := 0) rfl rfl)
  obtain ⟨x, e1, h4, h5, h6, -⟩ := trod_Held (hfld 1 _ rfl) (hr.part Tryz.underlying36 (j := 1) rfl rfl)
  obtain ⟨s, e2⟩ := trod_Span (hfld 2 _ rfl)
  obtain ⟨tw, tl, tn, e3⟩ := trod_st (hfld 3 _ rfl)
  simp [cells_Held, cells_Span, cells_stamp] at e1 e2 e3
  obtain ⟨e1, e4, e5, e6, e7, e8, e9, e10⟩ := e1
  obtain ⟨e2, e11⟩ := e2
  obtain ⟨e3, e12, e13⟩ := e3
  subst e1 e2 e3 e4 e5 e6 e7 e8 e9 e10 e11 e12 e13
  refine ⟨a, c, L, x, s, tw, tl, tn, rfl, h1, h2, h3, h4, h5, h6, ?_⟩
  rw [hd1]; simp only [Rows.uptoBulk, Rows.uptoBulkAll]; omega
end Go.Proofs.YtgplnbdankfobaaGreatDoor.Lk
/- LocksFresh: the opening. -/
namespace Go.Proofs.YtgplnbdankfobaaGreatDoor.Lk
open Go.ChangeShapes Go.WideShapes Go.ChangeAt Go.RowKit Go.Deep
set_option linter.unusedVariables false

theorem bulk_mem {H : Type} : ∀ {l : List (DataW H)} {i : Nat} {d : DataW H}, l[i]? = some d → Rows.uptoBulk d ≤ Rows.uptoBulkAll l
  | [], _, _, h => by simp at h
  | x :: l, 0, d, h => by
    have : x = d := by simpa using h
    rw [← this]; simp only [Rows.uptoBulkAll]; omega
  | x :: l, i + 1, d, h => by
    have := bulk_mem (l := l) (i := i) (d := d) (by simpa using h)
    simp only [Rows.uptoBulkAll]; omega
theorem held_rs {H : Type} {enc : TypeId × Value → H} {w : World} {base fuel : Nat} {x : Hv} {y : DataW H × List MemPlace} (h : DataW.trod enc Tryz.prog w base (fun _ => true) true fuel 32 (hcs x) = some y) (hr : InReach 32 y.1) : x.h.rs.length ≤ Rows.uptoBulk y.1 := by
  obtain ⟨ys, n, _, rfl, hl, hlen, hf⟩ := DataW.trod_struct Tryz.underlying32 h
  obtain ⟨y0, y1, y2, y3, y4, rfl⟩ := list5 (cs := ys) (by simpa using hlen)
  have s6 : ((hcs x).drop 6).take (Tryz.prog.cellsOf 29) = [.slice x.ra x.h.rs.length x.rc] := by rw [cells_spans]; rfl
  have g6 : DataW.trod enc Tryz.prog w base (fun _ => true) true n 29 [.slice x.ra x.h.rs.length x.rc] = some y3 := by rw [← s6]; exact hf 3 _ rfl
  obtain ⟨a, cap, xs, e, _, _, _, hel⟩ := open_rows Tryz.underlying29 cells_Span (by decide) ((⟨#[]⟩, ⟨#[]⟩) : T2) encS (fun _ _ => True) (fun _ _ _ h _ => by obtain ⟨x, e⟩ := trod_Span h; exact ⟨x, e, trivial⟩) g6 (InReach.part (ps := [y0.1, y1.1, y2.1, y3.1, y4.1]) hr Tryz.underlying32 (j := 3) rfl rfl)
  injection e with _ e _
  have h3 : xs.length ≤ Rows.uptoBulk y3.1 := by
    rcases hel with rfl | ⟨el, sp, e1, e2, _⟩
    · simp
    · have := bulkAll_len el
      rw [e1]; simp only [Rows.uptoBulk]; omega
  simp only [List.map_cons, List.map_nil, Rows.uptoBulk, Rows.uptoBulkAll]
  omega
theorem Held_cellF {H : Type} {enc : TypeId × Value → H} {w : World} {base fuel : Nat} {v : Value} {y : DataW H × List MemPlace} (hf : DataW.trod enc Tryz.prog w base (fun _ => true) true fuel 22 [v] = some y) (hr : InReach 22 y.1) :
    ∃ (a : Option Addr) (cap : Nat) (xs : List Hv), v = .slice a xs.length cap ∧ RowL w a xs ∧ (∀ x ∈ xs, x.ok w) ∧ xs.length ≤ Rows.uptoBulk y.1 ∧ (∀ x ∈ xs, x.h.rs.length ≤ Rows.uptoBulk y.1 ∧ x.h.ws.length ≤ Rows.uptoBulk y.1) ∧ (xs.map fun x => x.h.ws.length).sum ≤ Rows.uptoBulk y.1 := by
  obtain ⟨a, cap, xs, rfl, _, _, hrow, hel⟩ := open_rows Tryz.underlying22 cells_Held (by decide) Hv.zero hcs (fun x d => x.ok w ∧ x.h.ws.length ≤ Rows.uptoBulk d ∧ x.h.rs.length ≤ Rows.uptoBulk d) (fun _ _ _ h k => by obtain ⟨x, rfl, h1, _, _, h2⟩ := trod_Held h k; exact ⟨x, rfl, h1, h2, held_rs h k⟩) hf hr
  refine ⟨a, cap, xs, rfl, hrow, ?_, ?_, ?_, ?_⟩
  · rcases hel with rfl | ⟨el, sp, _, _, e3⟩
    · simp
    · intro x hx
      obtain ⟨i, hi, rfl⟩ := List.getElem_of_mem hx
      obtain ⟨d, _, hg⟩ := e3 i hi
      simpa [hi] using hg.1
  · rcases hel with rfl | ⟨el, sp, e1, e2, _⟩
    · simp
    · have := bulkAll_len el
      rw [e1]; simp only [Rows.uptoBulk]; omega
  · rcases hel with rfl | ⟨el, sp, e1, e2, e3⟩
    · simp
    · intro x hx
      obtain ⟨i, hi, rfl⟩ := List.getElem_of_mem hx
      obtain ⟨d, hd, hg⟩ := e3 i hi
      have h1 := bulk_mem hd
      have h2 : xs[i].ok w ∧ xs[i].h.ws.length ≤ Rows.uptoBulk d ∧ xs[i].h.rs.length ≤ Rows.uptoBulk d := by simpa [hi] using hg
      rw [e1]; simp only [Rows.uptoBulk]; omega
  · rcases hel with rfl | ⟨el, sp, e1, e2, e3⟩
    · simp
    · have := bulkAll_sum Hv.zero (fun x : Hv => x.h.ws.length) e2 (fun i hi => by obtain ⟨d, hd, hg⟩ := e3 i hi; exact ⟨d, hd, hg.2.1⟩)
      rw [e1]; simp only [Rows.uptoBulk]; omega
set_option maxRecDepth 100000 in
theorem open_sceneF {H : Type} {enc : TypeId × Value → H} {W : World} {r : Reach} {b : Nat} {v : Value} {d : DataW H} {p : List MemPlace}
    (hv : Value.okWide Tryz.prog W r b 36 v) (h : DataW.Trod enc Tryz.prog W 0 (fun _ => true) true 36 v d p)
    (hr : InReach 36 d) :
    ∃ (a : Option Addr) (c : Nat) (L : List Hv) (x : Hv) (s : T2) (tw tl tn : Int), v = .agg (scs a c L x s tw tl tn).toArray ∧ RowL W a L ∧ (∀ y ∈ L, y.ok W) ∧ L.length ≤ Rows.uptoBulk d ∧ (∀ y ∈ L, y.h.rs.length ≤ Rows.uptoBulk d ∧ y.h.ws.length ≤ Rows.uptoBulk d) ∧ (L.map fun y => y.h.ws.length).sum ≤ Rows.uptoBulk d := by
  obtain ⟨cs, rfl, hs⟩ := okWide_struct Tryz.underlying36 hv
  obtain ⟨fuel, hf⟩ := h
  obtain ⟨ys, n, hfu, hd, hl, hlen, hfld⟩ := DataW.trod_struct Tryz.underlying36 hf
  rw [cells_Scene] at hl
  obtain ⟨cs⟩ := cs
  simp only [Value.cells] at hl hfld
  obtain ⟨c0, c1, c2, c3, c4, c5, c6, c7, c8, c9, c10, c11, c12, c13, rfl⟩ := list14 hl
  obtain ⟨y0, y1, y2, y3, rfl⟩ := list4 (cs := ys) (by simpa using hlen)
  have hd1 : d = .agg [y0.1, y1.1, y2.1, y3.1] := by injection hd
  rw [hd1] at hr
  have s0 : ([c0, c1, c2, c3, c4, c5, c6, c7, c8, c9, c10, c11, c12, c13].drop 0).take (Tryz.prog.cellsOf 22) = [c0] := by rw [cells_helds]; rfl
  have g0 : DataW.trod enc Tryz.prog W 0 (fun _ => true) true n 22 [c0] = some y0 := by rw [← s0]; exact hfld 0 _ rfl
  obtain ⟨a, c, L, rfl, h1, h2, h3, h8, h7⟩ := Held_cellF g0 (hr.part Tryz.underlying36 (j := 0) rfl rfl)
  obtain ⟨x, e1, h4, h5, h6, -⟩ := trod_Held (hfld 1 _ rfl) (hr.part Tryz.underlying36 (j := 1) rfl rfl)
  obtain ⟨s, e2⟩ := trod_Span (hfld 2 _ rfl)
  obtain ⟨tw, tl, tn, e3⟩ := trod_st (hfld 3 _ rfl)
  simp [cells_Held, cells_Span, cells_stamp] at e1 e2 e3
  obtain ⟨e1, e4, e5, e6, e7, e8, e9, e10⟩ := e1
  obtain ⟨e2, e11⟩ := e2
  obtain ⟨e3, e12, e13⟩ := e3
  subst e1 e2 e3 e4 e5 e6 e7 e8 e9 e10 e11 e12 e13
  have hb : Rows.uptoBulk y0.1 ≤ Rows.uptoBulk d := by rw [hd1]; simp only [Rows.uptoBulk, Rows.uptoBulkAll]; omega
  exact ⟨a, c, L, x, s, tw, tl, tn, rfl, h1, h2, by omega, fun y hy => by have := h8 y hy; omega, by omega⟩
end Go.Proofs.YtgplnbdankfobaaGreatDoor.Lk
/- The listed tables, and a world that has them. -/
namespace Go.Proofs.YtgplnbdankfobaaGreatDoor
open Lk
open Go.ChangeShapes Go.WideShapes Go.ChangeAt Go.RowKit Go.Deep
set_option linter.unusedVariables false

abbrev theLaid : List (String × DataW Unit) := [("math/bits.deBruijn32tab", Rows.laid_math_bits_deBruijn32tab), ("math/bits.deBruijn64tab", Rows.laid_math_bits_deBruijn64tab), ("internal/strconv.uint64pow10", Rows.laid_internal_strconv_uint64pow10)]
theorem tPow : (Tryz.prog.globals[0]?).map (·.type) = some 137 := by kernel_rfl
theorem powData : Rows.laid_internal_strconv_uint64pow10 (H := Unit) = Lib.tabData .u64 Lib.pow10Tab := by kernel_rfl
theorem pow_of {W : World} (hL : laidMetH Tryz.prog theLaid W) : PowTab W := by
  have hL' : laidMet Tryz.prog theLaid W := hL
  obtain ⟨ps, ⟨_, _, _, _, _, _, _, _, _, _, ⟨_, _, _, _, _, _, _, _, _, _, ⟨g, t, cs, fuel, p, q, hg, ht, hvar, hd, _, _⟩, _⟩, _⟩, _⟩ := hL'
  obtain rfl := Option.some.inj (gPow.symm.trans hg)
  obtain rfl := Option.some.inj (tPow.symm.trans ht)
  rw [powData] at hd
  show Lib.TabIs _ _ _ _ _
  unfold Lib.TabIs
  rw [hvar, ← Lib.cells_of_tab Tryz.underlying137 Tryz.underlying26 (by kernel_rfl) (by kernel_rfl) hd]

/-- a table's cells -/
def intsOf (d : DataW Unit) : Array Value := match d with
  | .agg ps => (ps.map fun x => match x with | .lit (.int k n) => Value.int k n | _ => Value.bool false).toArray
  | _ => #[]
def putG (h : Array Obj) (g : Nat) (cs : Array Value) : Array Obj := h.modify g fun
  | .cells _ t frozen => .cells cs t frozen
  | o => o

set_option maxRecDepth 1000000 in
theorem laid_met (os : Os) (args : Array Value) : laidMet Tryz.prog theLaid (({ World.holding Tryz.prog os ⟨#[], #[], []⟩ with heap := putG (putG (putG (World.holding Tryz.prog os ⟨#[], #[], []⟩).heap 0 (intsOf Rows.laid_internal_strconv_uint64pow10)) 1 (intsOf Rows.laid_math_bits_deBruijn32tab)) 2 (intsOf Rows.laid_math_bits_deBruijn64tab) } : World).forCall (fun _ _ => 0) ⟨#[], args, []⟩).memory :=
  laidMet_of_run' 8 (by kernel_rfl) (by kernel_rfl)

end Go.Proofs.YtgplnbdankfobaaGreatDoor
/- LocksFresh: the opening. -/
namespace Go.Proofs.YtgplnbdankfobaaGreatDoor.Lk
open Go.ChangeShapes Go.WideShapes Go.ChangeAt Go.RowKit Go.Deep
set_option linter.unusedVariables false

set_option maxRecDepth 100000 in
theorem opened_locksFresh {H : Type} {enc : TypeId × Value → H} {W : World} {r : Reach} {b : Nat} {v : Value} {d : DataW H} {p : List MemPlace}
    (hv : Value.okWide Tryz.prog W r b 36 v) (h : DataW.Trod enc Tryz.prog W 0 (fun _ => true) true 36 v d p) (hk : Rows.uptoBulk d ≤ 1048576) (hL : laidMetH Tryz.prog theLaid W) :
    Calls Tryz.prog 3 #[v] W fun e w' => e = .returned (.bool true) ∧ Below W.heap.size W w' := by
  obtain ⟨a, c, L, x, s, tw, tl, tn, rfl, h1, h2, h3, h4, h5⟩ := open_sceneF hv h (.inr hk)
  exact law_fresh h1 h2 (by omega) (fun y hy => by have := h4 y hy; omega) (by omega) (pow_of hL)
end Go.Proofs.YtgplnbdankfobaaGreatDoor.Lk
namespace Go.Proofs.YtgplnbdankfobaaGreatDoor.locksFreshLast
open Go.ChangeShapes Go.WideShapes Go.ChangeAt Go.RowKit Lk
set_option linter.unusedVariables false

theorem own : ownKnob Tryz.prog.godebug = none := by kernel_rfl
theorem laidOut : laidOutB Tryz.prog = true := by kernel_rfl

set_option maxRecDepth 16000 in
theorem contract (H : Type) (enc : TypeId × Value → H) (W : World) (base : Nat) (args : Array Value) (ds gs : List (DataW H)) (before : List MemPlace)
    (hval : ∀ (j : Nat) t v, Tryz.f3.params[j]? = some t → args[j]? = some v → Value.okWide Tryz.prog W .any base t v)
    (hW : DataW.Whole enc Tryz.prog Tryz.f3.params.toList Rows.locksFreshSpec.vars false W args.toList ds gs before) (hk : Rows.uptoBulkAll (ds ++ gs) ≤ 1048576) (hV : laidMetH Tryz.prog theLaid W) :
    Calls Tryz.prog 3 args W fun e W' => ∃ v, e = .returned v ∧ Rows.locksFreshSpec.post enc Tryz.prog Tryz.f3 false true false false W args v W' := by
  have hW' := hW
  obtain ⟨p, q, hA0, hVr, rfl, hfz, hnd⟩ := hW
  have hA : DataW.TrodAll enc Tryz.prog W 0 (fun _ => true) true Tryz.f3.params.toList args.toList ds p := hA0
  rw [Tryz.params3] at hA hval
  obtain ⟨v0, vs0, d0, ds0, p0, q0, hargs, rfl, rfl, h0, r0⟩ := trodAll_cons hA
  obtain ⟨rfl, rfl, rfl⟩ := trodAll_nil r0
  obtain rfl : args = #[v0] := by cases args; simp_all
  obtain ⟨rfl, rfl⟩ := trodVars_none hVr
  have lt0 : ∀ x ∈ p0, x.block < W.heap.size := by obtain ⟨m, hm⟩ := h0; exact DataW.trod_lt m _ _ _ hm
  clear hA0
  have hk0 : Rows.uptoBulk d0 ≤ 1048576 := by
    simp only [List.cons_append, List.nil_append, Rows.uptoBulkAll] at hk
    omega
  refine (opened_locksFresh (hval 0 36 v0 rfl rfl) h0 hk0 hV).mono fun e W' ⟨he, bel⟩ => ?_
  subst he
  exact ⟨_, rfl, _, _, _, [], _, [], hW', trodAll_mk1 (shut_bool Tryz.underlying4 _), (trodAll_cons_mk (Below.trod laidOut (by kernel_rfl) (of_decide_eq_true (by kernel_rfl)) h0 bel lt0) trodAll_mk0), rfl, bel.frame _, fun h => by cases h⟩

theorem reads (os : Os) {H : Type} (enc : TypeId × Value → H) : ∃ places, DataW.whole enc Tryz.prog (({ World.holding Tryz.prog os ⟨#[], #[], []⟩ with heap := putG (putG (putG (World.holding Tryz.prog os ⟨#[], #[], []⟩).heap 0 (intsOf Rows.laid_internal_strconv_uint64pow10)) 1 (intsOf Rows.laid_math_bits_deBruijn32tab)) 2 (intsOf Rows.laid_math_bits_deBruijn64tab) } : World).forCall (fun _ _ => 0) ⟨#[], #[.agg #[.slice none 0 0, .int .u32 0, .int .u32 0, .int .u32 0, .int .u64 0, .int .u32 0, .int .u32 0, .slice none 0 0, .slice none 0 0, .string ⟨#[]⟩, .string ⟨#[]⟩, .int .u64 0, .int .u32 0, .int .u32 0]], []⟩).memory Tryz.f3.params.toList Rows.locksFreshSpec.vars false #[.agg #[.slice none 0 0, .int .u32 0, .int .u32 0, .int .u32 0, .int .u64 0, .int .u32 0, .int .u32 0, .slice none 0 0, .slice none 0 0, .string ⟨#[]⟩, .string ⟨#[]⟩, .int .u64 0, .int .u32 0, .int .u32 0]].toList 8 = some ([.agg [.nil, .agg [.agg [.lit (.int .u32 0), .lit (.int .u32 0)], .lit (.int .u32 0), .agg [.lit (.int .u64 0), .lit (.int .u32 0), .lit (.int .u32 0)], .nil, .nil], .agg [.lit (.string []), .lit (.string [])], .agg [.lit (.int .u64 0), .lit (.int .u32 0), .lit (.int .u32 0)]]], [], places) :=
  ⟨[], by kernel_rfl⟩

set_option maxRecDepth 1000000 in
theorem lifted (os : Os) (started : os.Started) (H : Type) (enc : TypeId × Value → H) (F : Stop.Interp) :
    ReturnsInHanded {} Tryz.checked os 3 .any ((Rows.OpenSpec.upto Rows.locksFreshSpec).preRow enc Tryz.prog Tryz.f3 Rows.locksFreshUptoRow.domain false Rows.locksFreshUptoRow.laid) (((Rows.OpenSpec.upto Rows.locksFreshSpec).at F).post enc Tryz.prog Tryz.f3 false true false false) := by
  obtain ⟨places, hx⟩ := reads os enc
  refine returnsInHanded_of_row (C := Tryz.checked) (s := Rows.OpenSpec.upto Rows.locksFreshSpec) own started (by kernel_rfl) Tryz.func3
    (witness_row_atRef (enc := enc) (C := Tryz.checked) false ({ World.holding Tryz.prog os ⟨#[], #[], []⟩ with heap := putG (putG (putG (World.holding Tryz.prog os ⟨#[], #[], []⟩).heap 0 (intsOf Rows.laid_internal_strconv_uint64pow10)) 1 (intsOf Rows.laid_math_bits_deBruijn32tab)) 2 (intsOf Rows.laid_math_bits_deBruijn64tab) } : World) #[.agg #[.slice none 0 0, .int .u32 0, .int .u32 0, .int .u32 0, .int .u64 0, .int .u32 0, .int .u32 0, .slice none 0 0, .slice none 0 0, .string ⟨#[]⟩, .string ⟨#[]⟩, .int .u64 0, .int .u32 0, .int .u32 0]] rfl (by kernel_rfl) (by kernel_rfl) (by kernel_rfl)
      (OpenSpec.preRow_of_cond 8 hx (by kernel_rfl) (fun k hk => by cases hk; kernel_rfl) (by kernel_rfl) (laid_met os _))) ?_
  intro W base args ds gs before hval hW _ hcond _ hL hsh _
  exact contract H enc W base args ds gs before hval hW (of_decide_eq_true (hcond _ rfl)) hL

theorem said : Rows.LocksFreshUptoSaid :=
  OpenClaim.holds_of_cond 3 Tryz.f3 rfl rfl rfl rfl rfl rfl rfl ⟨rfl, rfl, rfl, rfl, rfl⟩ rfl rfl rfl rfl rfl (by kernel_rfl) Tryz.func3 (by kernel_rfl)
    (of_decide_eq_true (by kernel_rfl)) (by unfold Func.isWrapper; first | (rw [if_pos (by decide +kernel)]; kernel_rfl) | (rw [if_neg (by decide +kernel)]; exact ⟨rfl, rfl⟩))
    (fun os started H enc _ F => by rw [OpenClaim.pre_eq_preRow]; exact lifted os started H enc F)

theorem plain (f : FuncId) (fn : Func) (hf : Tryz.pinned.checked.prog.funcNamed "tidemark/tidemarklaw10.LocksFresh" = some f) (hfn : Tryz.pinned.checked.prog.funcs[f]? = some fn) :
    false = Tryz.pinned.checked.prog.looks [] ∧ ∀ (j : Nat) t, fn.params[j]? = some t → Tryz.pinned.checked.prog.wantsStandIn t = false := by
  obtain rfl : f = 3 := Option.some.inj ((show Tryz.prog.funcNamed "tidemark/tidemarklaw10.LocksFresh" = some 3 by kernel_rfl).symm.trans hf) |>.symm
  obtain rfl : fn = Tryz.f3 := (Option.some.inj (Tryz.func3.symm.trans hfn)).symm
  refine ⟨by kernel_rfl, fun j t ht => ?_⟩
  rw [Tryz.params3] at ht
  obtain rfl : t = 36 := by simpa using Array.mem_of_getElem? ht
  exact (show Tryz.prog.wantsStandIn 36 = false by kernel_rfl)

theorem card : Rows.LocksFreshUptoCardSaid :=
  Claim7.holds_tied_plain_at .later [] _ _ _ _ said (fun _ h => by cases h) (by kernel_rfl) (fun _ h => by cases h) locksFreshUpto_row_tie rfl ⟨rfl, rfl⟩ (by kernel_rfl) rfl plain (by kernel_rfl)
end Go.Proofs.YtgplnbdankfobaaGreatDoor.locksFreshLast
namespace Go.Proofs.YtgplnbdankfobaaGreatDoor
theorem locksFresh_holds : Rows.LocksFreshUptoCardSaid := locksFreshLast.card
#print axioms locksFresh_holds
end Go.Proofs.YtgplnbdankfobaaGreatDoor
