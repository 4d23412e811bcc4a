import Derived.Test.YtfafkohghgliaabDoorRBytes
import Derived.Test.YtfafkohghgliaabDoorShelf
import Derived.Laws.AppendOwn
import Derived.Lib.Builder
/- A builder of a text: a byte more, and the text of it. -/
namespace Go.Proofs.YtfafkohghgliaabDoor.Rt
open Go.RowKit Go.Sort
set_option linter.unusedVariables false

abbrev BT : TypeId := 79
theorem szB : (Tryd.prog.info? BT).map (·.size) = some 2 := by kernel_rfl
theorem infoU8 : (Tryd.prog.info? 5).map (fun i => (i.zero, i.size, i.bytes)) = some (some (.int .u8 0), 1, 1) := by kernel_rfl
theorem liesB : liesAt Tryd.prog Tryd.prog.depth BT (2 / Tryd.prog.cellsOf BT) 0 BT 1 = true := by kernel_rfl
theorem infoB : ∃ j, Tryd.prog.info? BT = some j ∧ j.size = 2 := by
  obtain ⟨j, h1, h2⟩ := Option.map_eq_some_iff.1 szB
  exact ⟨j, h1, h2⟩

/-- a pointer to a builder, as a bare pointer and back -/
theorem ptr_bare {b : Nat} {w : World} (hs : w.shape? b = some (BT, 2)) : (convert 77 123 (.pointer (some ⟨b, 0, none⟩))).run Tryd.prog w = .ok (.pointer (some ⟨b, 0, none⟩)) w := by
  obtain ⟨j, hj, hj2⟩ := infoB
  simp [convert, run_underlying Tryd.underlying77, run_underlying Tryd.underlying123, Conv.unsafePointer, Conv.seenAt, viewAt, cellsIn, hs, sizeOf, typeInfo, hj, hj2]
theorem bare_ptr {b : Nat} {w : World} (hs : w.shape? b = some (BT, 2)) : (convert 123 77 (.pointer (some ⟨b, 0, none⟩))).run Tryd.prog w = .ok (.pointer (some ⟨b, 0, none⟩)) w := by
  obtain ⟨j, hj, hj2⟩ := infoB
  simp [convert, run_underlying Tryd.underlying77, run_underlying Tryd.underlying123, Conv.unsafePointer, Conv.seenAt, viewAt, variablesAt, hs, sizeOf, typeInfo, hj, hj2, liesB]

set_option maxHeartbeats 1000000 in
set_option maxRecDepth 100000 in
theorem check_used {b : Nat} {w : World} (h0 : w.cell? ⟨b, 0, none⟩ = some (.pointer (some ⟨b, 0, none⟩))) :
    Calls Tryd.prog 76 #[.pointer (some ⟨b, 0, none⟩)] w fun e w' => e = .returned (.tuple #[]) ∧ w' = w := by
  obtain ⟨j, hj, _⟩ := infoB
  go_enter Tryd.func76, Tryd.ntmps76
  go_wp2
  rw [Lib.run_neq_ptr_same w _ Tryd.underlying77 hj]
  go_wp2
  go_end0
  exact ⟨rfl, rfl⟩

set_option maxHeartbeats 1000000 in
set_option maxRecDepth 100000 in
theorem check_new {b : Nat} {w : World} (h0 : w.cell? ⟨b, 0, none⟩ = some (.pointer none)) (hs : w.shape? b = some (BT, 2)) (hf : w.frozen? ⟨b, 0, none⟩ = false) :
    Calls Tryd.prog 76 #[.pointer (some ⟨b, 0, none⟩)] w fun e w' => e = .returned (.tuple #[]) ∧ w' = w.setCell ⟨b, 0, none⟩ (.pointer (some ⟨b, 0, none⟩)) := by
  obtain ⟨j, hj, hj2⟩ := infoB
  go_enter Tryd.func76, Tryd.ntmps76
  go_wp2
  rw [ptr_bare hs]
  simp only [Result.andThen]
  rw [Oper.upon_value]
  go_wp2
  rw [run_callFunc_extern Tryd.func94 (by kernel_rfl) (by kernel_rfl) (by kernel_rfl) (e := Extern.AbiNoEscape.same) (by kernel_rfl)]
  rw [Lib.run_noEscape]
  simp only [Result.andThen]
  rw [Oper.upon_value]
  go_wp2
  rw [bare_ptr hs]
  simp only [Result.andThen]
  rw [Oper.upon_value]
  go_wp2
  go_end0
  exact ⟨rfl, rfl⟩

/-- what stands behind the check: the builder points to itself -/
theorem check_is {B b : Nat} {bs : List Value} {w : World} (h : Lib.IsBuilder BT 5 B b bs w) :
    Calls Tryd.prog 76 #[.pointer (some ⟨b, 0, none⟩)] w fun e w' => e = .returned (.tuple #[]) ∧ Lib.BuilderAt BT 5 B b (.pointer (some ⟨b, 0, none⟩)) bs w' ∧ Below B w w' := by
  rcases h with h | h
  · refine (check_new h.cell0 h.shape h.frozen0).mono ?_
    rintro e w' ⟨rfl, rfl⟩
    exact ⟨rfl, h.used _, (Below.refl B w).setCell (p := ⟨b, 0, none⟩) h.1 _⟩
  · refine (check_used h.cell0).mono ?_
    rintro e w' ⟨rfl, rfl⟩
    exact ⟨rfl, h, Below.refl B _⟩

set_option maxHeartbeats 2000000 in
set_option maxRecDepth 100000 in
theorem wbyte_is {B b : Nat} {bs : List Value} {c : Int} {w : World} (h : Lib.IsBuilder BT 5 B b bs w) (hl : bs.length + 1 ≤ 140737488355328) (hB : B ≤ w.heap.size) :
    Calls Tryd.prog 71 #[.pointer (some ⟨b, 0, none⟩), .int .u8 c] w fun e w' => e = .returned .nilIface ∧ Lib.IsBuilder BT 5 B b (bs ++ [.int .u8 c]) w' ∧ Below B w w' := by
  obtain ⟨i0, hi, hz0, hz1, hz2⟩ := info_parts infoU8
  go_enter Tryd.func71, Tryd.ntmps71
  go_wp2_with fail
  refine (check_is h).mono ?_
  rintro e w1 ⟨rfl, ⟨hb0, v, hbk, hown, hne⟩, hb1⟩
  have c0 : w1.cell? ⟨b, 0, none⟩ = some (.pointer (some ⟨b, 0, none⟩)) := by rw [Lib.cell_of_heap hbk]; rfl
  have c1 : w1.cell? ⟨b, 1, none⟩ = some v := by rw [Lib.cell_of_heap hbk]; rfl
  go_wp2_with (at_builtin; refine wpList_append_own _ rfl _ _ 50 rfl B 5 i0 (.int .u8 0) 1 1 Tryd.underlying50 hi hz0 hz1 hz2 rfl (by decide) _ _ _ rfl (hown.alloc _) ⟨w1.heap.size, 0, none⟩ 1 1 [.int .u8 c] rfl rfl ?c1 ?c2 ?c3 ?c4 ?c5 ?_)
  case c1 =>
    intro j u hj
    match j, hj with
    | 0, hj => simp at hj; subst hj; simp [Addr.add]
  case c2 => intro u hu; simp at hu; subst hu; rfl
  case c3 => unfold maxLen; omega
  case c4 => omega
  case c5 => have := hb1.size; simp; omega
  intro v' w2 hown' hgrow _
  have hlt : b < w1.heap.size := by
    rcases Nat.lt_or_ge b w1.heap.size with h' | h'
    · exact h'
    · simp [Array.getElem?_eq_none h'] at hbk
  have hb2 : w2.heap[b]? = some (.cells #[.pointer (some ⟨b, 0, none⟩), v] BT (0, 0)) := by
    rw [hgrow.block b (by simp; omega) (fun e => hne e.symm), Lib.alloc_old w1 _ b hlt]
    exact hbk
  have d0 : w2.cell? ⟨b, 0, none⟩ = some (.pointer (some ⟨b, 0, none⟩)) := by rw [Lib.cell_of_heap hb2]; rfl
  have d1 : w2.cell? ⟨b, 1, none⟩ = some v := by rw [Lib.cell_of_heap hb2]; rfl
  have f1 : w2.frozen? ⟨b, 1, none⟩ = false := Lib.frozen_of_heap hb2 1
  obtain ⟨g, cap, rfl⟩ : ∃ g cap, v' = .slice (some ⟨g, 0, none⟩) (bs.length + 1) cap := by
    rcases hown'.2 with ⟨_, h0⟩ | ⟨g, cap, cur, hv, _⟩
    · omega
    · exact ⟨g, cap, hv⟩
  go_wp2
  go_ret
  refine ⟨rfl, .inr ?_, ?_⟩
  · exact Lib.BuilderAt.put hb0 hb2 (bs' := bs ++ [.int .u8 c]) (by simpa using hown') (by decide)
  · exact ((hb1.alloc (by have := hb1.size; omega) _).grown hgrow (by have := hb1.size; simp; omega) (fun k hk => (hown.lt k hk).1)).setCell (p := ⟨b, 1, none⟩) hb0 _

/-- a builder of one's own that holds these bytes -/
structure Bld (w0 w : World) (b : Nat) (l : List Nat) : Prop where
  is : Lib.IsBuilder BT 5 w0.heap.size b (Lib.byteCells (l.map UInt8.ofNat)) w
  bl : Below w0.heap.size w0 w
theorem Bld.new (w : World) : Bld w (w.alloc (.cells #[.pointer none, .slice none 0 0] BT)) w.heap.size [] := ⟨Lib.fresh_isBuilder BT 5 w, Below.al (Below.refl _ _) _⟩
theorem Bld.later {w0 w w' : World} {b : Nat} {l : List Nat} (h : Bld w0 w b l) (hw : w' = w) : Bld w0 w' b l := hw ▸ h
theorem add_is {w0 w : World} {b c : Nat} {l : List Nat} (h : Bld w0 w b l) (hc : c < 256) (hl : l.length + 1 ≤ 140737488355328) :
    Calls Tryd.prog 71 #[.pointer (some ⟨b, 0, none⟩), .int .u8 (c : Int)] w fun e w' => e = .returned .nilIface ∧ Bld w0 w' b (l ++ [c]) := by
  refine (wbyte_is h.is (by simpa [Lib.byteCells] using hl) h.bl.size).mono ?_
  rintro e w' ⟨rfl, h1, h2⟩
  refine ⟨rfl, ?_, h.bl.trans h2⟩
  have : Lib.byteCells ((l ++ [c]).map UInt8.ofNat) = Lib.byteCells (l.map UInt8.ofNat) ++ [.int .u8 (c : Int)] := by
    simp [Lib.byteCells]; omega
  rw [this]
  exact h1
theorem text_is {w0 w : World} {b : Nat} {l : List Nat} (h : Bld w0 w b l) :
    Calls Tryd.prog 54 #[.pointer (some ⟨b, 0, none⟩)] w fun e w' => e = .returned (.string (ofNats l)) ∧ Below w0.heap.size w0 w' := by
  refine (Tryd.Builder_String_any w0.heap.size b _ w h.is h.bl.size).mono ?_
  rintro e w' ⟨rfl, h2⟩
  exact ⟨rfl, h.bl.trans h2⟩

end Go.Proofs.YtfafkohghgliaabDoor.Rt
