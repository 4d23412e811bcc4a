import Derived.Test.YthenfioddnkjbaaGreatDoorLItoa
import Derived.Lib.ItoaMem
import Derived.Laws.IdiomStrings
import Derived.Test.YthenfioddnkjbaaGreatDoorDOnl
import Derived.Laws.BytesArg
import Derived.Laws.AppendOwn
import Derived.Lib.Builder
/- strconv.FormatUint at base 10. -/
namespace Go.Proofs.YthenfioddnkjbaaGreatDoor
open Go.RowKit Go.Sort

/-- a number's digits as a string -/
def dec (u : Nat) : ByteArray := ⟨(Lib.decDigits u).toArray⟩

theorem holds_zero0 (w : World) (T : TypeId) (nd : Nat) (hs : nd ≤ 24) : Holds (fun (b : UInt8) => Value.int .u8 (b.toNat : Int)) (w.alloc (.cells Lib.zeros24 T)) w.heap.size 0 (Array.replicate nd (0 : UInt8)) := fun j hj => by
  have hj' : j < nd := by simpa using hj
  refine ⟨?_, World.frozen?_alloc_new _ _ _ _⟩
  rw [World.cell?_alloc_new, Lib.zeros24_at _ (by omega), getElem!_pos _ j hj]
  simp

theorem below_putRow (w : World) (o : Obj) (dk : Array UInt8) (k : Nat) : Below w.heap.size w ((putRow (fun (b : UInt8) => Value.int .u8 (b.toNat : Int)) (w.alloc o) w.heap.size 0 dk).drewN k) := by
  rw [alloc_eq_grow]
  obtain ⟨os', _, e⟩ := putRow_grow_new (fun (b : UInt8) => Value.int .u8 (b.toNat : Int)) w #[o] w.heap.size 0 dk (Nat.le_refl _)
  rw [e]
  exact ⟨rfl, rfl, rfl, by simp [grow], fun i hi => by simp [grow, Array.getElem?_append, hi]⟩

set_option maxHeartbeats 2000000 in
set_option maxRecDepth 100000 in
theorem fmtInner (u : Nat) (hu64 : u < 18446744073709551616) (w : World) (htab : PowTab w) :
    Calls Tryz.prog 100 #[.int .u64 u, .int .i64 10] w fun e w' => e = .returned (.string (dec u)) ∧ Below w.heap.size w w' := by
  by_cases hs : u < 100
  · go_enter Tryz.func100, Tryz.ntmps100
    go_wp2_with (go_at_call 114; refine (Tryz.internal_strconv_small u hs _).mono ?_; rintro e w' ⟨rfl, rfl⟩)
    go_ret
    exact ⟨rfl, Below.refl _ _⟩
  · have hu1 : 1 ≤ u := by omega
    have hnd20 : Lib.nDigits u ≤ 20 := by have := Lib.numDigits_eq u hu1 hu64; split at this <;> omega
    have hb3 : Lib.nDigits u ≤ 24 := by omega
    have hal : Tryz.prog.arrayLen 186 = 24 := by simp [Program.arrayLen, Tryz.underlying186]
    have hsl : ∀ W, (Instr.sliceAt 186 (.pointer (some ⟨w.heap.size, 0, none⟩)) none (some (.int .i64 (Lib.nDigits u : Int))) none).run Tryz.prog W = .ok (.slice (some ⟨w.heap.size, 0, none⟩) (Lib.nDigits u) 24) W := fun W => by
      rw [run_sliceAt_array_h W 186 ⟨w.heap.size, 0, none⟩ (by simp [Program.arrayLen, Program.elem, Tryz.underlying186]) .i64 (Lib.nDigits u : Int) (by omega) (by rw [hal]; omega)]
      go_simp
    have hH0 := holds_zero0 w 186 (Lib.nDigits u) (by omega)
    have hfmt := Tryz.internal_strconv_formatBase10 w.heap.size 0 24 u (Array.replicate (Lib.nDigits u) 0) (w.alloc (.cells Lib.zeros24 186)) hH0 (by rw [Array.size_replicate]; exact Lib.lt_pow_nDigits u) hu64 (by rw [Array.size_replicate]; omega)
    rw [Array.size_replicate] at hfmt
    have HH0 := hid hH0
    have HF := hid hfmt
    clear hH0 hal hfmt
    go_enter Tryz.func100, Tryz.ntmps100
    go_wp2_with (go_at_call 115; refine (Tryz.internal_strconv_numDigits u hu1 hu64 _ (Lib.tabIs_alloc htab _)).mono ?_; rintro e w' ⟨rfl, rfl⟩)
    refine HF.out.mono ?_
    rintro e w' ⟨rfl, k, v', dk, rfl, hF⟩
    have hcv : (convert 116 9 (.slice (some ⟨w.heap.size, 0, none⟩) (Lib.nDigits u) 24)).run Tryz.prog ((putRow (fun (b : UInt8) => Value.int .u8 (b.toNat : Int)) (w.alloc (.cells Lib.zeros24 186)) w.heap.size 0 dk).drewN k) = .ok (.string (dec u)) ((putRow (fun (b : UInt8) => Value.int .u8 (b.toNat : Int)) (w.alloc (.cells Lib.zeros24 186)) w.heap.size 0 dk).drewN k) := by
      have h := run_convert_bytes_back (P := Tryz.prog) ((putRow (fun (b : UInt8) => Value.int .u8 (b.toNat : Int)) (w.alloc (.cells Lib.zeros24 186)) w.heap.size 0 dk).drewN k) 116 9 5 ⟨w.heap.size, 0, none⟩ 24 (Lib.decDigits u) Tryz.underlying116 Tryz.underlying5 Tryz.underlying9 (fun j hj => by
        rw [Lib.row_is_numeral hF j hj, Lib.add_plain, World.cell?_drewN]
        exact cell?_putRow (fun (b : UInt8) => Value.int .u8 (b.toNat : Int)) _ w.heap.size 0 _ dk HH0.out (by rw [hF.size, Array.size_replicate]) j (by rw [hF.size]; rw [Lib.decDigits_length] at hj; exact hj))
      rw [Lib.decDigits_length] at h
      exact h
    go_wp2
    go_ret
    exact ⟨rfl, below_putRow w (.cells Lib.zeros24 186) dk k⟩

set_option maxHeartbeats 400000 in
theorem fmt_any (u : Nat) (hu64 : u < 18446744073709551616) (w : World) (htab : PowTab w) :
    Calls Tryz.prog 67 #[.int .u64 u, .int .i64 10] w fun e w' => e = .returned (.string (dec u)) ∧ Below w.heap.size w w' := by
  have HT := hid htab
  clear htab
  go_enter Tryz.func67, Tryz.ntmps67
  go_wp2_with fail
  refine (fmtInner u hu64 _ HT.out).mono ?_
  rintro e w' ⟨rfl, hb⟩
  go_wp2_with fail
  go_ret
  exact ⟨rfl, hb⟩

end Go.Proofs.YthenfioddnkjbaaGreatDoor
/- Texts as lists of numbers. -/
namespace Go.Proofs.YthenfioddnkjbaaGreatDoor
open Go.RowKit Go.Sort

/-- a text's bytes as numbers -/
def nums (s : ByteArray) : List Nat := s.data.toList.map UInt8.toNat
/-- the text of bytes -/
def ofNats (l : List Nat) : ByteArray := ⟨(l.map UInt8.ofNat).toArray⟩
def B8 (l : List Nat) : Prop := ∀ b ∈ l, b < 256

theorem nums_length (s : ByteArray) : (nums s).length = s.size := by unfold nums; rw [List.length_map]; rfl
theorem nums_b8 (s : ByteArray) : B8 (nums s) := by
  intro b hb
  simp only [nums, List.mem_map] at hb
  obtain ⟨x, _, rfl⟩ := hb
  exact x.toNat_lt
theorem ofNats_nums (s : ByteArray) : ofNats (nums s) = s := by
  have h : (UInt8.ofNat ∘ UInt8.toNat) = id := by funext x; simp
  cases s with
  | mk a => simp [ofNats, nums, h]
theorem nums_ofNats {l : List Nat} (h : B8 l) : nums (ofNats l) = l := by
  simp only [nums, ofNats, List.map_map]
  conv => rhs; rw [← List.map_id l]
  refine List.map_congr_left fun x hx => ?_
  have := h x hx
  simp only [Function.comp, id]
  exact Nat.mod_eq_of_lt this
theorem ofNats_size (l : List Nat) : (ofNats l).size = l.length := by simp [ofNats, ByteArray.size]
theorem ofNats_inj {a b : List Nat} (ha : B8 a) (hb : B8 b) (h : ofNats a = ofNats b) : a = b := by
  rw [← nums_ofNats ha, ← nums_ofNats hb, h]
theorem ofNats_eq {a b : List Nat} (ha : B8 a) (hb : B8 b) : (ofNats a = ofNats b) ↔ a = b := ⟨ofNats_inj ha hb, fun h => h ▸ rfl⟩
theorem ofNats_append (a b : List Nat) : ofNats a ++ ofNats b = ofNats (a ++ b) := by
  apply ByteArray.ext
  simp [ofNats]
theorem nums_append (a b : ByteArray) : nums (a ++ b) = nums a ++ nums b := by simp [nums]
theorem nums_extract (s : ByteArray) (i j : Nat) : nums (s.extract i j) = ((nums s).take j).drop i := by
  simp [nums, List.map_take, List.map_drop, List.drop_take]
theorem B8.append {a b : List Nat} (ha : B8 a) (hb : B8 b) : B8 (a ++ b) := by
  intro x hx; rcases List.mem_append.1 hx with h | h
  · exact ha x h
  · exact hb x h
theorem B8.left {a b : List Nat} (h : B8 (a ++ b)) : B8 a := fun x hx => h x (List.mem_append.2 (.inl hx))
theorem B8.right {a b : List Nat} (h : B8 (a ++ b)) : B8 b := fun x hx => h x (List.mem_append.2 (.inr hx))
theorem B8.take {a : List Nat} (h : B8 a) (n : Nat) : B8 (a.take n) := fun x hx => h x (List.mem_of_mem_take hx)
theorem B8.drop {a : List Nat} (h : B8 a) (n : Nat) : B8 (a.drop n) := fun x hx => h x (List.mem_of_mem_drop hx)
theorem ofNats_extract {l : List Nat} (h : B8 l) (i j : Nat) : (ofNats l).extract i j = ofNats ((l.take j).drop i) := by
  have := nums_extract (ofNats l) i j
  rw [nums_ofNats h] at this
  rw [← this, ofNats_nums]
theorem strOfNums_nats (l : List Nat) : strOfNums (l.map Int.ofNat) = ofNats l := by
  simp [strOfNums, ofNats]
theorem nums_inj {a b : ByteArray} (h : nums a = nums b) : a = b := by rw [← ofNats_nums a, ← ofNats_nums b, h]
theorem B8.nil : B8 [] := fun x hx => by simp at hx
theorem B8.one {v : Nat} (h : v < 256) : B8 [v] := fun x hx => by simp at hx; omega

end Go.Proofs.YthenfioddnkjbaaGreatDoor
/- A builder of a text: a byte more, and the text of it. -/
namespace Go.Proofs.YthenfioddnkjbaaGreatDoor.Rt
open Go.RowKit Go.Sort
set_option linter.unusedVariables false

abbrev BT : TypeId := 118
theorem szB : (Tryz.prog.info? BT).map (·.size) = some 2 := by kernel_rfl
theorem infoU8 : (Tryz.prog.info? 5).map (fun i => (i.zero, i.size, i.bytes)) = some (some (.int .u8 0), 1, 1) := by kernel_rfl
theorem liesB : liesAt Tryz.prog Tryz.prog.depth BT (2 / Tryz.prog.cellsOf BT) 0 BT 1 = true := by kernel_rfl
theorem infoB : ∃ j, Tryz.prog.info? BT = some j ∧ j.size = 2 := by
  obtain ⟨j, h1, h2⟩ := Option.map_eq_some_iff.1 szB
  exact ⟨j, h1, h2⟩

/-- a pointer to a builder, as a bare pointer and back -/
theorem ptr_bare {b : Nat} {w : World} (hs : w.shape? b = some (BT, 2)) : (convert 115 145 (.pointer (some ⟨b, 0, none⟩))).run Tryz.prog w = .ok (.pointer (some ⟨b, 0, none⟩)) w := by
  obtain ⟨j, hj, hj2⟩ := infoB
  simp [convert, run_underlying Tryz.underlying115, run_underlying Tryz.underlying145, Conv.unsafePointer, Conv.seenAt, viewAt, cellsIn, hs, sizeOf, typeInfo, hj, hj2]
theorem bare_ptr {b : Nat} {w : World} (hs : w.shape? b = some (BT, 2)) : (convert 145 115 (.pointer (some ⟨b, 0, none⟩))).run Tryz.prog w = .ok (.pointer (some ⟨b, 0, none⟩)) w := by
  obtain ⟨j, hj, hj2⟩ := infoB
  simp [convert, run_underlying Tryz.underlying115, run_underlying Tryz.underlying145, Conv.unsafePointer, Conv.seenAt, viewAt, variablesAt, hs, sizeOf, typeInfo, hj, hj2, liesB]

set_option maxHeartbeats 1000000 in
set_option maxRecDepth 100000 in
theorem check_used {b : Nat} {w : World} (h0 : w.cell? ⟨b, 0, none⟩ = some (.pointer (some ⟨b, 0, none⟩))) :
    Calls Tryz.prog 101 #[.pointer (some ⟨b, 0, none⟩)] w fun e w' => e = .returned (.tuple #[]) ∧ w' = w := by
  obtain ⟨j, hj, _⟩ := infoB
  go_enter Tryz.func101, Tryz.ntmps101
  go_wp2
  rw [Lib.run_neq_ptr_same w _ Tryz.underlying115 hj]
  go_wp2
  go_end0
  exact ⟨rfl, rfl⟩

set_option maxHeartbeats 1000000 in
set_option maxRecDepth 100000 in
theorem check_new {b : Nat} {w : World} (h0 : w.cell? ⟨b, 0, none⟩ = some (.pointer none)) (hs : w.shape? b = some (BT, 2)) (hf : w.frozen? ⟨b, 0, none⟩ = false) :
    Calls Tryz.prog 101 #[.pointer (some ⟨b, 0, none⟩)] w fun e w' => e = .returned (.tuple #[]) ∧ w' = w.setCell ⟨b, 0, none⟩ (.pointer (some ⟨b, 0, none⟩)) := by
  obtain ⟨j, hj, hj2⟩ := infoB
  go_enter Tryz.func101, Tryz.ntmps101
  go_wp2
  rw [ptr_bare hs]
  simp only [Result.andThen]
  rw [Oper.upon_value]
  go_wp2
  rw [run_callFunc_extern Tryz.func118 (by kernel_rfl) (by kernel_rfl) (by kernel_rfl) (e := Extern.AbiNoEscape.same) (by kernel_rfl)]
  rw [Lib.run_noEscape]
  simp only [Result.andThen]
  rw [Oper.upon_value]
  go_wp2
  rw [bare_ptr hs]
  simp only [Result.andThen]
  rw [Oper.upon_value]
  go_wp2
  go_end0
  exact ⟨rfl, rfl⟩

/-- what stands behind the check: the builder points to itself -/
theorem check_is {B b : Nat} {bs : List Value} {w : World} (h : Lib.IsBuilder BT 5 B b bs w) :
    Calls Tryz.prog 101 #[.pointer (some ⟨b, 0, none⟩)] w fun e w' => e = .returned (.tuple #[]) ∧ Lib.BuilderAt BT 5 B b (.pointer (some ⟨b, 0, none⟩)) bs w' ∧ Below B w w' := by
  rcases h with h | h
  · refine (check_new h.cell0 h.shape h.frozen0).mono ?_
    rintro e w' ⟨rfl, rfl⟩
    exact ⟨rfl, h.used _, (Below.refl B w).setCell (p := ⟨b, 0, none⟩) h.1 _⟩
  · refine (check_used h.cell0).mono ?_
    rintro e w' ⟨rfl, rfl⟩
    exact ⟨rfl, h, Below.refl B _⟩

set_option maxHeartbeats 2000000 in
set_option maxRecDepth 100000 in
theorem wbyte_is {B b : Nat} {bs : List Value} {c : Int} {w : World} (h : Lib.IsBuilder BT 5 B b bs w) (hl : bs.length + 1 ≤ 140737488355328) (hB : B ≤ w.heap.size) :
    Calls Tryz.prog 70 #[.pointer (some ⟨b, 0, none⟩), .int .u8 c] w fun e w' => e = .returned .nilIface ∧ Lib.IsBuilder BT 5 B b (bs ++ [.int .u8 c]) w' ∧ Below B w w' := by
  obtain ⟨i0, hi, hz0, hz1, hz2⟩ := info_parts infoU8
  go_enter Tryz.func70, Tryz.ntmps70
  go_wp2_with fail
  refine (check_is h).mono ?_
  rintro e w1 ⟨rfl, ⟨hb0, v, hbk, hown, hne⟩, hb1⟩
  have c0 : w1.cell? ⟨b, 0, none⟩ = some (.pointer (some ⟨b, 0, none⟩)) := by rw [Lib.cell_of_heap hbk]; rfl
  have c1 : w1.cell? ⟨b, 1, none⟩ = some v := by rw [Lib.cell_of_heap hbk]; rfl
  go_wp2_with (at_builtin; refine wpList_append_own _ rfl _ _ 116 rfl B 5 i0 (.int .u8 0) 1 1 Tryz.underlying116 hi hz0 hz1 hz2 rfl (by decide) _ _ _ rfl (hown.alloc _) ⟨w1.heap.size, 0, none⟩ 1 1 [.int .u8 c] rfl rfl ?c1 ?c2 ?c3 ?c4 ?c5 ?_)
  case c1 =>
    intro j u hj
    match j, hj with
    | 0, hj => simp at hj; subst hj; simp [Addr.add]
  case c2 => intro u hu; simp at hu; subst hu; rfl
  case c3 => unfold maxLen; omega
  case c4 => omega
  case c5 => have := hb1.size; simp; omega
  intro v' w2 hown' hgrow _
  have hlt : b < w1.heap.size := by
    rcases Nat.lt_or_ge b w1.heap.size with h' | h'
    · exact h'
    · simp [Array.getElem?_eq_none h'] at hbk
  have hb2 : w2.heap[b]? = some (.cells #[.pointer (some ⟨b, 0, none⟩), v] BT (0, 0)) := by
    rw [hgrow.block b (by simp; omega) (fun e => hne e.symm), Lib.alloc_old w1 _ b hlt]
    exact hbk
  have d0 : w2.cell? ⟨b, 0, none⟩ = some (.pointer (some ⟨b, 0, none⟩)) := by rw [Lib.cell_of_heap hb2]; rfl
  have d1 : w2.cell? ⟨b, 1, none⟩ = some v := by rw [Lib.cell_of_heap hb2]; rfl
  have f1 : w2.frozen? ⟨b, 1, none⟩ = false := Lib.frozen_of_heap hb2 1
  obtain ⟨g, cap, rfl⟩ : ∃ g cap, v' = .slice (some ⟨g, 0, none⟩) (bs.length + 1) cap := by
    rcases hown'.2 with ⟨_, h0⟩ | ⟨g, cap, cur, hv, _⟩
    · omega
    · exact ⟨g, cap, hv⟩
  go_wp2
  go_ret
  refine ⟨rfl, .inr ?_, ?_⟩
  · exact Lib.BuilderAt.put hb0 hb2 (bs' := bs ++ [.int .u8 c]) (by simpa using hown') (by decide)
  · exact ((hb1.alloc (by have := hb1.size; omega) _).grown hgrow (by have := hb1.size; simp; omega) (fun k hk => (hown.lt k hk).1)).setCell (p := ⟨b, 1, none⟩) hb0 _

/-- a builder of one's own that holds these bytes -/
structure Bld (w0 w : World) (b : Nat) (l : List Nat) : Prop where
  is : Lib.IsBuilder BT 5 w0.heap.size b (Lib.byteCells (l.map UInt8.ofNat)) w
  bl : Below w0.heap.size w0 w
theorem Bld.new (w : World) : Bld w (w.alloc (.cells #[.pointer none, .slice none 0 0] BT)) w.heap.size [] := ⟨Lib.fresh_isBuilder BT 5 w, Below.al (Below.refl _ _) _⟩
theorem Bld.later {w0 w w' : World} {b : Nat} {l : List Nat} (h : Bld w0 w b l) (hw : w' = w) : Bld w0 w' b l := hw ▸ h
theorem add_is {w0 w : World} {b c : Nat} {l : List Nat} (h : Bld w0 w b l) (hc : c < 256) (hl : l.length + 1 ≤ 140737488355328) :
    Calls Tryz.prog 70 #[.pointer (some ⟨b, 0, none⟩), .int .u8 (c : Int)] w fun e w' => e = .returned .nilIface ∧ Bld w0 w' b (l ++ [c]) := by
  refine (wbyte_is h.is (by simpa [Lib.byteCells] using hl) h.bl.size).mono ?_
  rintro e w' ⟨rfl, h1, h2⟩
  refine ⟨rfl, ?_, h.bl.trans h2⟩
  have : Lib.byteCells ((l ++ [c]).map UInt8.ofNat) = Lib.byteCells (l.map UInt8.ofNat) ++ [.int .u8 (c : Int)] := by
    simp [Lib.byteCells]; omega
  rw [this]
  exact h1
theorem text_is {w0 w : World} {b : Nat} {l : List Nat} (h : Bld w0 w b l) :
    Calls Tryz.prog 71 #[.pointer (some ⟨b, 0, none⟩)] w fun e w' => e = .returned (.string (ofNats l)) ∧ Below w0.heap.size w0 w' := by
  refine (Tryz.Builder_String_any w0.heap.size b _ w h.is h.bl.size).mono ?_
  rintro e w' ⟨rfl, h2⟩
  exact ⟨rfl, h.bl.trans h2⟩

end Go.Proofs.YthenfioddnkjbaaGreatDoor.Rt
/- Words, plain: a text as bytes, its word, and what a word reads as. -/
namespace Go.Proofs.YthenfioddnkjbaaGreatDoor.Rt
set_option linter.unusedVariables false

/-- does the byte stand for itself? -/
def plB (b : Nat) : Bool := decide (33 ≤ b) && decide (b ≤ 126) && decide (b ≠ 37)
/-- a hex digit -/
def hx (n : Nat) : Nat := if n < 10 then 48 + n else 87 + n
/-- what a hex digit stands for -/
def hv (c : Nat) : Option Nat := if 48 ≤ c ∧ c ≤ 57 then some (c - 48) else if 97 ≤ c ∧ c ≤ 102 then some (c - 87) else none
/-- how a byte is written -/
def wb (b : Nat) : List Nat := if plB b then [b] else [37, hx (b / 16), hx (b % 16)]
def wbs (l : List Nat) : List Nat := l.flatMap wb
/-- a text's word -/
def wordL (l : List Nat) : List Nat := if l = [] then [37] else wbs l
/-- the byte that a word begins with, and how many bytes write it -/
def fst : List Nat → Option (Nat × Nat)
  | [] => none
  | a :: t => if plB a then some (a, 1) else
    match t with
    | x :: y :: _ => if a ≠ 37 then none else
      match hv x, hv y with
      | some h, some l => if plB (h * 16 + l) then none else some (h * 16 + l, 3)
      | _, _ => none
    | _ => none
/-- what a piece of a word reads as -/
def unw : Nat → List Nat → Option (List Nat)
  | 0, l => if l = [] then some [] else none
  | f + 1, l => if l = [] then some [] else
    match fst l with
    | none => none
    | some (b, n) => (unw f (l.drop n)).map (b :: ·)
/-- what a word reads as -/
def unword (l : List Nat) : Option (List Nat) := if l = [37] then some [] else if l = [] then none else unw l.length l

theorem hv_hx {n : Nat} (h : n < 16) : hv (hx n) = some n := by
  unfold hv hx
  by_cases h1 : n < 10
  · rw [if_pos h1, if_pos (by omega)]; congr 1; omega
  · rw [if_neg h1, if_neg (by omega), if_pos (by omega)]; congr 1; omega
theorem hx_hv {c n : Nat} (h : hv c = some n) : hx n = c ∧ n < 16 := by
  unfold hv at h
  unfold hx
  split at h
  · injection h with h; subst h; rw [if_pos (by omega)]; omega
  · split at h
    · injection h with h; subst h; rw [if_neg (by omega)]; omega
    · cases h
theorem hx_plain {n : Nat} (h : n < 16) : 33 ≤ hx n ∧ hx n ≤ 126 := by unfold hx; split <;> omega
theorem wb_len (b : Nat) : 1 ≤ (wb b).length ∧ (wb b).length ≤ 3 := by unfold wb; split <;> simp
theorem wb_range {b : Nat} (h : b < 256) : ∀ c ∈ wb b, 33 ≤ c ∧ c ≤ 126 := by
  intro c hc
  unfold wb at hc
  split at hc
  · rename_i hp
    simp [plB] at hp
    simp at hc
    omega
  · simp at hc
    rcases hc with rfl | rfl | rfl
    · omega
    · exact hx_plain (by omega)
    · exact hx_plain (by omega)
theorem wbs_len (l : List Nat) : l.length ≤ (wbs l).length ∧ (wbs l).length ≤ 3 * l.length := by
  induction l with
  | nil => simp [wbs]
  | cons a l ih =>
    have := wb_len a
    simp only [wbs, List.flatMap_cons, List.length_append, List.length_cons] at ih ⊢
    omega
theorem wbs_range {l : List Nat} (h : B8 l) : ∀ c ∈ wbs l, 33 ≤ c ∧ c ≤ 126 := by
  intro c hc
  obtain ⟨b, hb, hc⟩ := List.mem_flatMap.1 hc
  exact wb_range (h b hb) c hc
theorem wordL_range {l : List Nat} (h : B8 l) : ∀ c ∈ wordL l, 33 ≤ c ∧ c ≤ 126 := by
  unfold wordL
  split
  · intro c hc; simp at hc; omega
  · exact wbs_range h
theorem wordL_len (l : List Nat) : 1 ≤ (wordL l).length ∧ (wordL l).length ≤ 3 * l.length + 1 := by
  unfold wordL
  split
  · rename_i h; subst h; simp
  · have := wbs_len l
    have : 0 < l.length := List.length_pos_iff.2 ‹_›
    omega
theorem fst_wb {b : Nat} (h : b < 256) (t : List Nat) : fst (wb b ++ t) = some (b, (wb b).length) := by
  unfold wb
  by_cases hp : plB b = true
  · simp [hp, fst]
  · have e : b / 16 * 16 + b % 16 = b := by omega
    have h37 : plB 37 = false := rfl
    simp [hp, fst, hv_hx (show b / 16 < 16 by omega), hv_hx (show b % 16 < 16 by omega), e, h37]
theorem fst_some {l : List Nat} {b n : Nat} (h8 : B8 l) (h : fst l = some (b, n)) : ∃ t, l = wb b ++ t ∧ n = (wb b).length ∧ b < 256 := by
  rcases l with _ | ⟨a, t⟩
  · simp [fst] at h
  · by_cases hp : plB a = true
    · simp only [fst, hp, if_true, Option.some.injEq, Prod.mk.injEq] at h
      obtain ⟨rfl, rfl⟩ := h
      exact ⟨t, by simp [wb, hp], by simp [wb, hp], h8 _ (by simp)⟩
    · rcases t with _ | ⟨x, _ | ⟨y, r⟩⟩
      · simp [fst, hp] at h
      · simp [fst, hp] at h
      · by_cases ha : a = 37
        · subst ha
          cases hx1 : hv x with
          | none => simp [fst, hp, hx1] at h
          | some p =>
            cases hy1 : hv y with
            | none => simp [fst, hp, hx1, hy1] at h
            | some q =>
              by_cases hq : plB (p * 16 + q) = true
              · simp [fst, hp, hx1, hy1, hq] at h
              · simp [fst, hp, hx1, hy1, hq] at h
                obtain ⟨h1, h2⟩ := h
                obtain ⟨ex, hp16⟩ := hx_hv hx1
                obtain ⟨ey, hq16⟩ := hx_hv hy1
                have hq' : plB b = false := by rw [← h1]; simpa using hq
                have e1 : b / 16 = p := by omega
                have e2 : b % 16 = q := by omega
                refine ⟨r, ?_, ?_, by omega⟩
                · simp [wb, hq', e1, e2, ex, ey]
                · simp [wb, hq', h2.symm]
        · simp [fst, hp, ha] at h
theorem fst_pos {l : List Nat} {b n : Nat} (h : fst l = some (b, n)) : 1 ≤ n := by
  rcases l with _ | ⟨a, t⟩
  · simp [fst] at h
  · by_cases hp : plB a = true
    · simp [fst, hp] at h; omega
    · rcases t with _ | ⟨x, _ | ⟨y, r⟩⟩
      · simp [fst, hp] at h
      · simp [fst, hp] at h
      · by_cases ha : a = 37
        · subst ha
          cases hx1 : hv x with
          | none => simp [fst, hp, hx1] at h
          | some p =>
            cases hy1 : hv y with
            | none => simp [fst, hp, hx1, hy1] at h
            | some q =>
              by_cases hq : plB (p * 16 + q) = true
              · simp [fst, hp, hx1, hy1, hq] at h
              · simp [fst, hp, hx1, hy1, hq] at h; omega
        · simp [fst, hp, ha] at h
theorem fst_size {l : List Nat} {b n : Nat} (h8 : B8 l) (h : fst l = some (b, n)) : (n = 1 ∨ n = 3) ∧ n ≤ l.length ∧ b < 256 := by
  obtain ⟨t, e, e2, h3⟩ := fst_some h8 h
  refine ⟨?_, ?_, h3⟩
  · rw [e2]; unfold wb; split <;> simp
  · rw [e, e2]; simp
theorem unw_wbs : ∀ (l : List Nat) (f : Nat), B8 l → (wbs l).length ≤ f → unw f (wbs l) = some l
  | [], 0, _, _ => rfl
  | [], f + 1, _, _ => rfl
  | b :: l, 0, _, h => by
    have := (wbs_len (b :: l)).1
    simp at this; omega
  | b :: l, f + 1, h8, h => by
    have hb : b < 256 := h8 b (by simp)
    have e : wbs (b :: l) = wb b ++ wbs l := by simp [wbs]
    have hne : wb b ++ wbs l ≠ [] := by have := (wb_len b).1; intro hh; have h2 := congrArg List.length hh; rw [List.length_append, List.length_nil] at h2; omega
    have hlen : (wbs l).length ≤ f := by have := (wb_len b).1; rw [e, List.length_append] at h; omega
    rw [e]
    unfold unw
    rw [if_neg hne, fst_wb hb]
    simp [unw_wbs l f (fun x hx => h8 x (by simp [hx])) hlen]
theorem unw_some : ∀ (f : Nat) (l r : List Nat), B8 l → unw f l = some r → l = wbs r ∧ B8 r
  | 0, l, r, _, h => by
    unfold unw at h
    split at h
    · rename_i e; injection h with h; subst e h; exact ⟨rfl, B8.nil⟩
    · cases h
  | f + 1, l, r, h8, h => by
    unfold unw at h
    split at h
    · rename_i e; injection h with h; subst e h; exact ⟨rfl, B8.nil⟩
    · cases hf : fst l with
      | none => rw [hf] at h; cases h
      | some p =>
        obtain ⟨b, n⟩ := p
        rw [hf] at h
        simp only [Option.map_eq_some_iff] at h
        obtain ⟨r', h1, rfl⟩ := h
        obtain ⟨t, e, e2, hb⟩ := fst_some h8 hf
        have h1' := unw_some f _ r' (h8.drop n) h1
        refine ⟨?_, fun x hx => ?_⟩
        · rw [e, e2, List.drop_left] at h1'
          rw [e, h1'.1]; simp [wbs]
        · rcases List.mem_cons.1 hx with rfl | hx
          · exact hb
          · exact h1'.2 x hx
theorem wbs_one {l : List Nat} (h8 : B8 l) : wbs l ≠ [37] := by
  intro h
  cases l with
  | nil => simp [wbs] at h
  | cons b l =>
    have e : wbs (b :: l) = wb b ++ wbs l := by simp [wbs]
    rw [e] at h
    unfold wb at h
    split at h
    · rename_i hp
      simp at h
      rw [h.1] at hp
      simp [plB] at hp
    · simp at h
theorem unword_word {l : List Nat} (h8 : B8 l) : unword (wordL l) = some l := by
  unfold wordL
  split
  · rename_i h; subst h; rfl
  · rename_i h
    unfold unword
    have hne : wbs l ≠ [] := by
      have h1 := (wbs_len l).1
      have h2 : 0 < l.length := List.length_pos_iff.2 h
      intro hh; rw [hh, List.length_nil] at h1; omega
    rw [if_neg (wbs_one h8), if_neg hne]
    exact unw_wbs l _ h8 (Nat.le_refl _)
theorem word_unword {l r : List Nat} (h8 : B8 l) (h : unword l = some r) : wordL r = l ∧ B8 r := by
  unfold unword at h
  split at h
  · rename_i e; injection h with h; subst e h; exact ⟨rfl, B8.nil⟩
  · split at h
    · cases h
    · rename_i hne
      obtain ⟨e, hr⟩ := unw_some _ _ _ h8 h
      refine ⟨?_, hr⟩
      unfold wordL
      rw [if_neg, e]
      rintro rfl
      exact hne (by rw [e]; rfl)
/-- one step of reading a word -/
theorem unw_step {l : List Nat} {f b n : Nat} (h8 : B8 l) (hl : l.length ≤ f) (hf : fst l = some (b, n)) : unw f l = (unw f (l.drop n)).map (b :: ·) := by
  obtain ⟨h1, h2, _⟩ := fst_size h8 hf
  have key : ∀ (f : Nat) (m : List Nat), m.length ≤ f → ∀ g, f ≤ g → unw g m = unw f m := by
    intro f
    induction f with
    | zero =>
      intro m hm g _
      have : m = [] := List.eq_nil_of_length_eq_zero (by omega)
      subst this
      cases g <;> rfl
    | succ f ih =>
      intro m hm g hg
      obtain ⟨g, rfl⟩ : ∃ g', g = g' + 1 := ⟨g - 1, by omega⟩
      unfold unw
      split
      · rfl
      · cases hfm : fst m with
        | none => rfl
        | some p =>
          obtain ⟨b, n⟩ := p
          simp only
          have hn : 1 ≤ n := fst_pos hfm
          rw [ih (m.drop n) (by simp; omega) g (by omega)]
  obtain ⟨f, rfl⟩ : ∃ f', f = f' + 1 := ⟨f - 1, by omega⟩
  have hne : l ≠ [] := by rintro rfl; simp at h2; omega
  rw [key f (l.drop n) (by simp; omega) (f + 1) (by omega)]
  conv => lhs; unfold unw
  rw [if_neg hne, hf]
theorem unw_none {l : List Nat} {f : Nat} (hne : l ≠ []) (hf : fst l = none) : unw f l = none := by
  cases f with
  | zero => simp [unw, hne]
  | succ f => simp [unw, hne, hf]

end Go.Proofs.YthenfioddnkjbaaGreatDoor.Rt
