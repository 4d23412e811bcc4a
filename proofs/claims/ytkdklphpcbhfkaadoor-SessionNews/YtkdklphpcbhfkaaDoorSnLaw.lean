import Derived.Test.YtkdklphpcbhfkaaDoorSnTell
/- SessionNews. -/
namespace Go.Proofs.YtkdklphpcbhfkaaDoor.Rt
open Go.RowKit Go.Sort Go.Shelf
set_option linter.unusedVariables false

/-- a node and a configuration, as they come in -/
structure Nw where
  nd : Int
  c : Cf
abbrev Nw.val (x : Nw) : Value := .agg #[.int .u32 x.nd, .int .i64 x.c.sh, .int .i64 x.c.cl, .slice x.c.a x.c.ss.length x.c.cp, .int .i64 x.c.ca, .int .i64 x.c.pk, .int .u64 x.c.wi]
structure Nw.Ok (x : Nw) (w : World) : Prop where
  c : x.c.Ok w
  cl : x.c.ss.length ≤ 8796093022208
  wi : 0 ≤ x.c.wi ∧ x.c.wi ≤ 18446744073709551615
  nd : 0 ≤ x.nd ∧ x.nd ≤ 4294967295
/-- the box of it -/
structure BoxN (w : World) (p : Nat) (x : Nw) : Prop where
  c0 : w.cell? ⟨p, 0, none⟩ = some (.int .u32 x.nd)
  c1 : w.cell? ⟨p, 1, none⟩ = some (.int .i64 x.c.sh)
  c2 : w.cell? ⟨p, 2, none⟩ = some (.int .i64 x.c.cl)
  c3 : w.cell? ⟨p, 3, none⟩ = some (.slice x.c.a x.c.ss.length x.c.cp)
  c4 : w.cell? ⟨p, 4, none⟩ = some (.int .i64 x.c.ca)
  c5 : w.cell? ⟨p, 5, none⟩ = some (.int .i64 x.c.pk)
  c6 : w.cell? ⟨p, 6, none⟩ = some (.int .u64 x.c.wi)
theorem BoxN.later {w w' : World} {p : Nat} {x : Nw} (h : BoxN w p x) (hb : Below w.heap.size w w') : BoxN w' p x := ⟨cell_later hb h.c0, cell_later hb h.c1, cell_later hb h.c2, cell_later hb h.c3, cell_later hb h.c4, cell_later hb h.c5, cell_later hb h.c6⟩
/-- the one session that there must be -/
abbrev oneC : Cf := ⟨1, 1, none, 0, [], 256, 0, 0⟩
theorem one_cli : oneC.cli 1 = true := by decide

theorem one_is {w : World} (ht : PowTab w) : Calls Tryd.prog 5 #[.int .u32 1, .agg #[.int .i64 1, .int .i64 1, .slice none 0 0, .int .i64 256, .int .i64 0, .int .u64 0]] w fun e w' => (∃ p, e = .returned (.pointer (some ⟨p, 0, none⟩))) ∧ Below w.heap.size w w' := by
  have h : oneC.Ok w := ⟨fun i hi => (by cases hi), (by decide), (by decide)⟩
  refine (New_is (c := oneC) (nd := 1) h (by decide) (by decide) ht).mono ?_
  rintro e w' ⟨hn, hb⟩
  rcases hn with ⟨hu, _⟩ | ⟨_, p, rfl, _⟩
  · rw [one_cli] at hu; cases hu
  · exact ⟨⟨p, rfl⟩, hb⟩
/-- the copy is valid where it came from was -/
theorem at_ok {c : Cf} {w : World} {g : Nat} (h : c.Ok w) (hc : CellsS w g (sprF c.ss) (c.ss.length + 1)) : (c.atW (some ⟨g, 0, none⟩) (c.ss.length + 1)).Ok w :=
  ⟨fun i hi => ⟨g, 0, rfl, by
    have hi' : i < c.ss.length := hi
    have := hc i (by omega)
    rw [sprF, if_pos hi'] at this
    rw [Nat.zero_add]
    exact this⟩, h.len, h.sh⟩

set_option maxRecDepth 100000 in
set_option maxHeartbeats 8000000 in
theorem law_news {x : Nw} {w : World} (h : x.Ok w) (ht : PowTab w) :
    Calls Tryd.prog 3 #[x.val] w fun e w' => e = .returned (.bool true) ∧ Below w.heap.size w w' := by
  obtain ⟨nd, c⟩ := x
  obtain ⟨hok, hcl, hwi, hnd⟩ := h
  simp only at hok hcl hwi hnd
  obtain ⟨w0, hw0⟩ : ∃ w0, w0 = w.alloc (.cells #[.int .u32 nd, .int .i64 c.sh, .int .i64 c.cl, .slice c.a c.ss.length c.cp, .int .i64 c.ca, .int .i64 c.pk, .int .u64 c.wi] 28) := ⟨_, rfl⟩
  have hb0 : Below w.heap.size w w0 := by rw [hw0]; exact Below.al (Below.refl _ _) _
  have X0 : BoxN w0 w.heap.size ⟨nd, c⟩ := by
    rw [hw0]
    constructor <;> simp [go_sem]
  have HX0 := hid X0
  have HOK := hid hok
  have HT := hid ht
  have HB0 := hid hb0
  have CF := hid (conf_is (hok.later hb0) hcl)
  have HCL := hid hcl
  have HWI := hid hwi
  have HND := hid hnd
  obtain ⟨x0, x1, x2, x3, x4, x5, x6⟩ := X0
  simp only at x0 x1 x2 x3 x4 x5 x6
  clear hok ht hcl hb0 hwi hnd
  go_enter Tryd.func3, Tryd.ntmps3
  rw [hw0] at x0 x1 x2 x3 x4 x5 x6
  go_upto_region 1 with fail
  rw [← hw0] at x0 x1 x2 x3 x4 x5 x6
  rw [← hw0]
  clear hw0
  go_wp2_with fail
  refine CF.out.mono ?_
  rintro e w1 ⟨g, rfl, HG, HB1⟩
  have HX1 := hid (HX0.out.later (Below.on (Below.refl _ _) (HB1.out)))
  clear x0 x1 x2 x3 x4 x5 x6 CF
  go_upto_region 2 with fail
  obtain ⟨w2, hw2⟩ : ∃ w2, w2 = w1.alloc (.cells #[.int .i64 c.sh, .int .i64 c.cl, .slice (some ⟨g, 0, none⟩) c.ss.length (c.ss.length + 1), .int .i64 c.ca, .int .i64 c.pk, .int .u64 c.wi] 26) := ⟨_, rfl⟩
  obtain ⟨q, hq⟩ : ∃ q, q = w1.heap.size := ⟨_, rfl⟩
  have hb2 : Below w1.heap.size w1 w2 := by rw [hw2]; exact Below.al (Below.refl _ _) _
  have B2 : BoxC w2 q (c.atW (some ⟨g, 0, none⟩) (c.ss.length + 1)) := by rw [hw2, hq]; exact BoxC.new w1 (c.atW (some ⟨g, 0, none⟩) (c.ss.length + 1)) _
  rw [← hw2, ← hq]
  have HB2 : Hid (Below w0.heap.size w0 w2) := hid (Below.on HB1.out hb2)
  have HX2 := hid (HX0.out.later HB2.out)
  have HBX := hid B2
  have HG2 := hid (HG.out.later hb2)
  have HBW2 := hid (Below.on HB0.out HB2.out)
  clear hw2 hq hb2 B2 HG HB1 HX1
  have HC2 := hid (HOK.out.later HBW2.out)
  have NW := hid (New_is (nd := nd) (at_ok HC2.out HG2.out) HWI.out HND.out (HT.out.later HBW2.out))
  obtain ⟨x0, x1, x2, x3, x4, x5, x6⟩ := HX2.out
  obtain ⟨y0, y1, y2, y3, y4, y5⟩ := HBX.out
  simp only at x0 x1 x2 x3 x4 x5 x6 y0 y1 y2 y3 y4 y5
  go_wp2_with fail
  refine NW.out.mono ?_
  rintro e w3 ⟨hn, hb3⟩
  have hn : NewP (c.cli nd) e w3 := hn
  have HB3 := hid (Below.on HBW2.out hb3)
  have HX3 := hid (HX2.out.later hb3)
  have HY3 := hid (HBX.out.later hb3)
  have HG3 := hid (HG2.out.later hb3)
  have RN := hid (rNew_is (nd := nd) (HOK.out.later HB3.out) HWI.out HND.out (HT.out.later HB3.out))
  clear hb3 x0 x1 x2 x3 x4 x5 x6 y0 y1 y2 y3 y4 y5 NW HX2 HBX HG2 HC2 HBW2 HB2
  obtain ⟨x0, x1, x2, x3, x4, x5, x6⟩ := HX3.out
  simp only at x0 x1 x2 x3 x4 x5 x6
  rcases hn with ⟨hu, rfl⟩ | ⟨hu, p, rfl, hf⟩
  · have HU := hid hu
    clear hu
    go_wp2_with fail
    refine RN.out.mono ?_
    rintro e w4 ⟨hn, hb4⟩
    rcases hn with ⟨hu, rfl⟩ | ⟨hu, p, rfl⟩
    · clear hu
      have HB4 := hid (Below.on HB3.out hb4)
      obtain ⟨y0, y1, y2, y3, y4, y5⟩ := HY3.out.later hb4
      have LF := hid (left_is (HOK.out.later HB4.out) HCL.out (HG3.out.later hb4))
      clear x0 x1 x2 x3 x4 x5 x6
      obtain ⟨x0, x1, x2, x3, x4, x5, x6⟩ := HX3.out.later hb4
      simp only at x0 x1 x2 x3 x4 x5 x6 y0 y1 y2 y3 y4 y5
      clear hb4
      go_wp2_with fail
      refine LF.out.mono ?_
      rintro e w5 ⟨rfl, hb5⟩
      have HB5 := hid (Below.on HB4.out hb5)
      clear hb5
      go_wp2_with fail
      refine (one_is (HT.out.later HB5.out)).mono ?_
      rintro e w6 ⟨⟨p, rfl⟩, hb6⟩
      have HB6 := hid (Below.on HB5.out hb6)
      clear hb6
      go_wp2_with fail
      go_ret
      exact ⟨rfl, HB6.out⟩
    · rw [HU.out] at hu; cases hu
  · have HU := hid hu
    have HF := hid hf
    clear hu hf
    go_wp2_with fail
    refine RN.out.mono ?_
    rintro e w4 ⟨hn, hb4⟩
    rcases hn with ⟨hu, rfl⟩ | ⟨hu, p', rfl⟩
    · rw [HU.out] at hu; cases hu
    · clear hu
      have HB4 := hid (Below.on HB3.out hb4)
      obtain ⟨y0, y1, y2, y3, y4, y5⟩ := HY3.out.later hb4
      have LF := hid (left_is (HOK.out.later HB4.out) HCL.out (HG3.out.later hb4))
      have HF4 := hid (HF.out.later hb4)
      clear x0 x1 x2 x3 x4 x5 x6
      obtain ⟨x0, x1, x2, x3, x4, x5, x6⟩ := HX3.out.later hb4
      simp only at x0 x1 x2 x3 x4 x5 x6 y0 y1 y2 y3 y4 y5
      clear hb4
      go_wp2_with fail
      refine LF.out.mono ?_
      rintro e w5 ⟨rfl, hb5⟩
      have HB5 := hid (Below.on HB4.out hb5)
      have HF5 := hid (HF4.out.later hb5)
      clear hb5
      go_wp2_with fail
      refine (one_is (HT.out.later HB5.out)).mono ?_
      rintro e w6 ⟨⟨p1, rfl⟩, hb6⟩
      have HB6 := hid (Below.on HB5.out hb6)
      have HF6 := hid (HF5.out.later hb6)
      clear hb6
      go_wp2_with fail
      refine (wait_is HF6.out).mono ?_
      rintro e w7 ⟨rfl, hb7⟩
      have HB7 := hid (Below.on HB6.out hb7)
      have HF7 := hid (HF6.out.later hb7)
      clear hb7
      have HB8 : Hid (Below w.heap.size w (w7.alloc (.cells #[.int .i64 0, .bool false, .bool false, .bool false, .string ⟨#[]⟩, .string ⟨#[]⟩, .string ⟨#[]⟩, .string ⟨#[]⟩, .int .i64 0] 37))) := hid (Below.al HB7.out _)
      have HF8 : Hid (Fresh (w7.alloc (.cells #[.int .i64 0, .bool false, .bool false, .bool false, .string ⟨#[]⟩, .string ⟨#[]⟩, .string ⟨#[]⟩, .string ⟨#[]⟩, .int .i64 0] 37)) p) := hid (HF7.out.later (Below.al (Below.refl _ _) _))
      go_upto_region 12 with fail
      generalize w7.alloc (.cells #[.int .i64 0, .bool false, .bool false, .bool false, .string ⟨#[]⟩, .string ⟨#[]⟩, .string ⟨#[]⟩, .string ⟨#[]⟩, .int .i64 0] 37) = w8 at HB8 HF8 ⊢
      clear HF7 HB7 HF6 HB6 HF5 HB5 HF4 HB4
      go_wp2_with fail
      refine (open_is HF8.out).mono ?_
      rintro e w9 ⟨rfl, hb9⟩
      have HBA : Hid (Below w.heap.size w ((w9.alloc (.cells #[.int .u32 0, .int .u32 0] 41)).alloc (.cells #[.int .u64 0, .int .u32 0, .int .u32 0] 43))) := hid (Below.al (Below.al (Below.on HB8.out hb9) _) _)
      have HFA : Hid (Fresh ((w9.alloc (.cells #[.int .u32 0, .int .u32 0] 41)).alloc (.cells #[.int .u64 0, .int .u32 0, .int .u32 0] 43)) p) := hid ((HF8.out.later hb9).later (Below.al (Below.al (Below.refl _ _) _) _))
      clear hb9
      go_upto_region 13 with fail
      generalize (w9.alloc (.cells #[.int .u32 0, .int .u32 0] 41)).alloc (.cells #[.int .u64 0, .int .u32 0, .int .u32 0] 43) = wA at HBA HFA ⊢
      go_wp2_with fail
      refine (token_is HFA.out).mono ?_
      rintro e wB ⟨rfl, hbB⟩
      have HBB := hid (Below.on HBA.out hbB)
      have HFB := hid (HFA.out.later hbB)
      clear hbB
      go_wp2_with fail
      refine (tick_is HFB.out).mono ?_
      rintro e wC ⟨rfl, hbC⟩
      have HBC := hid (Below.on HBB.out hbC)
      clear hbC
      go_wp2_with fail
      go_ret
      exact ⟨rfl, HBC.out⟩
end Go.Proofs.YtkdklphpcbhfkaaDoor.Rt
