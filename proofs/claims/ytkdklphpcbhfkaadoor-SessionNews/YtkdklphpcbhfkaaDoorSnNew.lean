import Derived.Test.YtkdklphpcbhfkaaDoorSnIter
import Derived.Deep.RegionHeld3
/- A session, made. -/
namespace Go.Proofs.YtkdklphpcbhfkaaDoor.Rt
open Go.RowKit Go.Sort
set_option linter.unusedVariables false

/-- a session that has done nothing yet -/
structure Fresh (w : World) (p : Nat) : Prop where
  op : w.cell? ⟨p, 16, none⟩ = some (.pointer none)
  k : w.cell? ⟨p, 17, none⟩ = some (.int .i64 0)
  r : w.cell? ⟨p, 18, none⟩ = some (.bool false)
  a : w.cell? ⟨p, 19, none⟩ = some (.bool false)
  b : w.cell? ⟨p, 20, none⟩ = some (.bool false)
  t : w.cell? ⟨p, 21, none⟩ = some (.string ⟨#[]⟩)
  y : w.cell? ⟨p, 22, none⟩ = some (.string ⟨#[]⟩)
  h : w.cell? ⟨p, 23, none⟩ = some (.string ⟨#[]⟩)
  v : w.cell? ⟨p, 24, none⟩ = some (.string ⟨#[]⟩)
  l : w.cell? ⟨p, 25, none⟩ = some (.int .i64 0)
  aw : w.cell? ⟨p, 26, none⟩ = some (.int .i64 0)
  m : w.cell? ⟨p, 27, none⟩ = some (.map none)
  tk : w.cell? ⟨p, 30, none⟩ = some (.string ⟨#[]⟩)
theorem Fresh.later {w w' : World} {p : Nat} (h : Fresh w p) (hb : Below w.heap.size w w') : Fresh w' p := ⟨cell_later hb h.op, cell_later hb h.k, cell_later hb h.r, cell_later hb h.a, cell_later hb h.b, cell_later hb h.t, cell_later hb h.y, cell_later hb h.h, cell_later hb h.v, cell_later hb h.l, cell_later hb h.aw, cell_later hb h.m, cell_later hb h.tk⟩
abbrev sesC (nd : Int) (c : Cf) (v : Value) (wi : Int) : Array Value := #[.int .u32 nd, .int .i64 c.sh, .int .i64 c.cl, v, .int .i64 c.ca, .int .i64 c.pk, .int .u64 c.wi, .int .u64 wi, .int .u64 0, .int .u32 nd, .int .u64 0, .int .u64 0, .int .u32 0, .int .u32 0, .int .u32 0, .int .u32 0, .pointer none, .int .i64 0, .bool false, .bool false, .bool false, .string ⟨#[]⟩, .string ⟨#[]⟩, .string ⟨#[]⟩, .string ⟨#[]⟩, .int .i64 0, .int .i64 0, .map none, .map none, .map none, .string ⟨#[]⟩]
theorem Fresh.new (w : World) (nd : Int) (c : Cf) (v : Value) (wi : Int) (t : TypeId) : Fresh (w.alloc (.cells (sesC nd c v wi) t)) w.heap.size := by
  constructor <;> simp [go_sem]
/-- is it a client's node? -/
def Cf.cli (c : Cf) (nd : Int) : Bool := c.okB && decide (c.sh ≤ nd) && decide (nd < c.sh + c.cl)
/-- what New answers -/
def NewP (u : Bool) (e : Ending) (w : World) : Prop := (u = false ∧ e = .returned (.pointer none)) ∨ (u = true ∧ ∃ p, e = .returned (.pointer (some ⟨p, 0, none⟩)) ∧ Fresh w p)

theorem reopen_is (nd wi ce : Int) (w : World) : Calls Tryd.prog 23 #[.int .u32 nd, .int .u64 wi, .int .u64 ce] w fun e w' => e = .returned (.pointer (some ⟨w.heap.size, 0, none⟩)) ∧ w' = w.alloc (.cells #[.int .u64 wi, .int .u64 ce, .int .u32 nd, .int .u64 0, .int .u64 ce, .int .u32 0, .int .u32 0] 57) := by
  go_enter Tryd.func23, Tryd.ntmps23
  go_wp2_with fail
  go_ret
  exact ⟨rfl, rfl⟩
theorem clock_is (nd wi : Int) (w : World) : Calls Tryd.prog 14 #[.int .u32 nd, .int .u64 wi] w fun e w' => e = .returned (.pointer (some ⟨w.heap.size, 0, none⟩)) ∧ w' = w.alloc (.cells #[.int .u64 wi, .int .u64 0, .int .u32 nd, .int .u64 0, .int .u64 0, .int .u32 0, .int .u32 0] 57) := by
  go_enter Tryd.func14, Tryd.ntmps14
  go_wp2_with fail
  refine (reopen_is _ _ _ _).mono ?_
  rintro e w1 ⟨rfl, rfl⟩
  go_wp2_with fail
  go_ret
  exact ⟨rfl, rfl⟩
theorem clockC_is (nd wi : Int) (w : World) : Calls Tryd.prog 14 #[.int .u32 nd, .int .u64 wi] w fun e w' => ∃ q, e = .returned (.pointer (some ⟨q, 0, none⟩)) ∧ w'.cell? ⟨q, 0, none⟩ = some (.int .u64 wi) ∧ w'.cell? ⟨q, 1, none⟩ = some (.int .u64 0) ∧ w'.cell? ⟨q, 2, none⟩ = some (.int .u32 nd) ∧ w'.cell? ⟨q, 3, none⟩ = some (.int .u64 0) ∧ w'.cell? ⟨q, 4, none⟩ = some (.int .u64 0) ∧ w'.cell? ⟨q, 5, none⟩ = some (.int .u32 0) ∧ w'.cell? ⟨q, 6, none⟩ = some (.int .u32 0) ∧ Below w.heap.size w w' := by
  refine (clock_is nd wi w).mono ?_
  rintro e w' ⟨rfl, rfl⟩
  exact ⟨_, rfl, by simp [go_sem], by simp [go_sem], by simp [go_sem], by simp [go_sem], by simp [go_sem], by simp [go_sem], by simp [go_sem], Below.al (Below.refl _ _) _⟩
/-- slices.Clone at texts -/
theorem cloneT_is {w : World} {a : Option Addr} {cp : Nat} {ss : List ByteArray} (h : RowS w a ss) (hl : ss.length ≤ 5) : Calls Tryd.prog 13 #[.slice a ss.length cp] w fun e w' => ∃ x n y, e = .returned (.slice x n y) ∧ Below w.heap.size w w' := by
  cases a with
  | none =>
    refine (Tryd.slices_Clone_string_nil _ _ w).mono ?_
    rintro e w' ⟨rfl, rfl⟩
    exact ⟨_, _, _, rfl, Below.refl _ _⟩
  | some ad =>
    by_cases h0 : ss.length = 0
    · rw [h0]
      refine (Tryd.slices_Clone_string_zero ad _ w).mono ?_
      rintro e w' ⟨v, rfl, ho, _, hb⟩
      rcases ho.2 with ⟨rfl, _⟩ | ⟨g, cap, cur, rfl, _⟩
      · exact ⟨_, _, _, rfl, hb⟩
      · exact ⟨_, _, _, rfl, hb⟩
    · obtain ⟨b, off, e, _⟩ := h 0 (by omega)
      injection e with e
      subst e
      refine (Tryd.slices_Clone_string b off ss.length cp ss w (Nat.le_refl _) (by omega) (fun j hj => ?_)).mono ?_
      · obtain ⟨b', off', e', c0⟩ := h j hj
        injection e' with e'; injection e' with e1 e2
        subst e1 e2
        rw [c0]
        simp [nthS, List.getD, hj]
      rintro e w' ⟨v, rfl, ho, _, hb⟩
      rcases ho.2 with ⟨rfl, _⟩ | ⟨g, cap, cur, rfl, _⟩
      · exact ⟨_, _, _, rfl, hb⟩
      · exact ⟨_, _, _, rfl, hb⟩

set_option maxRecDepth 100000 in
set_option maxHeartbeats 8000000 in
theorem New_is {c : Cf} {w : World} {nd : Int} (h : c.Ok w) (hw : 0 ≤ c.wi ∧ c.wi ≤ 18446744073709551615) (hnd : 0 ≤ nd ∧ nd ≤ 4294967295) (ht : PowTab w) :
    Calls Tryd.prog 5 #[.int .u32 nd, c.val] w fun e w' => NewP (c.cli nd) e w' ∧ Below w.heap.size w w' := by
  have H := hid h
  have HT := hid ht
  have HB : Hid (BoxC (w.alloc (.cells #[.int .i64 c.sh, .int .i64 c.cl, .slice c.a c.ss.length c.cp, .int .i64 c.ca, .int .i64 c.pk, .int .u64 c.wi] 26)) w.heap.size c) := hid (BoxC.new w c _)
  have HF0 : Hid (∀ o, (w.alloc (.cells #[.int .i64 c.sh, .int .i64 c.cl, .slice c.a c.ss.length c.cp, .int .i64 c.ca, .int .i64 c.pk, .int .u64 c.wi] 26)).frozen? ⟨w.heap.size, o, none⟩ = false) := hid fun o => by simp [go_sem]
  have hb0 : Below w.heap.size w (w.alloc (.cells #[.int .i64 c.sh, .int .i64 c.cl, .slice c.a c.ss.length c.cp, .int .i64 c.ca, .int .i64 c.pk, .int .u64 c.wi] 26)) := Below.al (Below.refl _ _) _
  have TX := hid (Text_is (H.out.later hb0) hw (HT.out.later hb0))
  have hlt0 : w.heap.size < (w.alloc (.cells #[.int .i64 c.sh, .int .i64 c.cl, .slice c.a c.ss.length c.cp, .int .i64 c.ca, .int .i64 c.pk, .int .u64 c.wi] 26)).heap.size := by simp
  have HLT := hid hlt0
  have HB0 := hid hb0
  have HW := hid hw
  clear h ht hb0 hlt0 hw
  go_enter Tryd.func5, Tryd.ntmps5
  go_wp2_with fail
  refine TX.out.mono ?_
  rintro e w1 ⟨rfl, hb1⟩
  have HC := hid (HB.out.later hb1)
  have HF : Hid (∀ o, w1.frozen? ⟨w.heap.size, o, none⟩ = false) := hid fun o => (hb1.frozen (p := ⟨w.heap.size, o, none⟩) HLT.out).trans (HF0.out o)
  have HLT1 : Hid (w.heap.size < w1.heap.size) := hid (Nat.lt_of_lt_of_le HLT.out hb1.size)
  have HB1 := hid (Below.on HB0.out hb1)
  clear hb1 HB HF0 HLT HB0 TX
  cases ho : c.okB
  · rw [said_no ho]
    have HU : Hid (c.cli nd = false) := hid (by simp [Cf.cli, ho])
    go_wp2_with fail
    go_ret
    exact ⟨.inl ⟨HU.out, rfl⟩, HB1.out⟩
  · rw [said_ok ho]
    obtain ⟨n0, n1, n2, n3⟩ := ok_nums ho
    obtain ⟨l5, ls, lr⟩ := ok_len ho
    have HRW := hid H.out.row
    have HU : Hid (c.cli nd = (decide (c.sh ≤ nd) && decide (nd < c.sh + c.cl))) := hid (by simp [Cf.cli, ho])
    obtain ⟨c0, c1, c2, c3, c4, c5⟩ := HC.out
    have HL5 := hid l5
    clear ho ls lr l5 HT
    have e1 : IntKind.u32.wrap c.sh = c.sh := by rw [IntKind.wrap_u32]; omega
    have e2 : IntKind.u32.wrap c.cl = c.cl := by rw [IntKind.wrap_u32]; omega
    have e3 : IntKind.u32.wrap (c.sh + c.cl) = c.sh + c.cl := by rw [IntKind.wrap_u32]; omega
    go_wp2_with fail
    go_region
    by_cases hs : nd < c.sh
    · have HV : Hid (c.cli nd = false) := hid (by rw [HU.out]; simp; omega)
      have hs' : decide (nd < c.sh) = true := by simpa using hs
      go_wp2_with fail
      go_ret
      exact ⟨.inl ⟨HV.out, rfl⟩, Below.drew HB1.out⟩
    · have hs' : decide (nd < c.sh) = false := by simpa using hs
      by_cases hc : c.sh + c.cl ≤ nd
      · have HV : Hid (c.cli nd = false) := hid (by rw [HU.out]; simp; omega)
        have hc' : decide (c.sh + c.cl ≤ nd) = true := by simpa using hc
        go_wp2_with fail
        go_ret
        exact ⟨.inl ⟨HV.out, rfl⟩, Below.drew HB1.out⟩
      · have HV : Hid (c.cli nd = true) := hid (by rw [HU.out]; simp; omega)
        have hc' : decide (c.sh + c.cl ≤ nd) = false := by simpa using hc
        go_wp2_with fail
        refine (cloneT_is (HRW.out.later (Below.drew HB1.out)) HL5.out).mono ?_
        rintro e w2 ⟨x, n, y, rfl, hb2⟩
        have hb2 : Below w1.heap.size w1 w2 := Below.on (Below.drew (Below.refl _ _)) hb2
        have d0 := cell_later hb2 c0
        have d1 := cell_later hb2 c1
        have d2 := cell_later hb2 c2
        have d3 := cell_later hb2 c3
        have d4 := cell_later hb2 c4
        have d5 := cell_later hb2 c5
        have f2 := (hb2.frozen (p := ⟨w.heap.size, 2, none⟩) HLT1.out).trans (HF.out 2)
        have HB2 : Hid (Below w.heap.size w w2) := hid (Below.on HB1.out hb2)
        clear c0 c1 c2 c3 c4 c5 hb2 HC
        have HB3 : Hid (Below w.heap.size w (w2.setCell ⟨w.heap.size, 2, none⟩ (.slice x n y))) := hid (Below.setCell HB2.out (Nat.le_refl _) _)
        have g0 : (w2.setCell ⟨w.heap.size, 2, none⟩ (.slice x n y)).cell? ⟨w.heap.size, 0, none⟩ = some (.int .i64 c.sh) := cell_setc (by simp) d0
        have g1 : (w2.setCell ⟨w.heap.size, 2, none⟩ (.slice x n y)).cell? ⟨w.heap.size, 1, none⟩ = some (.int .i64 c.cl) := cell_setc (by simp) d1
        have g2 : (w2.setCell ⟨w.heap.size, 2, none⟩ (.slice x n y)).cell? ⟨w.heap.size, 2, none⟩ = some (.slice x n y) := World.cell?_setCell_same _ _ _ d2
        have g3 : (w2.setCell ⟨w.heap.size, 2, none⟩ (.slice x n y)).cell? ⟨w.heap.size, 3, none⟩ = some (.int .i64 c.ca) := cell_setc (by simp) d3
        have g4 : (w2.setCell ⟨w.heap.size, 2, none⟩ (.slice x n y)).cell? ⟨w.heap.size, 4, none⟩ = some (.int .i64 c.pk) := cell_setc (by simp) d4
        have g5 : (w2.setCell ⟨w.heap.size, 2, none⟩ (.slice x n y)).cell? ⟨w.heap.size, 5, none⟩ = some (.int .u64 c.wi) := cell_setc (by simp) d5
        go_wp2_with fail
        generalize w2.setCell ⟨w.heap.size, 2, none⟩ (.slice x n y) = w3 at *
        clear d0 d1 d2 d3 d4 d5 f2 hb2
        go_region_with ((go_at_call 14; refine (clockC_is _ _ _).mono ?_; rintro e w4 ⟨q, rfl, q0, q1, q2, q3, q4, q5, q6, hb4⟩; have hB4 : Below w3.heap.size w3 w4 := (by refine Below.on ?_ hb4; (repeat (first | with_reducible exact Below.refl _ _ | with_reducible assumption | with_reducible refine Below.drew ?_ | with_reducible refine Below.al ?_ _ | with_reducible refine Below.setCell ?_ (by first | exact Nat.le_refl _ | (simp; omega) | (simp; done)) _ | with_reducible refine Below.on ?_ (by assumption)))); have j0 := cell_later hB4 g0; have j1 := cell_later hB4 g1; have j2 := cell_later hB4 g2; have j3 := cell_later hB4 g3; have j4 := cell_later hB4 g4; have j5 := cell_later hB4 g5))
        all_goals (try go_wp2_with fail)
        all_goals go_ret
        all_goals refine ⟨.inr ⟨HV.out, _, rfl, ?_⟩, ?_⟩
        all_goals first | exact Fresh.new _ nd c _ _ _ | exact Below.al (Below.on HB3.out hB4) _
end Go.Proofs.YtkdklphpcbhfkaaDoor.Rt
