import Derived.Test.YtmloaddbmkonoabKPair
namespace Go.Proofs.Ytmloaddbmkonoab
open Go.RowKit Go.Sort
set_option linter.unusedVariables false

theorem zu64 : U64 0 := ⟨by decide, by decide⟩
theorem zu32 : U32 0 := ⟨by decide, by decide⟩

/-- what made leaves -/
def MadePost (A off B : Nat) (w w' : World) : Prop :=
  Onl (fun k => k = A) w w' ∧ Loose w' A ∧ (∀ o, o ≠ off → o ≠ off + 1 → ∀ v, w.cell? ⟨A, o, none⟩ = some v → w'.cell? ⟨A, o, none⟩ = some v) ∧
    ∃ q : Pr, w'.cell? ⟨A, off, none⟩ = some (.pointer (some ⟨q.p, 0, none⟩)) ∧ w'.cell? ⟨A, off + 1, none⟩ = some (.pointer (some ⟨q.x.d, 0, none⟩)) ∧ PairOk w' B 1 q ∧ ∀ k, q.has k → w.heap.size ≤ k

theorem agr_start {wi c no : Int} {x : Rd} (hc : Ck.ok ⟨wi, c, no, 0, ⟨c, 0, 0⟩⟩) (e1 : x.node = no) (e2 : x.win = wi) (e3 : x.rs = [0]) (e4 : x.ss = [⟨c, 0, 0⟩]) (e5 : x.ls = [c]) : Agr 1 ⟨wi, c, no, 0, ⟨c, 0, 0⟩⟩ x := by
  have h0 : 0 ≤ c := hc.ceil.1
  refine ⟨hc, e1, e2, ⟨0, by rw [e3]; rfl, by rw [e3]; rfl⟩, ?_, ?_, by rw [e3]; simp, by rw [e4]; simp, by rw [e5]; simp⟩
  · rw [e4]
    show (if zst.less ⟨c, 0, 0⟩ then ⟨c, 0, 0⟩ else zst) = _
    cases hl : zst.less ⟨c, 0, 0⟩ with
    | true => rfl
    | false =>
      have hl' := lessB_iff_false.1 hl
      simp only [zst] at hl'
      obtain rfl : c = 0 := by omega
      rfl
  · rw [e5]
    show (if 0 < c then c else 0) = c
    split <;> omega

set_option maxHeartbeats 4000000 in
theorem made_new (A off B : Nat) (v0 v1 : Value) (pl no wi nu s0 s1 s2 : Int) (w : World) (HCA : Hid (w.cell? ⟨A, off, none⟩ = some v0)) (HCD : Hid (w.cell? ⟨A, off + 1, none⟩ = some v1)) (HLA : Hid (Loose w A)) (hB : B ≤ w.heap.size) (HNO : Hid (U32 no)) (HWI : Hid (U64 wi)) (HNU : Hid (U64 nu)) :
    Calls Try.prog 5 #[.pointer (some ⟨A, off, none⟩), .agg #[.int .i64 1, .int .i64 pl, .int .u32 no, .int .u64 wi, .int .u64 nu, .int .u64 s0, .int .u32 s1, .int .u32 s2]] w fun e w' => e = .returned (.bool true) ∧ MadePost A off B w w' := by
  have hAl : A < w.heap.size := World.block_lt_of_cell? _ _ HCA.out
  have HC : Hid (Ck.ok ⟨wi, 0, no, 0, ⟨0, 0, 0⟩⟩) := ⟨HWI.out, zu64, HNO.out, zu64, ⟨zu64, zu32, zu32⟩⟩
  go_enter Try.func5, Try.ntmps5
  go_wp2_with (first
    | (go_at_call 7; refine (new_at (q := w.heap.size + 1) (by simp)).mono ?_; rintro e w1 ⟨rfl, hb1, hc1⟩; have BX := hid ((box_at w [.int .i64 1, .int .i64 pl, .int .u32 no, .int .u64 wi, .int .u64 nu, .int .u64 s0, .int .u32 s1, .int .u32 s2] 35).later hb1); have Hb1 := hid (Below.on (al_below w _) hb1); have HC1 := hid hc1; have ca := cell_later Hb1.out HCA.out; have cd := cell_later Hb1.out HCD.out; have fa : ∀ o, w1.frozen? ⟨A, o, none⟩ = false := HLA.out.later Hb1.out hAl; have x2 := BX.out 2 _ rfl; have x3 := BX.out 3 _ rfl; have x4 := BX.out 4 _ rfl; have hne : w.heap.size ≠ A := (by omega); have hp1 := hc1.lt; clear hb1 hc1)
    | (go_at_call 8; refine (rnew_any B no wi _ (by have := Hb1.out.size; simp [World.setCell]; omega)).mono ?_; rintro e w2 ⟨x, rfl, hb2, hr2, hx, hxn, hxw, hxr, hxs, hxl⟩; have Hb2 := hid hb2; have HR2 := hid hr2; have HX := hid hx; have HX2 : Hid (x.node = no ∧ x.win = wi ∧ x.rs = [0] ∧ x.ss = [⟨0, 0, 0⟩] ∧ x.ls = [0]) := hid ⟨hxn, hxw, hxr, hxs, hxl⟩; have ca2 := cell_later hb2 (World.cell?_setCell_same w1 ⟨A, off, none⟩ (.pointer (some ⟨w.heap.size + 1, 0, none⟩)) ca); have cd2 := cell_later hb2 (cell_set (v := .pointer (some ⟨w.heap.size + 1, 0, none⟩)) (a := ⟨A, off, none⟩) (by simp) cd); have fa2 : ∀ o, w2.frozen? ⟨A, o, none⟩ = false := Loose.later (Loose.set fa ⟨A, off, none⟩ (.pointer (some ⟨w.heap.size + 1, 0, none⟩))) hb2 (World.block_lt_of_cell? _ _ (World.cell?_setCell_same w1 ⟨A, off, none⟩ (.pointer (some ⟨w.heap.size + 1, 0, none⟩)) ca)); clear hb2 hr2 hx hxn hxw hxr hxs hxl))
  go_ret
  refine ⟨rfl, ?_⟩
  obtain ⟨e1, e2, e3, e4, e5⟩ := HX2.out
  have hw1s := Hb1.out.size
  have sz : (w1.setCell ⟨A, off, none⟩ (.pointer (some ⟨w.heap.size + 1, 0, none⟩))).heap.size = w1.heap.size := by simp [World.setCell]
  have o1 : Only A w1 (w1.setCell ⟨A, off, none⟩ (.pointer (some ⟨w.heap.size + 1, 0, none⟩))) := (Only.refl _ _).set _ _
  have o2 : Only A w2 (w2.setCell ⟨A, off + 1, none⟩ (.pointer (some ⟨x.d, 0, none⟩))) := (Only.refl _ _).set _ _
  have hpA : w.heap.size + 1 ≠ A := by omega
  have hxA : ∀ k, x.has k → w1.heap.size ≤ k := fun k hk => by have := HX.out k hk; rw [sz] at this; exact this
  have k2 := ((HC1.out.only o1 hpA).later Hb2.out).only o2 hpA
  have r2 := HR2.out.keep (F := fun k => k = A) (Onl.of_only o2 rfl) (fun k hk e => by have := hxA k hk; omega)
  have hpl := HC1.out.lt
  refine ⟨(((Onl.of_below Hb1.out).trans (Onl.of_only (F := fun k => k = A) o1 rfl)).on Hb2.out).trans (Onl.of_only o2 rfl), Loose.set fa2 _ _, fun o h1 h2 v hv => ?_, ⟨w.heap.size + 1, ⟨wi, 0, no, 0, ⟨0, 0, 0⟩⟩, x⟩, ?_, ?_, ⟨k2, r2, fun h => by have := hxA _ h; dsimp only at this; omega, by dsimp only; omega, agr_start HC.out e1 e2 e3 e4 e5⟩, ?_⟩
  · have hv1 := cell_later Hb1.out hv
    have hv2 := cell_later Hb2.out (cell_set (v := .pointer (some ⟨w.heap.size + 1, 0, none⟩)) (a := ⟨A, off, none⟩) (by simp) hv1)
    exact cell_set (by simp) hv2
  · exact cell_set (by simp) ca2
  · exact World.cell?_setCell_same _ _ _ cd2
  · rintro k (h | h)
    · dsimp only at h; omega
    · have := hxA k h; omega

set_option maxHeartbeats 4000000 in
theorem made_reopen (A off B : Nat) (v0 v1 : Value) (pl no wi nu s0 s1 s2 : Int) (w : World) (HCA : Hid (w.cell? ⟨A, off, none⟩ = some v0)) (HCD : Hid (w.cell? ⟨A, off + 1, none⟩ = some v1)) (HLA : Hid (Loose w A)) (hB : B ≤ w.heap.size) (HNO : Hid (U32 no)) (HWI : Hid (U64 wi)) (HNU : Hid (U64 nu)) :
    Calls Try.prog 5 #[.pointer (some ⟨A, off, none⟩), .agg #[.int .i64 2, .int .i64 pl, .int .u32 no, .int .u64 wi, .int .u64 nu, .int .u64 s0, .int .u32 s1, .int .u32 s2]] w fun e w' => e = .returned (.bool true) ∧ MadePost A off B w w' := by
  have hAl : A < w.heap.size := World.block_lt_of_cell? _ _ HCA.out
  have HC : Hid (Ck.ok ⟨wi, nu, no, 0, ⟨nu, 0, 0⟩⟩) := ⟨HWI.out, HNU.out, HNO.out, zu64, ⟨HNU.out, zu32, zu32⟩⟩
  go_enter Try.func5, Try.ntmps5
  go_wp2_with (first
    | (go_at_call 9; refine (reopen_at (q := w.heap.size + 1) (by simp)).mono ?_; rintro e w1 ⟨rfl, hb1, hc1⟩; have BX := hid ((box_at w [.int .i64 2, .int .i64 pl, .int .u32 no, .int .u64 wi, .int .u64 nu, .int .u64 s0, .int .u32 s1, .int .u32 s2] 35).later hb1); have Hb1 := hid (Below.on (al_below w _) hb1); have HC1 := hid hc1; have ca := cell_later Hb1.out HCA.out; have cd := cell_later Hb1.out HCD.out; have fa : ∀ o, w1.frozen? ⟨A, o, none⟩ = false := HLA.out.later Hb1.out hAl; have x2 := BX.out 2 _ rfl; have x3 := BX.out 3 _ rfl; have x4 := BX.out 4 _ rfl; have hne : w.heap.size ≠ A := (by omega); have hp1 := hc1.lt; clear hb1 hc1)
    | (go_at_call 10; refine (rreopen_any B no wi nu _ (by have := Hb1.out.size; simp [World.setCell]; omega)).mono ?_; rintro e w2 ⟨x, rfl, hb2, hr2, hx, hxn, hxw, hxr, hxs, hxl⟩; have Hb2 := hid hb2; have HR2 := hid hr2; have HX := hid hx; have HX2 : Hid (x.node = no ∧ x.win = wi ∧ x.rs = [0] ∧ x.ss = [⟨nu, 0, 0⟩] ∧ x.ls = [nu]) := hid ⟨hxn, hxw, hxr, hxs, hxl⟩; have ca2 := cell_later hb2 (World.cell?_setCell_same w1 ⟨A, off, none⟩ (.pointer (some ⟨w.heap.size + 1, 0, none⟩)) ca); have cd2 := cell_later hb2 (cell_set (v := .pointer (some ⟨w.heap.size + 1, 0, none⟩)) (a := ⟨A, off, none⟩) (by simp) cd); have fa2 : ∀ o, w2.frozen? ⟨A, o, none⟩ = false := Loose.later (Loose.set fa ⟨A, off, none⟩ (.pointer (some ⟨w.heap.size + 1, 0, none⟩))) hb2 (World.block_lt_of_cell? _ _ (World.cell?_setCell_same w1 ⟨A, off, none⟩ (.pointer (some ⟨w.heap.size + 1, 0, none⟩)) ca)); clear hb2 hr2 hx hxn hxw hxr hxs hxl))
  go_ret
  refine ⟨rfl, ?_⟩
  obtain ⟨e1, e2, e3, e4, e5⟩ := HX2.out
  have hw1s := Hb1.out.size
  have sz : (w1.setCell ⟨A, off, none⟩ (.pointer (some ⟨w.heap.size + 1, 0, none⟩))).heap.size = w1.heap.size := by simp [World.setCell]
  have o1 : Only A w1 (w1.setCell ⟨A, off, none⟩ (.pointer (some ⟨w.heap.size + 1, 0, none⟩))) := (Only.refl _ _).set _ _
  have o2 : Only A w2 (w2.setCell ⟨A, off + 1, none⟩ (.pointer (some ⟨x.d, 0, none⟩))) := (Only.refl _ _).set _ _
  have hpA : w.heap.size + 1 ≠ A := by omega
  have hxA : ∀ k, x.has k → w1.heap.size ≤ k := fun k hk => by have := HX.out k hk; rw [sz] at this; exact this
  have k2 := ((HC1.out.only o1 hpA).later Hb2.out).only o2 hpA
  have r2 := HR2.out.keep (F := fun k => k = A) (Onl.of_only o2 rfl) (fun k hk e => by have := hxA k hk; omega)
  have hpl := HC1.out.lt
  refine ⟨(((Onl.of_below Hb1.out).trans (Onl.of_only (F := fun k => k = A) o1 rfl)).on Hb2.out).trans (Onl.of_only o2 rfl), Loose.set fa2 _ _, fun o h1 h2 v hv => ?_, ⟨w.heap.size + 1, ⟨wi, nu, no, 0, ⟨nu, 0, 0⟩⟩, x⟩, ?_, ?_, ⟨k2, r2, fun h => by have := hxA _ h; dsimp only at this; omega, by dsimp only; omega, agr_start HC.out e1 e2 e3 e4 e5⟩, ?_⟩
  · have hv1 := cell_later Hb1.out hv
    have hv2 := cell_later Hb2.out (cell_set (v := .pointer (some ⟨w.heap.size + 1, 0, none⟩)) (a := ⟨A, off, none⟩) (by simp) hv1)
    exact cell_set (by simp) hv2
  · exact cell_set (by simp) ca2
  · exact World.cell?_setCell_same _ _ _ cd2
  · rintro k (h | h)
    · dsimp only at h; omega
    · have := hxA k h; omega

end Go.Proofs.Ytmloaddbmkonoab
