import Derived.Test.YtogjhpknlopajaaXFirst
/- The law's decided. -/
namespace Go.Proofs.Ytogjhpknlopajaa.Lg
open Go.RowKit Go.Sort Lk
set_option linter.unusedVariables false

/-- an entry lies in block q -/
def BoxE (w : World) (q : Nat) (f : En) : Prop := w.cell? ⟨q, 0, none⟩ = some (.int .u32 f.id.1) ∧ w.cell? ⟨q, 1, none⟩ = some (.int .u32 f.id.2) ∧ w.cell? ⟨q, 2, none⟩ = some (.int .u32 f.home) ∧ w.cell? ⟨q, 3, none⟩ = some (.int .i64 f.oc) ∧ w.cell? ⟨q, 4, none⟩ = some (.int .u64 f.w) ∧ w.cell? ⟨q, 5, none⟩ = some (.int .u32 f.l) ∧ w.cell? ⟨q, 6, none⟩ = some (.int .u32 f.n)
theorem BoxE.later {w w' : World} {q : Nat} {f : En} (h : BoxE w q f) (hb : Below w.heap.size w w') : BoxE w' q f :=
  ⟨cell_later hb h.1, cell_later hb h.2.1, cell_later hb h.2.2.1, cell_later hb h.2.2.2.1, cell_later hb h.2.2.2.2.1, cell_later hb h.2.2.2.2.2.1, cell_later hb h.2.2.2.2.2.2⟩
theorem box_chain {w : World} {q : Nat} {z f : En} (hz : w.heap[q]? = some (.cells #[.int .u32 z.id.1, .int .u32 z.id.2, .int .u32 z.home, .int .i64 z.oc, .int .u64 z.w, .int .u32 z.l, .int .u32 z.n] 33)) : BoxE ((((((((w).setCell ⟨q, 0, none⟩ (.int .u32 f.id.1)).setCell ⟨q, 1, none⟩ (.int .u32 f.id.2)).setCell ⟨q, 2, none⟩ (.int .u32 f.home)).setCell ⟨q, 3, none⟩ (.int .i64 f.oc)).setCell ⟨q, 4, none⟩ (.int .u64 f.w)).setCell ⟨q, 5, none⟩ (.int .u32 f.l)).setCell ⟨q, 6, none⟩ (.int .u32 f.n)) q f := by
  obtain ⟨h, _⟩ := stored (u := f) hz rfl
  exact ⟨cell_of_obj h rfl, cell_of_obj h rfl, cell_of_obj h rfl, cell_of_obj h rfl, cell_of_obj h rfl, cell_of_obj h rfl, cell_of_obj h rfl⟩
theorem box_chain0 {w : World} {q : Nat} (f : En) (hz : w.heap[q]? = some (.cells #[.int .u32 0, .int .u32 0, .int .u32 0, .int .i64 0, .int .u64 0, .int .u32 0, .int .u32 0] 33)) : BoxE ((((((((w).setCell ⟨q, 0, none⟩ (.int .u32 f.id.1)).setCell ⟨q, 1, none⟩ (.int .u32 f.id.2)).setCell ⟨q, 2, none⟩ (.int .u32 f.home)).setCell ⟨q, 3, none⟩ (.int .i64 f.oc)).setCell ⟨q, 4, none⟩ (.int .u64 f.w)).setCell ⟨q, 5, none⟩ (.int .u32 f.l)).setCell ⟨q, 6, none⟩ (.int .u32 f.n)) q f := box_chain (z := En.zero) hz
theorem box_new (w : World) (f : En) : BoxE (w.alloc (.cells #[.int .u32 f.id.1, .int .u32 f.id.2, .int .u32 f.home, .int .i64 f.oc, .int .u64 f.w, .int .u32 f.l, .int .u32 f.n] 33)) w.heap.size f := by
  have h := (MapKept.heap_alloc w (.cells #[.int .u32 f.id.1, .int .u32 f.id.2, .int .u32 f.home, .int .i64 f.oc, .int .u64 f.w, .int .u32 f.l, .int .u32 f.n] 33)).1
  exact ⟨cell_of_obj h rfl, cell_of_obj h rfl, cell_of_obj h rfl, cell_of_obj h rfl, cell_of_obj h rfl, cell_of_obj h rfl, cell_of_obj h rfl⟩
set_option maxHeartbeats 2000000 in
theorem decided_is {w : World} {a : Option Addr} {n c i : Nat} {xs : List En} {e : En} {x : Int} (hrow : RowC En.zero ecs 7 w a xs) (hn : xs.length = n) (hl : n ≤ 9223372036854775806) (hcap : n ≤ c) (hi : i < n)
    (hA : mayB (nthE xs i) = false → e = En.zero ∧ x = 1) (hB : mayB (nthE xs i) = true → fstL (xs.take (i + 1)) (nthE xs i).id = some e ∧ x = if agrB e (nthE xs i) then 0 else 110) :
    Calls Try.prog 11 #[.slice a n c, .int .i64 i, .agg #[.int .u32 e.id.1, .int .u32 e.id.2, .int .u32 e.home, .int .i64 e.oc, .int .u64 e.w, .int .u32 e.l, .int .u32 e.n], .int .i64 x] w fun r w' => r = .returned (.bool true) ∧ Hid (Below w.heap.size w w') := by
  obtain ⟨b, off, eb, hc⟩ := hrow i (by rw [hn]; exact hi)
  have hi1 : (i : Int) < (n : Int) := by omega
  obtain ⟨y, hye⟩ : ∃ y, y = nthE xs i := ⟨_, rfl⟩
  have hye' : (xs[i]?).getD En.zero = y := hye.symm
  rw [hye'] at hc
  rw [← hye] at hA hB
  subst eb
  have g0 : w.cell? ⟨b, off + i * 7, none⟩ = some (.int .u32 y.id.1) := hc 0 _ rfl
  have g1 : w.cell? ⟨b, off + i * 7 + 1, none⟩ = some (.int .u32 y.id.2) := hc 1 _ rfl
  have g2 : w.cell? ⟨b, off + i * 7 + 2, none⟩ = some (.int .u32 y.home) := hc 2 _ rfl
  have g3 : w.cell? ⟨b, off + i * 7 + 3, none⟩ = some (.int .i64 y.oc) := hc 3 _ rfl
  have g4 : w.cell? ⟨b, off + i * 7 + 4, none⟩ = some (.int .u64 y.w) := hc 4 _ rfl
  have g5 : w.cell? ⟨b, off + i * 7 + 5, none⟩ = some (.int .u32 y.l) := hc 5 _ rfl
  have g6 : w.cell? ⟨b, off + i * 7 + 6, none⟩ = some (.int .u32 y.n) := hc 6 _ rfl
  obtain ⟨u, hu⟩ : ∃ u, mayB y = u := ⟨_, rfl⟩
  have MAY := hid (fun W => refmay_is hu W)
  obtain ⟨wx, hwx⟩ : ∃ wx, wx = w.alloc (.cells #[.int .u32 e.id.1, .int .u32 e.id.2, .int .u32 e.home, .int .i64 e.oc, .int .u64 e.w, .int .u32 e.l, .int .u32 e.n] 33) := ⟨_, rfl⟩
  have hbx : Below w.heap.size w wx := by rw [hwx]; exact Below.al (Below.refl _ _) _
  have hbk : wx.heap[w.heap.size]? = some (.cells #[.int .u32 e.id.1, .int .u32 e.id.2, .int .u32 e.home, .int .i64 e.oc, .int .u64 e.w, .int .u32 e.l, .int .u32 e.n] 33) := by rw [hwx]; exact (MapKept.heap_alloc _ _).1
  have hsx : w.heap.size < wx.heap.size := by rw [hwx]; simp
  have HBK := hid hbk
  have HBX := hid hbx
  have HR := hid hrow
  have HLN := hid hn
  have hbl : b < w.heap.size := World.block_lt_of_cell? _ _ g0
  have gg0 : (w.alloc (.cells #[.int .u32 e.id.1, .int .u32 e.id.2, .int .u32 e.home, .int .i64 e.oc, .int .u64 e.w, .int .u32 e.l, .int .u32 e.n] 33)).cell? ⟨b, off + i * 7, none⟩ = some (.int .u32 y.id.1) := by rw [← hwx]; exact cell_later hbx g0
  have gg1 : (w.alloc (.cells #[.int .u32 e.id.1, .int .u32 e.id.2, .int .u32 e.home, .int .i64 e.oc, .int .u64 e.w, .int .u32 e.l, .int .u32 e.n] 33)).cell? ⟨b, off + i * 7 + 1, none⟩ = some (.int .u32 y.id.2) := by rw [← hwx]; exact cell_later hbx g1
  have gg2 : (w.alloc (.cells #[.int .u32 e.id.1, .int .u32 e.id.2, .int .u32 e.home, .int .i64 e.oc, .int .u64 e.w, .int .u32 e.l, .int .u32 e.n] 33)).cell? ⟨b, off + i * 7 + 2, none⟩ = some (.int .u32 y.home) := by rw [← hwx]; exact cell_later hbx g2
  have gg3 : (w.alloc (.cells #[.int .u32 e.id.1, .int .u32 e.id.2, .int .u32 e.home, .int .i64 e.oc, .int .u64 e.w, .int .u32 e.l, .int .u32 e.n] 33)).cell? ⟨b, off + i * 7 + 3, none⟩ = some (.int .i64 y.oc) := by rw [← hwx]; exact cell_later hbx g3
  have gg4 : (w.alloc (.cells #[.int .u32 e.id.1, .int .u32 e.id.2, .int .u32 e.home, .int .i64 e.oc, .int .u64 e.w, .int .u32 e.l, .int .u32 e.n] 33)).cell? ⟨b, off + i * 7 + 4, none⟩ = some (.int .u64 y.w) := by rw [← hwx]; exact cell_later hbx g4
  have gg5 : (w.alloc (.cells #[.int .u32 e.id.1, .int .u32 e.id.2, .int .u32 e.home, .int .i64 e.oc, .int .u64 e.w, .int .u32 e.l, .int .u32 e.n] 33)).cell? ⟨b, off + i * 7 + 5, none⟩ = some (.int .u32 y.l) := by rw [← hwx]; exact cell_later hbx g5
  have gg6 : (w.alloc (.cells #[.int .u32 e.id.1, .int .u32 e.id.2, .int .u32 e.home, .int .i64 e.oc, .int .u64 e.w, .int .u32 e.l, .int .u32 e.n] 33)).cell? ⟨b, off + i * 7 + 6, none⟩ = some (.int .u32 y.n) := by rw [← hwx]; exact cell_later hbx g6
  clear hc hye' hn hbk hrow
  cases u with
  | false =>
    obtain ⟨rfl, rfl⟩ := hA hu
    have qq : ∀ W, (binOp .eql 33 (.agg #[.int .u32 0, .int .u32 0, .int .u32 0, .int .i64 0, .int .u64 0, .int .u32 0, .int .u32 0]) (.agg #[.int .u32 0, .int .u32 0, .int .u32 0, .int .i64 0, .int .u64 0, .int .u32 0, .int .u32 0])).run Try.prog W = .ok (.bool true) W := fun W => by have := run_eqE En.zero En.zero W; rw [sameE_self] at this; exact this
    clear hA hB hu hye g0 g1 g2 g3 g4 g5 g6 hbx
    go_enter Try.func11, Try.ntmps11
    go_wp2_with (go_at_call 31; refine (MAY.out _).mono ?_; rintro r w1 ⟨rfl, hb1⟩; rw [← hwx] at hb1; have hk1 := (hb1.block _ hsx).trans HBK.out; have k0 : w1.cell? ⟨w.heap.size, 0, none⟩ = some (.int .u32 0) := cell_of_obj hk1 rfl; have k1 : w1.cell? ⟨w.heap.size, 1, none⟩ = some (.int .u32 0) := cell_of_obj hk1 rfl; have k2 : w1.cell? ⟨w.heap.size, 2, none⟩ = some (.int .u32 0) := cell_of_obj hk1 rfl; have k3 : w1.cell? ⟨w.heap.size, 3, none⟩ = some (.int .i64 0) := cell_of_obj hk1 rfl; have k4 : w1.cell? ⟨w.heap.size, 4, none⟩ = some (.int .u64 0) := cell_of_obj hk1 rfl; have k5 : w1.cell? ⟨w.heap.size, 5, none⟩ = some (.int .u32 0) := cell_of_obj hk1 rfl; have k6 : w1.cell? ⟨w.heap.size, 6, none⟩ = some (.int .u32 0) := cell_of_obj hk1 rfl; have HB1 : Hid (Below w.heap.size w w1) := Below.on HBX.out hb1; clear hb1 hk1)
    go_ret
    exact ⟨by simp, HB1⟩
  | true =>
    obtain ⟨hfs, hx⟩ := hB hu
    obtain ⟨z, hz⟩ : ∃ z, agrB e y = z := ⟨_, rfl⟩
    rw [hz] at hx
    have AGR := hid (fun W => refagree_is hz W)
    have qq : ∀ W, (binOp .eql 33 (.agg #[.int .u32 e.id.1, .int .u32 e.id.2, .int .u32 e.home, .int .i64 e.oc, .int .u64 e.w, .int .u32 e.l, .int .u32 e.n]) (.agg #[.int .u32 e.id.1, .int .u32 e.id.2, .int .u32 e.home, .int .i64 e.oc, .int .u64 e.w, .int .u32 e.l, .int .u32 e.n])).run Try.prog W = .ok (.bool true) W := fun W => by have := run_eqE e e W; rw [sameE_self] at this; exact this
    have HFS := hid hfs
    obtain ⟨j, hj⟩ : ∃ j, j = i + 1 := ⟨_, rfl⟩
    have HX := hid hx
    have FST : Hid (∀ W, Below w.heap.size w W → Calls Try.prog 13 #[.slice (some ⟨b, off, none⟩) j c, .agg #[.int .u32 y.id.1, .int .u32 y.id.2]] W fun r w' => r = .returned (.tuple #[.agg #[.int .u32 e.id.1, .int .u32 e.id.2, .int .u32 e.home, .int .i64 e.oc, .int .u64 e.w, .int .u32 e.l, .int .u32 e.n], .bool true]) ∧ Below W.heap.size W w') := fun W hb =>
      (first_is (n := j) (c := c) (RowC.later (RowC.take HR.out (i + 1)) hb) (by rw [List.length_take, HLN.out]; omega) (by omega) y.id).mono fun r w' ⟨f, ok, h1, h2, h3, h4⟩ => by
        rw [hfs] at h2 h3
        have h2' : ok = true := h2
        have h3' : f = e := h3
        subst h2' h3'
        exact ⟨h1, h4⟩
    clear hA hB hu hye g0 g1 g2 g3 g4 g5 g6 hbx hfs hz hx HR
    have hwr : IntKind.i64.wrap ((i : Int) + 1) = (j : Int) := by
      rw [hj, IntKind.wrap_i64]; omega
    have hi2 : (j : Int) ≤ (c : Int) := by omega
    have hi3 : (0 : Int) ≤ (j : Int) := by omega
    clear hj
    go_enter Try.func11, Try.ntmps11
    go_wp2_with (go_at_call 31; refine (MAY.out _).mono ?_; rintro r w1 ⟨rfl, hb1⟩; rw [← hwx] at hb1; have hk1 := (hb1.block _ hsx).trans HBK.out; have k0 : w1.cell? ⟨w.heap.size, 0, none⟩ = some (.int .u32 e.id.1) := cell_of_obj hk1 rfl; have k1 : w1.cell? ⟨w.heap.size, 1, none⟩ = some (.int .u32 e.id.2) := cell_of_obj hk1 rfl; have k2 : w1.cell? ⟨w.heap.size, 2, none⟩ = some (.int .u32 e.home) := cell_of_obj hk1 rfl; have k3 : w1.cell? ⟨w.heap.size, 3, none⟩ = some (.int .i64 e.oc) := cell_of_obj hk1 rfl; have k4 : w1.cell? ⟨w.heap.size, 4, none⟩ = some (.int .u64 e.w) := cell_of_obj hk1 rfl; have k5 : w1.cell? ⟨w.heap.size, 5, none⟩ = some (.int .u32 e.l) := cell_of_obj hk1 rfl; have k6 : w1.cell? ⟨w.heap.size, 6, none⟩ = some (.int .u32 e.n) := cell_of_obj hk1 rfl; have HB1 : Hid (Below w.heap.size w w1) := Below.on HBX.out hb1; rw [← hwx] at gg0 gg1 gg2 gg3 gg4 gg5 gg6; have g0 := cell_later hb1 gg0; have g1 := cell_later hb1 gg1; have g2 := cell_later hb1 gg2; have g3 := cell_later hb1 gg3; have g4 := cell_later hb1 gg4; have g5 := cell_later hb1 gg5; have g6 := cell_later hb1 gg6; clear hb1 hk1 gg0 gg1 gg2 gg3 gg4 gg5 gg6)
    have HK : Hid (BoxE w1 w.heap.size e) := ⟨k0, k1, k2, k3, k4, k5, k6⟩
    have HG : Hid (w1.cell? ⟨b, off + i * 7, none⟩ = some (.int .u32 y.id.1) ∧ w1.cell? ⟨b, off + i * 7 + 1, none⟩ = some (.int .u32 y.id.2) ∧ w1.cell? ⟨b, off + i * 7 + 2, none⟩ = some (.int .u32 y.home) ∧ w1.cell? ⟨b, off + i * 7 + 3, none⟩ = some (.int .i64 y.oc) ∧ w1.cell? ⟨b, off + i * 7 + 4, none⟩ = some (.int .u64 y.w) ∧ w1.cell? ⟨b, off + i * 7 + 5, none⟩ = some (.int .u32 y.l) ∧ w1.cell? ⟨b, off + i * 7 + 6, none⟩ = some (.int .u32 y.n)) := ⟨g0, g1, g2, g3, g4, g5, g6⟩
    clear hwx k0 k1 k2 k3 k4 k5 k6 g2 g3 g4 g5 g6
    go_cut [9, 10] (fun s9 s10 wz => ∃ q : Nat, s9 = .pointer (some ⟨q, 0, none⟩) ∧ s10 = .bool true ∧ Hid (BoxE wz q e) ∧ Hid (Below w1.heap.size w1 wz))
    case first =>
      go_region_held3 (fun w' => w'.cell? ⟨b, off + i * 7, none⟩ = some (.int .u32 y.id.1) ∧ w'.cell? ⟨b, off + i * 7 + 1, none⟩ = some (.int .u32 y.id.2) ∧ Below w1.heap.size w1 w')
        ((refine (fun (hB : Below w1.heap.size w1 _) => ⟨cell_later hB g0, cell_later hB g1, hB⟩) ?_; (repeat (first | with_reducible exact Below.refl _ _ | with_reducible assumption | with_reducible refine Below.drew ?_ | with_reducible refine Below.al ?_ _ | with_reducible refine Below.setCell ?_ (by first | exact Nat.le_refl _ | (simp; omega) | (simp; done)) _ | with_reducible refine Below.on ?_ (by assumption)))))
        ((go_at_call 13; refine (FST.out _ (Below.on HB1.out (by (repeat (first | with_reducible exact Below.refl _ _ | with_reducible assumption | with_reducible refine Below.drew ?_ | with_reducible refine Below.al ?_ _ | with_reducible refine Below.setCell ?_ (by first | exact Nat.le_refl _ | (simp; omega) | (simp; done)) _ | with_reducible refine Below.on ?_ (by assumption)))))).mono ?_; rintro r w2 ⟨rfl, hb2⟩; (first | (have hk2 : w2.heap[w1.heap.size]? = some (.cells #[.int .u32 0, .int .u32 0, .int .u32 0, .int .i64 0, .int .u64 0, .int .u32 0, .int .u32 0] 33) := (hb2.block _ (by simp)).trans (MapKept.heap_alloc w1.drew _).1; have f2 : ∀ o, w2.frozen? ⟨w1.heap.size, o, none⟩ = false := (fun o => by simp [World.frozen?, hk2]); have r0 : w2.cell? ⟨w1.heap.size, 0, none⟩ = some (.int .u32 0) := cell_of_obj hk2 rfl; have r1 : w2.cell? ⟨w1.heap.size, 1, none⟩ = some (.int .u32 0) := cell_of_obj hk2 rfl; have r2 : w2.cell? ⟨w1.heap.size, 2, none⟩ = some (.int .u32 0) := cell_of_obj hk2 rfl; have r3 : w2.cell? ⟨w1.heap.size, 3, none⟩ = some (.int .i64 0) := cell_of_obj hk2 rfl; have r4 : w2.cell? ⟨w1.heap.size, 4, none⟩ = some (.int .u64 0) := cell_of_obj hk2 rfl; have r5 : w2.cell? ⟨w1.heap.size, 5, none⟩ = some (.int .u32 0) := cell_of_obj hk2 rfl; have r6 : w2.cell? ⟨w1.heap.size, 6, none⟩ = some (.int .u32 0) := cell_of_obj hk2 rfl; have HK2 := hid hk2; clear hk2) | skip)))
      all_goals (try go_wp2_with fail)
      all_goals go_meet
      all_goals refine ⟨_, rfl, rfl, hid ?_, hid ?_⟩
      all_goals (first | with_reducible exact box_chain0 e HK2.out | with_reducible exact box_new _ _ | ((repeat (first | with_reducible exact Below.refl _ _ | with_reducible assumption | with_reducible refine Below.drew ?_ | with_reducible refine Below.al ?_ _ | with_reducible refine Below.setCell ?_ (by first | exact Nat.le_refl _ | (simp; omega) | (simp; done)) _ | with_reducible refine Below.on ?_ (by assumption)))))
    case rest =>
      obtain ⟨q, rfl, rfl, HQ, HC⟩ := hcut
      rename World => wz
      obtain ⟨q0, q1, q2, q3, q4, q5, q6⟩ := HQ.out
      obtain ⟨k0, k1, k2, k3, k4, k5, k6⟩ := HK.out
      obtain ⟨g0, g1, g2, g3, g4, g5, g6⟩ := HG.out
      have HQZ : Hid (BoxE wz q e) := HQ
      have HKZ : Hid (BoxE wz w.heap.size e) := HK.out.later HC.out
      have sq0 := cell_regrown q0
      have sq1 := cell_regrown q1
      have sq2 := cell_regrown q2
      have sq3 := cell_regrown q3
      have sq4 := cell_regrown q4
      have sq5 := cell_regrown q5
      have sq6 := cell_regrown q6
      have kk0 := cell_later HC.out k0
      have kk1 := cell_later HC.out k1
      have kk2 := cell_later HC.out k2
      have kk3 := cell_later HC.out k3
      have kk4 := cell_later HC.out k4
      have kk5 := cell_later HC.out k5
      have kk6 := cell_later HC.out k6
      have sg0 := cell_regrown (cell_later HC.out g0)
      have sg1 := cell_regrown (cell_later HC.out g1)
      have sg2 := cell_regrown (cell_later HC.out g2)
      have sg3 := cell_regrown (cell_later HC.out g3)
      have sg4 := cell_regrown (cell_later HC.out g4)
      have sg5 := cell_regrown (cell_later HC.out g5)
      have sg6 := cell_regrown (cell_later HC.out g6)
      have HBz : Hid (Below w.heap.size w wz) := Below.on HB1.out HC.out
      clear g0 g1 g2 g3 g4 g5 g6 k0 k1 k2 k3 k4 k5 k6 HQ q0 q1 q2 q3 q4 q5 q6 kk0 kk1 kk2 kk3 kk4 kk5 kk6
      go_wp2_with fail
      refine wp_region_quiet_below (by kernel_rfl) (by kernel_rfl) ?_
      repeat (go_big_quiet_step (((go_at_call 16; exact Calls.regrown_of (AGR.out _)))))
      refine wpQuiet_nil ?_
      intro wn hwn
      replace hwn := below_of_regrown hwn
      obtain ⟨qn0, qn1, qn2, qn3, qn4, qn5, qn6⟩ := HQZ.out.later hwn
      obtain ⟨kn0, kn1, kn2, kn3, kn4, kn5, kn6⟩ := HKZ.out.later hwn
      have HBn : Hid (Below w.heap.size w wn) := Below.on HBz.out hwn
      clear hwn sq0 sg0 sq1 sg1 sq2 sg2 sq3 sg3 sq4 sg4 sq5 sg5 sq6 sg6
      cases z with
      | true =>
        have hx0 : x = 0 := HX.out
        subst hx0
        go_wp2_with fail
        go_ret
        exact ⟨by simp, HBn⟩
      | false =>
        have hx0 : x = 110 := HX.out
        subst hx0
        go_wp2_with fail
        go_ret
        exact ⟨by simp, HBn⟩
end Go.Proofs.Ytogjhpknlopajaa.Lg
