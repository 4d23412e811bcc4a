import Derived.Test.YtogjhpknlopajaaXAgreeP
/- The document's ledger. -/
namespace Go.Proofs.Ytogjhpknlopajaa.Lg
open Go.RowKit Go.Sort Go.Shelf Go.Lib Lk
set_option linter.unusedVariables false

/-- a ledger of the document's at q, with its row -/
structure Rl (w : World) (q : Nat) (a : Option Addr) (n c : Nat) (M : List En) : Prop where
  blk : w.heap[q]? = some (.cells #[.slice a n c] 133)
  own : OwnL 0 w (.slice a n c) n M
  len : M.length = n
/-- its blocks -/
def RItL (q : Nat) (a : Option Addr) (n c : Nat) (b : Nat) : Prop := b = q ∨ (Value.slice a n c).ownBlock = some b
section
variable {q n c : Nat} {w w' : World} {a : Option Addr} {M : List En}
theorem Rl.c0 (h : Rl w q a n c M) : w.cell? ⟨q, 0, none⟩ = some (.slice a n c) := cell_of_obj h.blk rfl
theorem Rl.lt (h : Rl w q a n c M) : q < w.heap.size := (Array.getElem?_eq_some_iff.1 h.blk).1
theorem Rl.loose (h : Rl w q a n c M) : ∀ o, w.frozen? ⟨q, o, none⟩ = false := fun o => by simp [World.frozen?, h.blk]
theorem Rl.onl {F : Nat → Prop} (h : Rl w q a n c M) (ho : Onl F w w') (hF : ∀ b, RItL q a n c b → ¬ F b) : Rl w' q a n c M :=
  ⟨(ho.block q h.lt (hF q (.inl rfl))).trans h.blk, owns_onl h.own ho (fun g hg => hF g (.inr hg)), h.len⟩
theorem Rl.later (h : Rl w q a n c M) (hb : Below w.heap.size w w') : Rl w' q a n c M := h.onl (F := fun _ => False) (Onl.of_below hb) (fun _ _ k => k)
theorem Rl.its_lt (h : Rl w q a n c M) {b : Nat} (hb : RItL q a n c b) : b < w.heap.size := by
  rcases hb with rfl | hb
  · exact h.lt
  · exact (h.own.lt b hb).2
theorem Rl.row (h : Rl w q a n c M) : RowC En.zero ecs 7 w a M := own_row h.own h.len
theorem Rl.ne (h : Rl w q a n c M) : (Value.slice a n c).ownBlock ≠ some q := fun e => by
  obtain ⟨cur, hc⟩ := own_type h.own e
  have := h.blk
  rw [hc] at this
  injection this with this
  injection this with _ this
  revert this; decide
end
theorem rnew_is (w : World) : Calls Try.prog 57 #[] w fun e w' => e = .returned (.pointer (some ⟨w.heap.size, 0, none⟩)) ∧ Hid (Rl w' w.heap.size none 0 0 []) ∧ Below w.heap.size w w' := by
  have HT : Hid (Rl (w.alloc (.cells #[.slice none 0 0] 133)) w.heap.size none 0 0 []) := ⟨(MapKept.heap_alloc _ _).1, ⟨rfl, .inl ⟨rfl, rfl⟩⟩, rfl⟩
  go_enter Try.func57, Try.ntmps57
  go_wp2_with fail
  go_ret
  exact ⟨rfl, HT, Below.al (Below.refl _ _) _⟩
theorem rlen_is {w : World} {q n c : Nat} {a : Option Addr} {M : List En} (T : Rl w q a n c M) : Calls Try.prog 63 #[.pointer (some ⟨q, 0, none⟩)] w fun e w' => e = .returned (.int .i64 n) ∧ w' = w := by
  have c0 := T.c0
  clear T
  go_enter Try.func63, Try.ntmps63
  go_wp2_with fail
  go_ret
  exact ⟨rfl, rfl⟩
theorem outM_take {M : List En} {k : Nat} (h : k < M.length) (t : Ix) : outM (M.take (k + 1)) t = (match outM (M.take k) t with | some f => some f | none => if sameI (nthE M k).id t then some (nthE M k) else none) := by
  rw [nthE_take h, outM_app]
  cases outM (M.take k) t <;> rfl
set_option maxHeartbeats 2000000 in
theorem routcome_is {w : World} {q n c : Nat} {a : Option Addr} {M : List En} (T : Rl w q a n c M) (t : Ix) :
    Calls Try.prog 60 #[.pointer (some ⟨q, 0, none⟩), .agg #[.int .u32 t.1, .int .u32 t.2]] w fun r w' => ∃ (f : En) (ok : Bool), r = .returned (.tuple #[.agg #[.int .u32 f.id.1, .int .u32 f.id.2, .int .u32 f.home, .int .i64 f.oc, .int .u64 f.w, .int .u32 f.l, .int .u32 f.n], .bool ok]) ∧
      Hid (ok = (outM M t).isSome) ∧ Hid (f = (outM M t).getD En.zero) ∧ Hid (Below w.heap.size w w') := by
  obtain ⟨wx, hwx⟩ : ∃ wx, wx = (w.alloc (.cells #[.int .u32 t.1, .int .u32 t.2] 27)).alloc (.cells #[.int .u32 0, .int .u32 0, .int .u32 0, .int .i64 0, .int .u64 0, .int .u32 0, .int .u32 0] 33) := ⟨_, rfl⟩
  have HBX : Hid (Below w.heap.size w wx) := by rw [hwx]; exact Below.al (Below.al (Below.refl _ _) _) _
  have B0 : Hid (wx.cell? ⟨w.heap.size, 0, none⟩ = some (.int .u32 t.1)) := by rw [hwx]; exact hid (by simp [go_sem])
  have B1 : Hid (wx.cell? ⟨w.heap.size, 1, none⟩ = some (.int .u32 t.2)) := by rw [hwx]; exact hid (by simp [go_sem])
  have hz : wx.heap[w.heap.size + 1]? = some (.cells #[.int .u32 0, .int .u32 0, .int .u32 0, .int .i64 0, .int .u64 0, .int .u32 0, .int .u32 0] 33) := by
    rw [hwx, show w.heap.size + 1 = (w.alloc (.cells #[.int .u32 t.1, .int .u32 t.2] 27)).heap.size by simp]
    exact (MapKept.heap_alloc _ _).1
  have hsx : w.heap.size + 1 < wx.heap.size := by rw [hwx]; simp
  have HZ := hid hz
  have HT := hid (T.later HBX.out)
  have hl := own_le T.own
  have HLN := hid T.len
  clear hz T
  go_enter Try.func60, Try.ntmps60
  go_wp2_with fail
  rw [← hwx]
  clear hwx
  go_loopg [6] n (fun g s6 wr => ∃ k : Nat, k ≤ n ∧ g = n - k ∧ s6 = .int .i64 k ∧ Hid (Below wx.heap.size wx wr) ∧ Hid (outM (M.take k) t = none))
  case atStart => exact ⟨0, by omega, by omega, rfl, Below.refl _ _, hid (by simp [outM])⟩
  case round =>
    obtain ⟨k, hk, rfl, rfl, HB, HA⟩ := hrel
    have TR := HT.out.later HB.out
    have c0 := TR.c0
    have d0 := cell_regrown c0
    by_cases hlt : k < n
    · obtain ⟨b, off, eb, hc⟩ := TR.row k (by rw [HLN.out]; exact hlt)
      have hk1 : (k : Int) < (n : Int) := by omega
      obtain ⟨x, hxe⟩ : ∃ x, x = nthE M k := ⟨_, rfl⟩
      have hxe' : (M[k]?).getD En.zero = x := hxe.symm
      rw [hxe'] at hc
      subst eb
      obtain ⟨z, hz⟩ : ∃ z, sameI x.id t = z := ⟨_, rfl⟩
      have qq : ∀ W, (binOp .eql 27 (.agg #[.int .u32 x.id.1, .int .u32 x.id.2]) (.agg #[.int .u32 t.1, .int .u32 t.2])).run Try.prog W = .ok (.bool z) W := fun W => by rw [← hz]; exact run_eqI x.id t W
      have hnx := outM_take (M := M) (k := k) (by rw [HLN.out]; exact hlt) t
      rw [HA.out, ← hxe, hz] at hnx
      have HNX := hid hnx
      have g0 : wr.cell? ⟨b, off + k * 7, none⟩ = some (.int .u32 x.id.1) := hc 0 _ rfl
      have g1 : wr.cell? ⟨b, off + k * 7 + 1, none⟩ = some (.int .u32 x.id.2) := hc 1 _ rfl
      have g2 : wr.cell? ⟨b, off + k * 7 + 2, none⟩ = some (.int .u32 x.home) := hc 2 _ rfl
      have g3 : wr.cell? ⟨b, off + k * 7 + 3, none⟩ = some (.int .i64 x.oc) := hc 3 _ rfl
      have g4 : wr.cell? ⟨b, off + k * 7 + 4, none⟩ = some (.int .u64 x.w) := hc 4 _ rfl
      have g5 : wr.cell? ⟨b, off + k * 7 + 5, none⟩ = some (.int .u32 x.l) := hc 5 _ rfl
      have g6 : wr.cell? ⟨b, off + k * 7 + 6, none⟩ = some (.int .u32 x.n) := hc 6 _ rfl
      have HG : Hid (wr.cell? ⟨b, off + k * 7, none⟩ = some (.int .u32 x.id.1) ∧ wr.cell? ⟨b, off + k * 7 + 1, none⟩ = some (.int .u32 x.id.2) ∧ wr.cell? ⟨b, off + k * 7 + 2, none⟩ = some (.int .u32 x.home) ∧ wr.cell? ⟨b, off + k * 7 + 3, none⟩ = some (.int .i64 x.oc) ∧ wr.cell? ⟨b, off + k * 7 + 4, none⟩ = some (.int .u64 x.w) ∧ wr.cell? ⟨b, off + k * 7 + 5, none⟩ = some (.int .u32 x.l) ∧ wr.cell? ⟨b, off + k * 7 + 6, none⟩ = some (.int .u32 x.n)) := ⟨g0, g1, g2, g3, g4, g5, g6⟩
      have s0 := cell_regrown g0
      have s1 := cell_regrown g1
      have t0 := cell_regrown (cell_later HB.out B0.out)
      have t1 := cell_regrown (cell_later HB.out B1.out)
      clear hc hxe hxe' hz hnx g0 g1 g2 g3 g4 g5 g6 TR
      cases z with
      | false =>
        go_wp2_with fail
        refine wp_region_quiet_below (by kernel_rfl) (by kernel_rfl) ?_
        repeat (go_big_quiet_step (fail))
        refine wpQuiet_nil ?_
        intro wn hwn
        replace hwn := below_of_regrown hwn
        go_wp2_with fail
        go_roundg (n - (k + 1))
        case measure => omega
        case rel => exact ⟨k + 1, by omega, rfl, by go_num, Below.on HB.out hwn, hid (by rw [HNX.out]; rfl)⟩
      | true =>
        have HFD : Hid (outM M t = some x) := by
          have h2 : outM M t = outM (M.take (k + 1) ++ M.drop (k + 1)) t := by rw [List.take_append_drop]
          show _ = _
          rw [h2, outM, List.find?_append]
          show (outM (M.take (k + 1)) t).or _ = _
          rw [HNX.out]; rfl
        go_wp2_with fail
        refine wp_region_quiet_below (by kernel_rfl) (by kernel_rfl) ?_
        repeat (go_big_quiet_step (fail))
        refine wpQuiet_nil ?_
        intro wn hwn
        replace hwn := below_of_regrown hwn
        have hz3 := (Below.on HB.out hwn).block _ hsx |>.trans HZ.out
        have f3 : ∀ o, wn.frozen? ⟨w.heap.size + 1, o, none⟩ = false := fun o => by simp [World.frozen?, hz3]
        have r0 : wn.cell? ⟨w.heap.size + 1, 0, none⟩ = some (.int .u32 0) := cell_of_obj hz3 rfl
        have r1 : wn.cell? ⟨w.heap.size + 1, 1, none⟩ = some (.int .u32 0) := cell_of_obj hz3 rfl
        have r2 : wn.cell? ⟨w.heap.size + 1, 2, none⟩ = some (.int .u32 0) := cell_of_obj hz3 rfl
        have r3 : wn.cell? ⟨w.heap.size + 1, 3, none⟩ = some (.int .i64 0) := cell_of_obj hz3 rfl
        have r4 : wn.cell? ⟨w.heap.size + 1, 4, none⟩ = some (.int .u64 0) := cell_of_obj hz3 rfl
        have r5 : wn.cell? ⟨w.heap.size + 1, 5, none⟩ = some (.int .u32 0) := cell_of_obj hz3 rfl
        have r6 : wn.cell? ⟨w.heap.size + 1, 6, none⟩ = some (.int .u32 0) := cell_of_obj hz3 rfl
        obtain ⟨g0, g1, g2, g3, g4, g5, g6⟩ := HG.out
        have h0 := cell_later hwn g0
        have h1 := cell_later hwn g1
        have h2 := cell_later hwn g2
        have h3 := cell_later hwn g3
        have h4 := cell_later hwn g4
        have h5 := cell_later hwn g5
        have h6 := cell_later hwn g6
        have c1 := cell_later hwn c0
        have HH := hid hz3
        have HBn : Hid (Below w.heap.size w wn) := Below.on HBX.out (Below.on HB.out hwn)
        clear hz3 g0 g1 g2 g3 g4 g5 g6 s0 s1 t0 t1 d0 c0 hwn
        go_wp2_with fail
        obtain ⟨w8, hw8⟩ : ∃ w8, w8 = (((((((wn).setCell ⟨w.heap.size + 1, 0, none⟩ (.int .u32 x.id.1)).setCell ⟨w.heap.size + 1, 1, none⟩ (.int .u32 x.id.2)).setCell ⟨w.heap.size + 1, 2, none⟩ (.int .u32 x.home)).setCell ⟨w.heap.size + 1, 3, none⟩ (.int .i64 x.oc)).setCell ⟨w.heap.size + 1, 4, none⟩ (.int .u64 x.w)).setCell ⟨w.heap.size + 1, 5, none⟩ (.int .u32 x.l)).setCell ⟨w.heap.size + 1, 6, none⟩ (.int .u32 x.n) := ⟨_, rfl⟩
        obtain ⟨hk8, ho8, hs8⟩ := stored (z := En.zero) HH.out hw8
        rw [← hw8]
        clear hw8
        have t0 : w8.cell? ⟨w.heap.size + 1, 0, none⟩ = some (.int .u32 x.id.1) := cell_of_obj hk8 rfl
        have t1 : w8.cell? ⟨w.heap.size + 1, 1, none⟩ = some (.int .u32 x.id.2) := cell_of_obj hk8 rfl
        have t2 : w8.cell? ⟨w.heap.size + 1, 2, none⟩ = some (.int .u32 x.home) := cell_of_obj hk8 rfl
        have t3 : w8.cell? ⟨w.heap.size + 1, 3, none⟩ = some (.int .i64 x.oc) := cell_of_obj hk8 rfl
        have t4 : w8.cell? ⟨w.heap.size + 1, 4, none⟩ = some (.int .u64 x.w) := cell_of_obj hk8 rfl
        have t5 : w8.cell? ⟨w.heap.size + 1, 5, none⟩ = some (.int .u32 x.l) := cell_of_obj hk8 rfl
        have t6 : w8.cell? ⟨w.heap.size + 1, 6, none⟩ = some (.int .u32 x.n) := cell_of_obj hk8 rfl
        have hb8 : Below w.heap.size w w8 := HBn.out.trans (ho8.below (B := w.heap.size) (fun k hk => by omega) HBn.out.size)
        refine bodyPost_ret (v := .tuple #[.agg #[.int .u32 x.id.1, .int .u32 x.id.2, .int .u32 x.home, .int .i64 x.oc, .int .u64 x.w, .int .u32 x.l, .int .u32 x.n], .bool true]) (by simp [results, Try.results60, go_sem, t0, t1, t2, t3, t4, t5, t6]) rfl ⟨x, true, rfl, ?_, ?_, hb8⟩
        · show _ = _; rw [HFD.out]; rfl
        · show _ = _; rw [HFD.out]; rfl
    · obtain rfl : k = n := by omega
      have HFD : Hid (outM M t = none) := by
        have := HA.out
        rwa [← HLN.out, List.take_length] at this
      have hz3 := HB.out.block _ hsx |>.trans HZ.out
      have f3 : ∀ o, wr.frozen? ⟨w.heap.size + 1, o, none⟩ = false := fun o => by simp [World.frozen?, hz3]
      have r0 : wr.cell? ⟨w.heap.size + 1, 0, none⟩ = some (.int .u32 0) := cell_of_obj hz3 rfl
      have r1 : wr.cell? ⟨w.heap.size + 1, 1, none⟩ = some (.int .u32 0) := cell_of_obj hz3 rfl
      have r2 : wr.cell? ⟨w.heap.size + 1, 2, none⟩ = some (.int .u32 0) := cell_of_obj hz3 rfl
      have r3 : wr.cell? ⟨w.heap.size + 1, 3, none⟩ = some (.int .i64 0) := cell_of_obj hz3 rfl
      have r4 : wr.cell? ⟨w.heap.size + 1, 4, none⟩ = some (.int .u64 0) := cell_of_obj hz3 rfl
      have r5 : wr.cell? ⟨w.heap.size + 1, 5, none⟩ = some (.int .u32 0) := cell_of_obj hz3 rfl
      have r6 : wr.cell? ⟨w.heap.size + 1, 6, none⟩ = some (.int .u32 0) := cell_of_obj hz3 rfl
      have HH := hid hz3
      have HBn : Hid (Below w.heap.size w wr) := Below.on HBX.out HB.out
      clear hz3 TR d0
      go_wp2_with fail
      obtain ⟨w8, hw8⟩ : ∃ w8, w8 = (((((((wr).setCell ⟨w.heap.size + 1, 0, none⟩ (.int .u32 0)).setCell ⟨w.heap.size + 1, 1, none⟩ (.int .u32 0)).setCell ⟨w.heap.size + 1, 2, none⟩ (.int .u32 0)).setCell ⟨w.heap.size + 1, 3, none⟩ (.int .i64 0)).setCell ⟨w.heap.size + 1, 4, none⟩ (.int .u64 0)).setCell ⟨w.heap.size + 1, 5, none⟩ (.int .u32 0)).setCell ⟨w.heap.size + 1, 6, none⟩ (.int .u32 0) := ⟨_, rfl⟩
      obtain ⟨hk8, ho8, hs8⟩ := stored (z := En.zero) (u := En.zero) HH.out hw8
      rw [← hw8]
      clear hw8
      have t0 : w8.cell? ⟨w.heap.size + 1, 0, none⟩ = some (.int .u32 0) := cell_of_obj hk8 rfl
      have t1 : w8.cell? ⟨w.heap.size + 1, 1, none⟩ = some (.int .u32 0) := cell_of_obj hk8 rfl
      have t2 : w8.cell? ⟨w.heap.size + 1, 2, none⟩ = some (.int .u32 0) := cell_of_obj hk8 rfl
      have t3 : w8.cell? ⟨w.heap.size + 1, 3, none⟩ = some (.int .i64 0) := cell_of_obj hk8 rfl
      have t4 : w8.cell? ⟨w.heap.size + 1, 4, none⟩ = some (.int .u64 0) := cell_of_obj hk8 rfl
      have t5 : w8.cell? ⟨w.heap.size + 1, 5, none⟩ = some (.int .u32 0) := cell_of_obj hk8 rfl
      have t6 : w8.cell? ⟨w.heap.size + 1, 6, none⟩ = some (.int .u32 0) := cell_of_obj hk8 rfl
      have hb8 : Below w.heap.size w w8 := HBn.out.trans (ho8.below (B := w.heap.size) (fun k hk => by omega) HBn.out.size)
      refine bodyPost_ret (v := .tuple #[.agg #[.int .u32 0, .int .u32 0, .int .u32 0, .int .i64 0, .int .u64 0, .int .u32 0, .int .u32 0], .bool false]) (by simp [results, Try.results60, go_sem, t0, t1, t2, t3, t4, t5, t6]) rfl ⟨En.zero, false, rfl, ?_, ?_, hb8⟩
      · show _ = _; rw [HFD.out]; rfl
      · show _ = _; rw [HFD.out]; rfl
end Go.Proofs.Ytogjhpknlopajaa.Lg
