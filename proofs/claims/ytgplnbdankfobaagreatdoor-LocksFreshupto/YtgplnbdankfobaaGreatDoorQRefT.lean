import Derived.Test.YtgplnbdankfobaaGreatDoorQRefC
import Derived.Test.YtgplnbdankfobaaGreatDoorQTyp
import Derived.Test.YtgplnbdankfobaaGreatDoorQRefA
/- The document's table: what it holds and where; New, at, Conflict, Len. -/
namespace Go.Proofs.YtgplnbdankfobaaGreatDoor.Lk
open Go.RowKit Go.Sort
set_option linter.unusedVariables false

/-- a table of the document's at q, with its row -/
structure RT (B : Nat) (w : World) (q : Nat) (a : Option Addr) (n c : Nat) (V : List Hv) : Prop where
  blk : w.heap[q]? = some (.cells #[.slice a n c] 59)
  row : RowH B w a n c V
  typ : ∀ v ∈ V, v.typ w
/-- its blocks -/
def RIt (q : Nat) (a : Option Addr) (n c : Nat) (b : Nat) : Prop := b = q ∨ (Value.slice a n c).ownBlock = some b
section
variable {B B' q q' n n' c c' p : Nat} {w w' : World} {a a' : Option Addr} {V U : List Hv} {m1 m2 : Option Nat} {I : It}
theorem RT.c0 (h : RT B w q a n c V) : w.cell? ⟨q, 0, none⟩ = some (.slice a n c) := cell_of_obj h.blk rfl
theorem RT.lt (h : RT B w q a n c V) : q < w.heap.size := (Array.getElem?_eq_some_iff.1 h.blk).1
theorem RT.loose (h : RT B w q a n c V) : ∀ o, w.frozen? ⟨q, o, none⟩ = false := fun o => by simp [World.frozen?, h.blk]
theorem RT.later (h : RT B w q a n c V) (hb : Below w.heap.size w w') : RT B w' q a n c V := ⟨(hb.block q h.lt).trans h.blk, h.row.later hb, fun v hv => (h.typ v hv).later hb⟩
theorem RT.its_lt (h : RT B w q a n c V) {b : Nat} (hb : RIt q a n c b) : b < w.heap.size := by
  rcases hb with rfl | hb
  · exact h.lt
  · exact (h.row.own.lt b hb).2
/-- its blocks: of which types -/
theorem RT.obj (h : RT B w q a n c V) {b : Nat} (hb : RIt q a n c b) : ∃ cur t, w.heap[b]? = some (.cells cur t (0, 0)) ∧ (t = 59 ∨ t = 32) := by
  rcases hb with rfl | hb
  · exact ⟨_, _, h.blk, .inl rfl⟩
  · obtain ⟨cur, hc⟩ := own_type h.row.own hb
    exact ⟨cur, _, hc, .inr rfl⟩
theorem RT.foreign (h : RT B w q a n c V) : Foreign w (RIt q a n c) := fun b hb => by
  obtain ⟨cur, t, hc, ht⟩ := h.obj hb
  refine ⟨fun cur' h' => ?_, fun cur' h' => ?_⟩
  · have := cells_ne hc h'
    rcases ht with rfl | rfl <;> revert this <;> decide
  · have := cells_ne hc h'
    rcases ht with rfl | rfl <;> revert this <;> decide
theorem Tb.foreign (T : Tb w p m1 m2 U I) : Foreign w (Its p m1 m2) := fun b hb => by
  rcases hb with rfl | rfl | rfl
  · refine ⟨fun cur' h' => ?_, fun cur' h' => ?_⟩
    · obtain ⟨cs, hk⟩ := T.blk; have := cells_ne hk h'; revert this; decide
    · obtain ⟨cs, hk⟩ := T.blk; have := cells_ne hk h'; revert this; decide
  · obtain ⟨es, clock, hb, _⟩ := T.held.at
    exact ⟨fun cur h' => (by rw [hb] at h'; cases h'), fun cur h' => (by rw [hb] at h'; cases h')⟩
  · obtain ⟨es, clock, hb, _⟩ := T.ints.at
    exact ⟨fun cur h' => (by rw [hb] at h'; cases h'), fun cur h' => (by rw [hb] at h'; cases h')⟩
/-- a table of the program's and one of the document's share no block -/
theorem RT.apart (h : RT B w q a n c V) (T : Tb w p m1 m2 U I) {b : Nat} (hb : RIt q a n c b) : ¬ Its p m1 m2 b := fun hI => by
  obtain ⟨cur, t, hc, ht⟩ := h.obj hb
  rcases hI with rfl | rfl | rfl
  · obtain ⟨cs, hk⟩ := T.blk
    have := cells_ne hc hk
    rcases ht with rfl | rfl <;> revert this <;> decide
  · obtain ⟨es, clock, hb, _⟩ := T.held.at
    rw [hc] at hb; cases hb
  · obtain ⟨es, clock, hb, _⟩ := T.ints.at
    rw [hc] at hb; cases hb
/-- it stays while a table of the program's changes -/
theorem RT.prog (h : RT B w q a n c V) (T : Tb w p m1 m2 U I) (ho : Onl (Its p m1 m2) w w') : RT B w' q a n c V :=
  ⟨(ho.block q h.lt (h.apart T (.inl rfl))).trans h.blk, h.row.onl T ho, fun v hv => (h.typ v hv).onl ho T.foreign⟩
/-- a table of the program's stays while one of the document's changes -/
theorem Tb.ref (T : Tb w p m1 m2 U I) (hty : ∀ v ∈ U, v.typ w) (h : RT B w q a n c V) (ho : Onl (RIt q a n c) w w') : Tb w' p m1 m2 U I :=
  ⟨(T.objs (ho.block p T.lt (fun k => h.apart T k (.inl rfl)))).1, (T.objs (ho.block p T.lt (fun k => h.apart T k (.inl rfl)))).2, T.held.same fun b e => ho.block b (T.held.lt b e) (fun k => h.apart T k (.inr (.inl e))), T.ints.same fun b e => ho.block b (T.ints.lt b e) (fun k => h.apart T k (.inr (.inr e))),
    fun v hv => (T.rows v hv).typ_onl (hty v hv) ho h.foreign, T.ok, T.nil, T.ne⟩
/-- and so does another one of the document's -/
theorem RT.ref (R : RT B w q a n c V) (h : RT B' w q' a' n' c' U) (hd : ∀ b, RIt q a n c b → ¬ RIt q' a' n' c' b) (ho : Onl (RIt q' a' n' c') w w') : RT B w' q a n c V :=
  ⟨(ho.block q R.lt (hd q (.inl rfl))).trans R.blk, ⟨owns_keep R.row.own fun g hg => ho.block g (R.row.own.lt g hg).2 (hd g (.inr hg)), R.row.len, fun v hv => (R.row.ok v hv).typ_onl (R.typ v hv) ho h.foreign⟩, fun v hv => (R.typ v hv).onl ho h.foreign⟩
theorem Tb.prog {p' : Nat} {m1' m2' : Option Nat} {I' : It} (T : Tb w p m1 m2 U I) (T' : Tb w p' m1' m2' V I') (hd : ∀ b, Its p m1 m2 b → ¬ Its p' m1' m2' b) (ho : Onl (Its p' m1' m2') w w') : Tb w' p m1 m2 U I :=
  ⟨(T.objs (ho.block p T.lt (hd p (.inl rfl)))).1, (T.objs (ho.block p T.lt (hd p (.inl rfl)))).2, T.held.same fun b e => ho.block b (T.held.lt b e) (hd b (.inr (.inl e))), T.ints.same fun b e => ho.block b (T.ints.lt b e) (hd b (.inr (.inr e))), fun v hv => (T.rows v hv).onl ho (fun b hb => T'.bare hb), T.ok, T.nil, T.ne⟩
end
theorem rnew_is (w : World) : Calls Tryz.prog 5 #[] w fun e w' => e = .returned (.pointer (some ⟨w.heap.size, 0, none⟩)) ∧ Hid (RT w.heap.size w' w.heap.size none 0 0 []) ∧ Hid (Below w.heap.size w w') := by
  have HT : Hid (RT w.heap.size (w.alloc (.cells #[.slice none 0 0] 59)) w.heap.size none 0 0 []) :=
    ⟨(MapKept.heap_alloc _ _).1, ⟨⟨rfl, .inl ⟨rfl, rfl⟩⟩, rfl, by simp⟩, by simp⟩
  go_enter Tryz.func5, Tryz.ntmps5
  go_wp2_with fail
  go_ret
  exact ⟨rfl, HT, Below.al (Below.refl _ _) _⟩
/-- where a transaction stands -/
def posP (V : List Hv) (i : Ix) (k : Int) : Prop := (k = -1 ∧ hasB (V.map Hv.h) i = false) ∨ ∃ j, j < V.length ∧ k = (j : Int) ∧ (nthH V j).h.id = i ∧ hasB (V.map Hv.h) i = true

set_option maxHeartbeats 2000000 in
theorem at_is {B q n c : Nat} {w : World} {a : Option Addr} {V : List Hv} (T : RT B w q a n c V) (i : Ix) :
    Calls Tryz.prog 23 #[.pointer (some ⟨q, 0, none⟩), .agg #[.int .u32 i.1, .int .u32 i.2]] w fun e w' => ∃ k : Int, e = .returned (.int .i64 k) ∧ Hid (posP V i k) ∧ Hid (Below w.heap.size w w') := by
  obtain ⟨wx, hwx⟩ : ∃ wx, wx = w.alloc (.cells #[.int .u32 i.1, .int .u32 i.2] 25) := ⟨_, rfl⟩
  have HBX : Hid (Below w.heap.size w wx) := by rw [hwx]; exact Below.al (Below.refl _ _) _
  have B0 : Hid (wx.cell? ⟨w.heap.size, 0, none⟩ = some (.int .u32 i.1)) := by rw [hwx]; exact hid (by simp [go_sem])
  have B1 : Hid (wx.cell? ⟨w.heap.size, 1, none⟩ = some (.int .u32 i.2)) := by rw [hwx]; exact hid (by simp [go_sem])
  have HT := hid (T.later HBX.out)
  have hln := T.row.len
  have hnl := own_le T.row.own
  have HLN := hid hln
  clear T hln
  go_enter Tryz.func23, Tryz.ntmps23
  go_wp2_with fail
  rw [← hwx]
  clear hwx
  go_loopg [5] n (fun g s5 wr => ∃ k : Nat, k ≤ n ∧ g = n - k ∧ s5 = .int .i64 k ∧ Hid (Below wx.heap.size wx wr) ∧ Hid (∀ j, j < k → (nthH V j).h.id ≠ i))
  case atStart => exact ⟨0, by omega, by omega, rfl, Below.refl _ _, fun j hj => absurd hj (by omega)⟩
  case round =>
    obtain ⟨k, hk, rfl, rfl, HB, HA⟩ := hrel
    have TR := HT.out.later HB.out
    have c0 := TR.c0
    by_cases hlt : k < n
    · obtain ⟨g, eg, hc⟩ := ownH_at TR.row.own HLN.out hlt
      have hk1 : (k : Int) < (n : Int) := by omega
      obtain ⟨x, hxe⟩ : ∃ x, x = nthH V k := ⟨_, rfl⟩
      rw [← hxe] at hc
      subst eg
      have s0 := cell_regrown (show wr.cell? ⟨g, k * 8, none⟩ = _ from hc 0 _ rfl)
      have s1 := cell_regrown (hc 1 _ rfl)
      have t0 := cell_regrown (cell_later HB.out B0.out)
      have t1 := cell_regrown (cell_later HB.out B1.out)
      have d0 := cell_regrown c0
      obtain ⟨z, hz⟩ : ∃ z, sameI x.h.id i = z := ⟨_, rfl⟩
      have qq : ∀ W, (binOp .eql 25 (.agg #[.int .u32 x.h.id.1, .int .u32 x.h.id.2]) (.agg #[.int .u32 i.1, .int .u32 i.2])).run Tryz.prog W = .ok (.bool z) W := fun W => by rw [← hz]; exact run_eqI x.h.id i W
      have HZ : Hid (sameI (nthH V k).h.id i = z) := by rw [← hxe]; exact hz
      clear hc hxe hz TR
      cases z with
      | true =>
        have HPO : Hid (posP V i (k : Int)) := by
          have e : (nthH V k).h.id = i := by have := HZ.out; simpa [sameI] using this
          exact .inr ⟨k, by rw [HLN.out]; exact hlt, rfl, e, hasB_iff.2 ⟨_, List.mem_map.2 ⟨_, nthH_mem (by rw [HLN.out]; exact hlt), rfl⟩, e⟩⟩
        go_wp2_with fail
        refine wp_region_quiet_below (by kernel_rfl) (by kernel_rfl) ?_
        repeat (go_big_quiet_step (fail))
        refine wpQuiet_nil ?_
        intro wn hwn
        replace hwn := below_of_regrown hwn
        go_wp2_with fail
        go_ret
        exact ⟨_, rfl, HPO, Below.on HBX.out (Below.on HB.out hwn)⟩
      | false =>
        go_wp2_with fail
        refine wp_region_quiet_below (by kernel_rfl) (by kernel_rfl) ?_
        repeat (go_big_quiet_step (fail))
        refine wpQuiet_nil ?_
        intro wn hwn
        replace hwn := below_of_regrown hwn
        go_wp2_with fail
        go_roundg (n - (k + 1))
        case measure => omega
        case rel =>
          refine ⟨k + 1, by omega, rfl, by go_num, Below.on HB.out hwn, fun j hj => ?_⟩
          by_cases e : j = k
          · subst e; have := HZ.out; simpa [sameI] using this
          · exact HA.out j (by omega)
    · obtain rfl : k = n := by omega
      have HPO : Hid (posP V i (-1)) := by
        refine .inl ⟨rfl, ?_⟩
        rw [Bool.eq_false_iff]
        intro e
        obtain ⟨h, hh, e⟩ := hasB_iff.1 e
        obtain ⟨v, hv, rfl⟩ := List.mem_map.1 hh
        obtain ⟨j, hj, rfl⟩ := List.getElem_of_mem hv
        have := HA.out j (by rw [← HLN.out]; exact hj)
        exact this (by simpa [nthH, hj] using e)
      clear TR
      go_wp2_with fail
      go_ret
      exact ⟨_, rfl, HPO, Below.on HBX.out HB.out⟩

theorem confl_no {V : List Hv} {i : Ix} {rs : List T2} {ws : List Wr} (h : ∀ j, j < V.length → (!sameI (nthH V j).h.id i && meetB rs ws (nthH V j).h) = false) : confl (V.map Hv.h) i rs ws = false := by
  rw [confl, List.any_eq_false]
  intro x hx
  obtain ⟨v, hv, rfl⟩ := List.mem_map.1 hx
  obtain ⟨j, hj, rfl⟩ := List.getElem_of_mem hv
  have := h j hj
  simpa [nthH, hj, sameI] using this
theorem confl_yesN {V : List Hv} {i : Ix} {rs : List T2} {ws : List Wr} {j : Nat} (hj : j < V.length) (h : (!sameI (nthH V j).h.id i && meetB rs ws (nthH V j).h) = true) : confl (V.map Hv.h) i rs ws = true := by
  rw [confl, List.any_eq_true]
  exact ⟨_, List.mem_map.2 ⟨_, nthH_mem hj, rfl⟩, by simpa [sameI] using h⟩

set_option maxHeartbeats 2000000 in
theorem rconf_is {B q n c : Nat} {w : World} {a ra wa : Option Addr} {rc wc : Nat} {V : List Hv} {i : Ix} {rs : List T2} {ws : List Wr} {u : Bool} (hu : confl (V.map Hv.h) i rs ws = u) (T : RT B w q a n c V) (hr : Row2 w ra rs) (hw : RowW w wa ws) (hlr : rs.length ≤ 9223372036854775806) (hlw : ws.length ≤ 9223372036854775806) :
    Calls Tryz.prog 24 #[.pointer (some ⟨q, 0, none⟩), .agg #[.int .u32 i.1, .int .u32 i.2], .slice ra rs.length rc, .slice wa ws.length wc] w fun e w' => e = .returned (.bool u) ∧ Below w.heap.size w w' := by
  obtain ⟨wx, hwx⟩ : ∃ wx, wx = w.alloc (.cells #[.int .u32 i.1, .int .u32 i.2] 25) := ⟨_, rfl⟩
  have HBX : Hid (Below w.heap.size w wx) := by rw [hwx]; exact Below.al (Below.refl _ _) _
  have B0 : Hid (wx.cell? ⟨w.heap.size, 0, none⟩ = some (.int .u32 i.1)) := by rw [hwx]; exact hid (by simp [go_sem])
  have B1 : Hid (wx.cell? ⟨w.heap.size, 1, none⟩ = some (.int .u32 i.2)) := by rw [hwx]; exact hid (by simp [go_sem])
  have HT := hid (T.later HBX.out)
  have HR := hid (hr.later HBX.out)
  have HW := hid (hw.later HBX.out)
  have hln := T.row.len
  have hnl := own_le T.row.own
  have HLN := hid hln
  have HY : Hid (∀ j, j < V.length → (!sameI (nthH V j).h.id i && meetB rs ws (nthH V j).h) = true → u = true) := fun j hj h => hu.symm.trans (confl_yesN hj h)
  have HN : Hid ((∀ j, j < V.length → (!sameI (nthH V j).h.id i && meetB rs ws (nthH V j).h) = false) → u = false) := fun h => hu.symm.trans (confl_no h)
  clear T hln hr hw hu
  go_enter Tryz.func24, Tryz.ntmps24
  go_wp2_with fail
  rw [← hwx]
  clear hwx
  go_loopg [9] n (fun g s9 wr => ∃ k : Nat, k ≤ n ∧ g = n - k ∧ s9 = .int .i64 k ∧ Hid (Below wx.heap.size wx wr) ∧ Hid (∀ j, j < k → (!sameI (nthH V j).h.id i && meetB rs ws (nthH V j).h) = false))
  case atStart => exact ⟨0, by omega, by omega, rfl, Below.refl _ _, fun j hj => absurd hj (by omega)⟩
  case round =>
    obtain ⟨k, hk, rfl, rfl, HB, HA⟩ := hrel
    have TR := HT.out.later HB.out
    have c0 := TR.c0
    by_cases hlt : k < n
    · obtain ⟨g, eg, hc⟩ := ownH_at TR.row.own HLN.out hlt
      have hk1 : (k : Int) < (n : Int) := by omega
      have hxo := TR.row.ok _ (nthH_mem (i := k) (by rw [HLN.out]; exact hlt))
      obtain ⟨x, hxe⟩ : ∃ x, x = nthH V k := ⟨_, rfl⟩
      rw [← hxe] at hc hxo
      subst eg
      have s0 := cell_regrown (show wr.cell? ⟨g, k * 8, none⟩ = _ from hc 0 _ rfl)
      have s1 := cell_regrown (hc 1 _ rfl)
      have s2 := cell_regrown (hc 2 _ rfl)
      have s3 := cell_regrown (hc 3 _ rfl)
      have s4 := cell_regrown (hc 4 _ rfl)
      have s5 := cell_regrown (hc 5 _ rfl)
      have s6 := cell_regrown (hc 6 _ rfl)
      have s7 := cell_regrown (hc 7 _ rfl)
      have t0 := cell_regrown (cell_later HB.out B0.out)
      have t1 := cell_regrown (cell_later HB.out B1.out)
      have d0 := cell_regrown c0
      obtain ⟨z, hz⟩ : ∃ z, sameI x.h.id i = z := ⟨_, rfl⟩
      obtain ⟨y, hy⟩ : ∃ y, meetB rs ws x.h = y := ⟨_, rfl⟩
      have qq : ∀ W, (binOp .neq 25 (.agg #[.int .u32 x.h.id.1, .int .u32 x.h.id.2]) (.agg #[.int .u32 i.1, .int .u32 i.2])).run Tryz.prog W = .ok (.bool !z) W := fun W => by rw [← hz]; exact run_neI x.h.id i W
      have HZ : Hid ((!sameI (nthH V k).h.id i && meetB rs ws (nthH V k).h) = (!z && y)) := by show _ = _; rw [← hxe, hz, hy]
      have ME : Hid (∀ W, Below wr.heap.size wr W → Calls Tryz.prog 42 #[.slice ra rs.length rc, .slice wa ws.length wc, .agg #[.int .u32 x.h.id.1, .int .u32 x.h.id.2, .int .u32 x.h.home, .int .u64 x.h.w, .int .u32 x.h.l, .int .u32 x.h.n, .slice x.ra x.h.rs.length x.rc, .slice x.wa x.h.ws.length x.wc]] W fun e w' => e = .returned (.bool y) ∧ Below W.heap.size W w') := fun W hb => refmeet_is hy ((HR.out.later HB.out).later hb) ((HW.out.later HB.out).later hb) (hxo.later hb) hlr hlw
      clear hc hxe hz hy hxo TR
      cases z with
      | true =>
        simp only [Bool.not_true] at qq
        go_wp2_with fail
        refine wp_region_quiet_below (by kernel_rfl) (by kernel_rfl) ?_
        repeat (go_big_quiet_step (fail))
        refine wpQuiet_nil ?_
        intro wn hwn
        replace hwn := below_of_regrown hwn
        go_wp2_with fail
        go_roundg (n - (k + 1))
        case measure => omega
        case rel =>
          refine ⟨k + 1, by omega, rfl, by go_num, Below.on HB.out hwn, fun j hj => ?_⟩
          by_cases e : j = k
          · subst e; rw [HZ.out]; rfl
          · exact HA.out j (by omega)
      | false =>
        simp only [Bool.not_false] at qq
        cases y with
        | true =>
          have hu1 : u = true := HY.out k (by rw [HLN.out]; exact hlt) (by rw [HZ.out]; rfl)
          subst hu1
          go_wp2_with fail
          refine wp_region_quiet_below (by kernel_rfl) (by kernel_rfl) ?_
          repeat (go_big_quiet_step (((go_at_call 42; exact Calls.regrown_of (ME.out _ (below_of_regrown ⟨⟨_, _⟩, rfl⟩))))))
          refine wpQuiet_nil ?_
          intro wn hwn
          replace hwn := below_of_regrown hwn
          go_wp2_with fail
          go_ret
          exact ⟨rfl, Below.on HBX.out (Below.on HB.out hwn)⟩
        | false =>
          go_wp2_with fail
          refine wp_region_quiet_below (by kernel_rfl) (by kernel_rfl) ?_
          repeat (go_big_quiet_step (((go_at_call 42; exact Calls.regrown_of (ME.out _ (below_of_regrown ⟨⟨_, _⟩, rfl⟩))))))
          refine wpQuiet_nil ?_
          intro wn hwn
          replace hwn := below_of_regrown hwn
          go_wp2_with fail
          go_roundg (n - (k + 1))
          case measure => omega
          case rel =>
            refine ⟨k + 1, by omega, rfl, by go_num, Below.on HB.out hwn, fun j hj => ?_⟩
            by_cases e : j = k
            · subst e; rw [HZ.out]; rfl
            · exact HA.out j (by omega)
    · obtain rfl : k = n := by omega
      have hu0 : u = false := HN.out (fun j hj => HA.out j (by rw [← HLN.out]; exact hj))
      subst hu0
      clear TR
      go_wp2_with fail
      go_ret
      exact ⟨rfl, Below.on HBX.out HB.out⟩
end Go.Proofs.YtgplnbdankfobaaGreatDoor.Lk
