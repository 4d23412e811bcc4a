import Derived.Test.YtiheilkjlapoiaaFePick
/- The law's small and alive. -/
namespace Go.Proofs.Ytiheilkjlapoiaa.Lg
open Go.RowKit Go.Sort Go.Shelf Go.Lib Lk
set_option linter.unusedVariables false

abbrev txK : ByteArray := ⟨#[107]⟩
abbrev tx1 : ByteArray := ⟨#[49]⟩
abbrev ev0 : Ev := ⟨0, 0, 5, (5, 1), 4, false, false, false, noT, txK, noT, tx1, 0, 0, 1, 0, 0, none, 0, 0, noT⟩
abbrev en0 : En := ⟨(5, 1), 0, 1, 2, 0, 9⟩
set_option maxRecDepth 100000 in
set_option maxHeartbeats 1000000 in
theorem small_is (w : World) : Calls Try.prog 9 #[] w fun e w' => ∃ x : Rs, e = .returned x.r.val ∧ x.E = [ev0] ∧ x.M = [en0] ∧ ResAt w' x ∧ Below w.heap.size w w' := by
  go_enter Try.func9, Try.ntmps9
  obtain ⟨w1, hw1⟩ : ∃ w1, w1 = (w.alloc (.cells Rv.zero.cs.toArray 41)).alloc (.cells #[.int .u32 5, .int .u32 1] 57) := ⟨_, rfl⟩
  have t0 : w1.cell? ⟨w.heap.size + 1, 0, none⟩ = some (.int .u32 5) := by rw [hw1]; simp [go_sem]
  have t1 : w1.cell? ⟨w.heap.size + 1, 1, none⟩ = some (.int .u32 1) := by rw [hw1]; simp [go_sem]
  have hr0 : w1.heap[w.heap.size]? = some (.cells Rv.zero.cs.toArray 41) := by rw [hw1, (MapKept.heap_alloc _ _).2 _ (by simp)]; exact (MapKept.heap_alloc _ _).1
  have hb1 : Below w.heap.size w w1 := by rw [hw1]; exact Below.al (Below.al (Below.refl _ _) _) _
  have hs1 : w.heap.size < w1.heap.size := by rw [hw1]; simp; omega
  have hs1' : w.heap.size + 1 < w1.heap.size := by rw [hw1]; simp
  go_upto_region 2 with fail
  rw [← hw1]
  clear hw1
  obtain ⟨w2, hw2⟩ : ∃ w2, w2 = w1.alloc (.cells #[.int .i64 0, .int .i64 0, .int .u32 5, .int .u32 5, .int .u32 1, .int .i64 4, .bool false, .bool false, .bool false, .string noT, .string txK, .string noT, .string tx1, .int .i64 0, .int .i64 0, .int .u64 1, .int .u32 0, .int .u32 0, .slice none 0 0, .string noT] 72) := ⟨_, rfl⟩
  have hb2 : Below w1.heap.size w1 w2 := by rw [hw2]; exact Below.al (Below.refl _ _) _
  have hs2 : w1.heap.size < w2.heap.size := by rw [hw2]; simp
  have he2 : w2.heap[w1.heap.size]? = some (.cells #[.int .i64 0, .int .i64 0, .int .u32 5, .int .u32 5, .int .u32 1, .int .i64 4, .bool false, .bool false, .bool false, .string noT, .string txK, .string noT, .string tx1, .int .i64 0, .int .i64 0, .int .u64 1, .int .u32 0, .int .u32 0, .slice none 0 0, .string noT] 72) := by rw [hw2]; exact (MapKept.heap_alloc _ _).1
  go_upto_region 3 with (refine wpList_store_new (by rfl) 72 _ _ (by rfl) #[.int .i64 0, .int .i64 0, .int .u32 5, .int .u32 5, .int .u32 1, .int .i64 4, .bool false, .bool false, .bool false, .string noT, .string txK, .string noT, .string tx1, .int .i64 0, .int .i64 0, .int .u64 1, .int .u32 0, .int .u32 0, .slice none 0 0, .string noT] _ 72 (by rfl) (by rfl) szEv (by rfl) (ev_all ev0) ?_)
  rw [← hw2]
  clear hw2
  have hs2' : w.heap.size + 1 < w2.heap.size := by omega
  have u0 := cell_later hb2 t0
  have u1 := cell_later hb2 t1
  have hr2 := (hb2.block _ hs1).trans hr0
  have hx20 : ∀ j v, ([.int .i64 0, .int .i64 0, .int .u32 5, .int .u32 5, .int .u32 1, .int .i64 4, .bool false, .bool false, .bool false, .string noT, .string txK, .string noT, .string tx1, .int .i64 0, .int .i64 0, .int .u64 1, .int .u32 0, .int .u32 0, .slice none 0 0, .string noT] : List Value)[j]? = some v → w2.cell? ((⟨w1.heap.size, 0, none⟩ : Addr).add j) = some v := fun j v hj => by
    rw [Addr.add_lit, Nat.zero_add]
    exact cell_of_obj he2 (by simpa using hj)
  go_wp2_with (first | (refine wpList_load_at (by rfl) 72 _ (by rfl) ⟨w1.heap.size, 0, none⟩ (by rfl) [.int .i64 0, .int .i64 0, .int .u32 5, .int .u32 5, .int .u32 1, .int .i64 4, .bool false, .bool false, .bool false, .string noT, .string txK, .string noT, .string tx1, .int .i64 0, .int .i64 0, .int .u64 1, .int .u32 0, .int .u32 0, .slice none 0 0, .string noT] _ hx20 Try.underlying72 rfl szEv ?_) | (refine wpList_store_row (by rfl) 41 _ _ (by rfl) w.heap.size #[.int .i64 0, .int .i64 0, .int .i64 0, .slice none 0 0, .int .i64 0, .int .i64 0, .int .u64 0, .slice (some ⟨w2.heap.size, 0, none⟩) 1 1, .slice none 0 0, .slice (some ⟨w2.heap.size + 1, 0, none⟩) 1 1, .slice none 0 0, .int .i64 0, .int .i64 0] (by rfl) (by rfl) 41 Rv.zero.cs.toArray (by rw [(MapKept.heap_alloc _ _).2 _ (by simp; omega), (MapKept.heap_alloc _ _).2 _ (by omega)]; exact hr2) szRe (by rfl) (by simp [Value.oneCell']) ?_))
  obtain ⟨w4, hw4⟩ : ∃ w4, w4 = (w2.alloc (.cells #[.int .i64 0, .int .i64 0, .int .u32 5, .int .u32 5, .int .u32 1, .int .i64 4, .bool false, .bool false, .bool false, .string noT, .string txK, .string noT, .string tx1, .int .i64 0, .int .i64 0, .int .u64 1, .int .u32 0, .int .u32 0, .slice none 0 0, .string noT] 72)).alloc (.cells #[.int .u32 5, .int .u32 1, .int .u32 0, .int .i64 1, .int .u64 2, .int .u32 0, .int .u32 9] 60) := ⟨_, rfl⟩
  have hb4 : Below w2.heap.size w2 w4 := by rw [hw4]; exact Below.al (Below.al (Below.refl _ _) _) _
  have hr4 : w4.heap[w.heap.size]? = some (.cells Rv.zero.cs.toArray 41) := (hb4.block _ (by omega)).trans hr2
  have e4 : w4.heap[w2.heap.size]? = some (.cells #[.int .i64 0, .int .i64 0, .int .u32 5, .int .u32 5, .int .u32 1, .int .i64 4, .bool false, .bool false, .bool false, .string noT, .string txK, .string noT, .string tx1, .int .i64 0, .int .i64 0, .int .u64 1, .int .u32 0, .int .u32 0, .slice none 0 0, .string noT] 72) := by rw [hw4, (MapKept.heap_alloc _ _).2 _ (by simp)]; exact (MapKept.heap_alloc _ _).1
  have c4 : w4.heap[w2.heap.size + 1]? = some (.cells #[.int .u32 5, .int .u32 1, .int .u32 0, .int .i64 1, .int .u64 2, .int .u32 0, .int .u32 9] 60) := by
    rw [hw4]
    have := (MapKept.heap_alloc (w2.alloc (.cells #[.int .i64 0, .int .i64 0, .int .u32 5, .int .u32 5, .int .u32 1, .int .i64 4, .bool false, .bool false, .bool false, .string noT, .string txK, .string noT, .string tx1, .int .i64 0, .int .i64 0, .int .u64 1, .int .u32 0, .int .u32 0, .slice none 0 0, .string noT] 72)) (.cells #[.int .u32 5, .int .u32 1, .int .u32 0, .int .i64 1, .int .u64 2, .int .u32 0, .int .u32 9] 60)).1
    simpa using this
  rw [← hw4]
  have hs4 : w2.heap.size + 1 < w4.heap.size := by rw [hw4]; simp
  clear hw4
  have hsr := setRow_heap w4 w.heap.size Rv.zero.cs.toArray #[.int .i64 0, .int .i64 0, .int .i64 0, .slice none 0 0, .int .i64 0, .int .i64 0, .int .u64 0, .slice (some ⟨w2.heap.size, 0, none⟩) 1 1, .slice none 0 0, .slice (some ⟨w2.heap.size + 1, 0, none⟩) 1 1, .slice none 0 0, .int .i64 0, .int .i64 0] 41 (0, 0) hr4
  have hso : ∀ j, j ≠ w.heap.size → (w4.setRow w.heap.size #[.int .i64 0, .int .i64 0, .int .i64 0, .slice none 0 0, .int .i64 0, .int .i64 0, .int .u64 0, .slice (some ⟨w2.heap.size, 0, none⟩) 1 1, .slice none 0 0, .slice (some ⟨w2.heap.size + 1, 0, none⟩) 1 1, .slice none 0 0, .int .i64 0, .int .i64 0]).heap[j]? = w4.heap[j]? := fun j hj => by
    show (w4.heap.modify w.heap.size _)[j]? = _
    rw [Array.getElem?_modify, if_neg (Ne.symm hj)]
  have hsz : (w4.setRow w.heap.size #[.int .i64 0, .int .i64 0, .int .i64 0, .slice none 0 0, .int .i64 0, .int .i64 0, .int .u64 0, .slice (some ⟨w2.heap.size, 0, none⟩) 1 1, .slice none 0 0, .slice (some ⟨w2.heap.size + 1, 0, none⟩) 1 1, .slice none 0 0, .int .i64 0, .int .i64 0]).heap.size = w4.heap.size := by show (w4.heap.modify w.heap.size _).size = _; simp
  obtain ⟨w5, hw5⟩ : ∃ w5, w5 = w4.setRow w.heap.size #[.int .i64 0, .int .i64 0, .int .i64 0, .slice none 0 0, .int .i64 0, .int .i64 0, .int .u64 0, .slice (some ⟨w2.heap.size, 0, none⟩) 1 1, .slice none 0 0, .slice (some ⟨w2.heap.size + 1, 0, none⟩) 1 1, .slice none 0 0, .int .i64 0, .int .i64 0] := ⟨_, rfl⟩
  have hos : w5.os = w4.os ∧ w5.tape = w4.tape ∧ w5.output = w4.output := by rw [hw5]; exact ⟨rfl, rfl, rfl⟩
  rw [← hw5] at hsr hso hsz ⊢
  clear hw5
  have hbw : Below w.heap.size w w5 := by
    have h1 : Below w.heap.size w w4 := (hb1.trans (hb2.mono hb1.size)).trans (hb4.mono (Nat.le_trans hb1.size hb2.size))
    exact h1.trans ⟨hos.1, hos.2.1, hos.2.2, by omega, fun j hj => hso j (by omega)⟩
  refine bodyPost_ret (v := (⟨0, 0, 0, none, 0, 0, 0, 0, 0, some ⟨w2.heap.size, 0, none⟩, 1, 1, none, 0, 0, some ⟨w2.heap.size + 1, 0, none⟩, 1, 1, none, 0, 0, 0, 0⟩ : Rv).val) (results_cell_row rfl _ _ w.heap.size 41 #[.int .i64 0, .int .i64 0, .int .i64 0, .slice none 0 0, .int .i64 0, .int .i64 0, .int .u64 0, .slice (some ⟨w2.heap.size, 0, none⟩) 1 1, .slice none 0 0, .slice (some ⟨w2.heap.size + 1, 0, none⟩) 1 1, .slice none 0 0, .int .i64 0, .int .i64 0] (0, 0) _ rfl hsr Try.underlying41 rfl (by kernel_rfl)) rfl ⟨⟨⟨0, 0, 0, none, 0, 0, 0, 0, 0, some ⟨w2.heap.size, 0, none⟩, 1, 1, none, 0, 0, some ⟨w2.heap.size + 1, 0, none⟩, 1, 1, none, 0, 0, 0, 0⟩, [ev0], [en0]⟩, rfl, rfl, rfl, ⟨fun i hi => ?_, rfl, fun i hi => ?_, rfl, (show (1 : Nat) ≤ 1048576 by decide), (show (1 : Nat) ≤ 1048576 by decide)⟩, hbw⟩
  · have e0 : i = 0 := by simp at hi; omega
    subst e0
    refine ⟨w2.heap.size, 0, rfl, by omega, fun j v hj => cell_of_obj ((hso _ (by omega)).trans e4) ?_⟩
    have hj' : ([.int .i64 0, .int .i64 0, .int .u32 5, .int .u32 5, .int .u32 1, .int .i64 4, .bool false, .bool false, .bool false, .string noT, .string txK, .string noT, .string tx1, .int .i64 0, .int .i64 0, .int .u64 1, .int .u32 0, .int .u32 0, .slice none 0 0, .string noT] : List Value)[j]? = some v := hj
    simpa using hj'
  · have e0 : i = 0 := by simp at hi; omega
    subst e0
    refine ⟨w2.heap.size + 1, 0, rfl, by omega, fun j v hj => cell_of_obj ((hso _ (by omega)).trans c4) ?_⟩
    have hj' : ([.int .u32 5, .int .u32 1, .int .u32 0, .int .i64 1, .int .u64 2, .int .u32 0, .int .u32 9] : List Value)[j]? = some v := hj
    simpa using hj'
abbrev vr0 : Vr := ⟨txK, 2, 0, 9, false, tx1⟩
theorem chg0 {U : List En} (hU : U.Perm [en0]) : chg [ev0] (U.filter com) ⟨0, 0, 0⟩ ⟨3, 0, 0⟩ = [vr0] := by
  have e : U = [en0] := List.perm_singleton.1 hU
  subst e
  have h1 : laidW (5, 1) [ev0] = [(txK, ⟨txK, false, tx1⟩)] := by simp [laidW, layW, wrt, sameI, putA]
  have h2 : srtW [(txK, ⟨txK, false, tx1⟩)] = [⟨txK, false, tx1⟩] := by simp [srtW, getW, kb]
  have h3 : vers [ev0] en0 = [vr0] := by unfold vers; rw [show en0.id = (5, 1) from rfl, h1, h2]; rfl
  have h4 : belo en0 ⟨3, 0, 0⟩ = true := by simp [belo, lessB]
  have h5 : belo en0 ⟨0, 0, 0⟩ = false := by simp [belo, lessB]
  unfold chg told
  simp [com, h3, h4, h5]
set_option maxRecDepth 100000 in
set_option maxHeartbeats 1000000 in
theorem alive_is (w : World) : Calls Try.prog 4 #[] w fun e w' => e = .returned (.bool true) ∧ Below w.heap.size w w' := by
  have SM := hid (small_is w)
  go_enter Try.func4, Try.ntmps4
  go_wp2_with fail
  refine SM.out.mono ?_
  rintro e w1 ⟨x, rfl, hE, hM, hx, hb1⟩
  have CH : Hid (Calls Try.prog 7 #[x.r.val, smv ⟨0, 0, 0⟩, smv ⟨3, 0, 0⟩] w1 fun e w2 => ∃ g c, e = .returned (.slice (some ⟨g, 0, none⟩) 1 c) ∧ w2.cell? ⟨g, 0, none⟩ = some (.string txK) ∧ w2.cell? ⟨g, 1, none⟩ = some (.int .u64 2) ∧ w2.cell? ⟨g, 2, none⟩ = some (.int .u32 0) ∧ w2.cell? ⟨g, 3, none⟩ = some (.int .u32 9) ∧ w2.cell? ⟨g, 4, none⟩ = some (.bool false) ∧ w2.cell? ⟨g, 5, none⟩ = some (.string tx1) ∧ Below w1.heap.size w1 w2) := by
    refine hid ((changes_is (fr := ⟨0, 0, 0⟩) (tt := ⟨3, 0, 0⟩) hx.ev hx.el hx.co hx.cl hx.eb hx.cb).mono ?_)
    rintro e w2 ⟨a, n, c, U, rfl, HU, HN, HO, HB⟩
    have hc : told x.E ⟨0, 0, 0⟩ ((U.filter com).takeWhile fun e => belo e ⟨3, 0, 0⟩) = [vr0] := by
      have := chg0 (U := U) (by rw [← hM]; exact HU.out.1)
      rw [hE]
      exact this
    have h1 := HN.out
    have h2 := HO.out
    rw [hc] at h1 h2
    have e1 : n = 1 := h1.symm
    subst e1
    obtain ⟨g, ea, _, hcs⟩ := own_cells h2 (by omega)
    subst ea
    exact ⟨g, c, rfl, hcs 0 _ rfl, hcs 1 _ rfl, hcs 2 _ rfl, hcs 3 _ rfl, hcs 4 _ rfl, hcs 5 _ rfl, HB.out⟩
  have HB1 := hid hb1
  have qq : ∀ W, (binOp .eql 47 (.agg #[.string txK, .int .u64 2, .int .u32 0, .int .u32 9, .bool false, .string tx1]) (.agg #[.string txK, .int .u64 2, .int .u32 0, .int .u32 9, .bool false, .string tx1])).run Try.prog W = .ok (.bool true) W := fun W => by simp [go_sem, Try.underlying47]
  clear hE hM hx hb1 SM
  go_wp2_with (go_at_call 7; refine CH.out.mono ?_; rintro e w2 ⟨g, c, rfl, r0, r1, r2, r3, r4, r5, hb2⟩)
  go_ret
  exact ⟨rfl, Below.on HB1.out hb2⟩
end Go.Proofs.Ytiheilkjlapoiaa.Lg
