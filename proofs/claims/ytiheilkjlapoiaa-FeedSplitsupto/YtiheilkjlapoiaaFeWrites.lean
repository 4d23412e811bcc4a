import Derived.Test.YtiheilkjlapoiaaFeRising
import Derived.Test.YtiheilkjlapoiaaFeOps
/- audit.Writes. -/
namespace Go.Proofs.Ytiheilkjlapoiaa.Lg
open Go.RowKit Go.Sort Go.Shelf Go.Lib Lk
set_option linter.unusedVariables false

theorem layW_len (t : Ix) (ps : List (ByteArray × Wr)) (e : Ev) : (layW t ps e).length ≤ ps.length + 1 := by
  unfold layW
  cases wrt e with
  | none => simp
  | some x =>
    simp only
    split
    · unfold putA
      split <;> simp
    · omega
theorem laidW_len (t : Ix) (evs : List Ev) : (laidW t evs).length ≤ evs.length := by
  have : ∀ (evs : List Ev) (ps : List (ByteArray × Wr)), (evs.foldl (layW t) ps).length ≤ ps.length + evs.length := by
    intro evs
    induction evs with
    | nil => intro ps; simp
    | cons e evs ih =>
      intro ps
      have h1 := ih (layW t ps e)
      have h2 := layW_len t ps e
      simp only [List.foldl_cons, List.length_cons]
      omega
  simpa [laidW] using this evs []

set_option maxHeartbeats 2000000 in
set_option maxRecDepth 100000 in
theorem writes_is {a : Option Addr} {n c : Nat} {evs : List Ev} {t : Ix} {w : World} (hr : RowEv w a evs) (hn : evs.length = n) (hlen : n ≤ 1152921504606) :
    Calls Try.prog 13 #[.agg #[.int .i64 0, .int .i64 0, .int .i64 0, .slice none 0 0, .int .i64 0, .int .i64 0, .int .u64 0, .slice a n c, .slice none 0 0, .slice none 0 0, .slice none 0 0, .int .i64 0, .int .i64 0], ixv t] w
      fun e w' => ∃ (a : Option Addr) (n c : Nat), e = .returned (.slice a n c) ∧ Hid ((srtW (laidW t evs)).length = n) ∧ Hid (w'.ownsRow w.heap.size 64 3 (.slice a n c) n ((srtW (laidW t evs)).flatMap wcs)) ∧ Hid (Below w.heap.size w w') := by
  obtain ⟨tc, ts⟩ := t
  have HR := hid hr
  have HN := hid hn
  clear hr hn
  have mk1 : ∀ W, (Instr.makeMap 77 none).run Try.prog W = .ok (.map (some W.heap.size)) (W.alloc (.map #[] 0)) := fun W => run_makeMap _ W
  obtain ⟨wa, hwa⟩ : ∃ wa, wa = (w.alloc (.cells #[.int .i64 0, .int .i64 0, .int .i64 0, .slice none 0 0, .int .i64 0, .int .i64 0, .int .u64 0, .slice a n c, .slice none 0 0, .slice none 0 0, .slice none 0 0, .int .i64 0, .int .i64 0] 41)).alloc (.cells #[.int .u32 tc, .int .u32 ts] 57) := ⟨_, rfl⟩
  obtain ⟨w0, hw0⟩ : ∃ w0, w0 = wa.alloc (.map #[] 0) := ⟨_, rfl⟩
  have hb0 : Below w.heap.size w w0 := by rw [hw0, hwa]; exact Below.al (Below.al (Below.al (Below.refl _ _) _) _) _
  have hr1 : w0.cell? ⟨w.heap.size, 7, none⟩ = some (.slice a n c) := by rw [hw0, hwa]; simp [go_sem]
  have ht1 : w0.cell? ⟨w.heap.size + 1, 0, none⟩ = some (.int .u32 tc) := by rw [hw0, hwa]; simp [go_sem]
  have ht2 : w0.cell? ⟨w.heap.size + 1, 1, none⟩ = some (.int .u32 ts) := by rw [hw0, hwa]; simp [go_sem]
  have hsa : wa.heap.size = w.heap.size + 2 := by rw [hwa]; simp
  have hV0 : MapO Value.string wv w0 (some wa.heap.size) [] := by rw [hw0]; exact ⟨#[], 0, (MapKept.heap_alloc _ _).1, MapKept.stamped_empty 0, by simp, by simp⟩
  have HB0 := hid hb0
  have HV0 := hid hV0
  go_enter Try.func13, Try.ntmps13
  go_wp2_with fail
  rw [← hwa]
  rw [← hw0, show w.heap.size + 1 + 1 = wa.heap.size by rw [hsa]]
  have hlm : wa.heap.size < w0.heap.size := by rw [hw0]; simp
  obtain ⟨mb, hmb⟩ : ∃ mb, mb = wa.heap.size := ⟨_, rfl⟩
  rw [← hmb] at HV0 hsa hlm ⊢
  have HSA := hid hsa
  have HZ : Hid (w0.heap.size ≤ w0.heap.size) := hid (Nat.le_refl _)
  clear hw0 hwa mk1 hb0 hV0 hmb hsa
  go_loopg [14] n (fun g s14 wr => ∃ (i : Nat), i ≤ n ∧ g = n - i ∧ s14 = .int .i64 i ∧ Hid (MapO Value.string wv wr (some mb) (laidW (tc, ts) (evs.take i))) ∧ Hid (Onl (fun b => mb = b) w0 wr))
  case atStart => exact ⟨0, by omega, by omega, rfl, HV0, Onl.refl _ _⟩
  case round =>
    obtain ⟨i, hi, rfl, rfl, HV, HO⟩ := hrel
    have HBr : Hid (Below w.heap.size w wr) := hid (HB0.out.trans (HO.out.below (B := w.heap.size) (fun b hb => by have := HSA.out; omega) HB0.out.size))
    by_cases hlt : i < n
    · obtain ⟨b, off, ea, hbl, hcs⟩ := HR.out.later HBr.out i (by have := HN.out; omega)
      obtain ⟨x, hx⟩ : ∃ x, x = nthV evs i := ⟨_, rfl⟩
      rw [← hx] at hcs
      have HT : Hid (laidW (tc, ts) (evs.take (i + 1)) = layW (tc, ts) (laidW (tc, ts) (evs.take i)) x) := hid (by rw [nthV_take evs i (by have := HN.out; omega), laidW_snoc, hx])
      subst ea
      have hx20 : ∀ j v, ([.int .i64 x.asked, .int .i64 x.answered, .int .u32 x.client, .int .u32 x.id.1, .int .u32 x.id.2, .int .i64 x.kind, .bool x.ro, .bool x.asof, .bool x.back, .string x.tok, .string x.key, .string x.hi, .string x.val, .int .i64 x.lim, .int .i64 x.st, .int .u64 x.aw, .int .u32 x.al, .int .u32 x.an, .slice x.pa x.pn x.pc, .string x.tk] : List Value)[j]? = some v → wr.cell? ((⟨b, off + i * 20, none⟩ : Addr).add j) = some v := fun j v hj => by rw [Addr.add_lit]; exact hcs j v hj
      clear hcs hx
      obtain ⟨wx, hwx⟩ : ∃ wx, wx = wr.alloc (.cells #[.int .i64 x.asked, .int .i64 x.answered, .int .u32 x.client, .int .u32 x.id.1, .int .u32 x.id.2, .int .i64 x.kind, .bool x.ro, .bool x.asof, .bool x.back, .string x.tok, .string x.key, .string x.hi, .string x.val, .int .i64 x.lim, .int .i64 x.st, .int .u64 x.aw, .int .u32 x.al, .int .u32 x.an, .slice x.pa x.pn x.pc, .string x.tk] 72) := ⟨_, rfl⟩
      have hkx : wx.heap[wr.heap.size]? = some (.cells #[.int .i64 x.asked, .int .i64 x.answered, .int .u32 x.client, .int .u32 x.id.1, .int .u32 x.id.2, .int .i64 x.kind, .bool x.ro, .bool x.asof, .bool x.back, .string x.tok, .string x.key, .string x.hi, .string x.val, .int .i64 x.lim, .int .i64 x.st, .int .u64 x.aw, .int .u32 x.al, .int .u32 x.an, .slice x.pa x.pn x.pc, .string x.tk] 72) := by rw [hwx]; exact World.alloc_heap_new _ _
      have y3 : wx.cell? ⟨wr.heap.size, 3, none⟩ = some (.int .u32 x.id.1) := cell_of_obj hkx rfl
      have y4 : wx.cell? ⟨wr.heap.size, 4, none⟩ = some (.int .u32 x.id.2) := cell_of_obj hkx rfl
      have hy18 : ∀ j v, ([.int .u32 x.client, .int .u32 x.id.1, .int .u32 x.id.2, .int .i64 x.kind, .bool x.ro, .bool x.asof, .bool x.back, .string x.tok, .string x.key, .string x.hi, .string x.val, .int .i64 x.lim, .int .i64 x.st, .int .u64 x.aw, .int .u32 x.al, .int .u32 x.an, .slice x.pa x.pn x.pc, .string x.tk] : List Value)[j]? = some v → wx.cell? ((⟨wr.heap.size, 2, none⟩ : Addr).add j) = some v := fun j v hj => by
        rw [Addr.add_lit]
        exact cell_of_obj hkx (by rw [Nat.add_comm, ← hj]; simp)
      have hbx : Below wr.heap.size wr wx := by rw [hwx]; exact Below.al (Below.refl _ _) _
      have hlx : wr.heap.size < wx.heap.size := by rw [hwx]; simp
      have HBX := hid hbx
      have hmr : mb < wr.heap.size := Nat.lt_of_lt_of_le hlm HO.out.size
      have t0 := cell_later hbx (HO.out.cell (by have := HSA.out; show ¬ mb = _; omega) ht1)
      have t1 := cell_later hbx (HO.out.cell (by have := HSA.out; show ¬ mb = _; omega) ht2)
      have WR := hid (fun W => written_is x W)
      obtain ⟨u, hu⟩ : ∃ u, u = (wrt x).getD Wr.zero := ⟨_, rfl⟩
      obtain ⟨is, his⟩ : ∃ is, is = (wrt x).isSome := ⟨_, rfl⟩
      rw [← hu, ← his] at WR
      obtain ⟨s, hs⟩ : ∃ s, s = sameI x.id (tc, ts) := ⟨_, rfl⟩
      have qq : ∀ W, (binOp .eql 57 (.agg #[.int .u32 x.id.1, .int .u32 x.id.2]) (.agg #[.int .u32 tc, .int .u32 ts])).run Try.prog W = .ok (.bool s) W := fun W => by rw [hs]; exact run_eqI x.id (tc, ts) W
      have HL : Hid (((is && s) = false → layW (tc, ts) (laidW (tc, ts) (evs.take i)) x = laidW (tc, ts) (evs.take i)) ∧ ((is && s) = true → layW (tc, ts) (laidW (tc, ts) (evs.take i)) x = putA (laidW (tc, ts) (evs.take i)) u.key u)) := by
        have hg := layW_if (tc, ts) (laidW (tc, ts) (evs.take i)) x
        rw [← hu, ← his, ← hs] at hg
        exact hid ⟨fun k => by rw [hg, if_neg (by rw [k]; decide)], fun k => by rw [hg, if_pos k]⟩
      clear hbx hkx hu his hs
      cases is with
      | false =>
        go_upto_region 5 with (first | (refine wpList_load_at (by rfl) 72 _ (by rfl) ⟨b, off + i * 20, none⟩ (by rfl) [.int .i64 x.asked, .int .i64 x.answered, .int .u32 x.client, .int .u32 x.id.1, .int .u32 x.id.2, .int .i64 x.kind, .bool x.ro, .bool x.asof, .bool x.back, .string x.tok, .string x.key, .string x.hi, .string x.val, .int .i64 x.lim, .int .i64 x.st, .int .u64 x.aw, .int .u32 x.al, .int .u32 x.an, .slice x.pa x.pn x.pc, .string x.tk] _ hx20 Try.underlying72 rfl szEv ?_) | (refine wpList_store_new (by rfl) 72 _ _ (by rfl) #[.int .i64 x.asked, .int .i64 x.answered, .int .u32 x.client, .int .u32 x.id.1, .int .u32 x.id.2, .int .i64 x.kind, .bool x.ro, .bool x.asof, .bool x.back, .string x.tok, .string x.key, .string x.hi, .string x.val, .int .i64 x.lim, .int .i64 x.st, .int .u64 x.aw, .int .u32 x.al, .int .u32 x.an, .slice x.pa x.pn x.pc, .string x.tk] _ 72 (by rfl) (by rfl) szEv (by rfl) (ev_all x) ?_))
        rw [← hwx]
        clear hwx
        go_upto_region 6 with (first | (refine wpList_load_at (by rfl) 70 _ (by rfl) ⟨wr.heap.size, 2, none⟩ (by rfl) [.int .u32 x.client, .int .u32 x.id.1, .int .u32 x.id.2, .int .i64 x.kind, .bool x.ro, .bool x.asof, .bool x.back, .string x.tok, .string x.key, .string x.hi, .string x.val, .int .i64 x.lim, .int .i64 x.st, .int .u64 x.aw, .int .u32 x.al, .int .u32 x.an, .slice x.pa x.pn x.pc, .string x.tk] _ hy18 Try.underlying70 rfl szAn ?_) | (go_at_call 18; refine (WR.out _).mono ?_; rintro e w2 ⟨rfl, hb2⟩))
        have z3 := cell_later hb2 y3; have z4 := cell_later hb2 y4
        have t0' := cell_later hb2 t0; have t1' := cell_later hb2 t1
        have HB2 := hid (Below.on HBX.out hb2)
        clear y3 y4 hy18 hx20 t0 t1 WR hb2
        obtain ⟨w3, hw3⟩ : ∃ w3, w3 = w2.alloc (.cells #[.string u.key, .bool u.del, .string u.val] 64) := ⟨_, rfl⟩
        have hb3 : Below w2.heap.size w2 w3 := by rw [hw3]; exact Below.al (Below.refl _ _) _
        have hk3 : w3.heap[w2.heap.size]? = some (.cells #[.string u.key, .bool u.del, .string u.val] 64) := by rw [hw3]; exact World.alloc_heap_new _ _
        have u0 : w3.cell? ⟨w2.heap.size, 0, none⟩ = some (.string u.key) := cell_of_obj hk3 rfl
        have u1 : w3.cell? ⟨w2.heap.size, 1, none⟩ = some (.bool u.del) := cell_of_obj hk3 rfl
        have u2 : w3.cell? ⟨w2.heap.size, 2, none⟩ = some (.string u.val) := cell_of_obj hk3 rfl
        have v3 := cell_later hb3 z3; have v4 := cell_later hb3 z4
        have r0 := cell_later hb3 t0'; have r1 := cell_later hb3 t1'
        have HV3 : Hid (MapO Value.string wv w3 (some mb) (laidW (tc, ts) (evs.take i))) := hid (HV.out.later (Below.on HB2.out hb3))
        have HO3 : Hid (Onl (fun b => mb = b) w0 w3) := hid (HO.out.on (Below.on HB2.out hb3))
        have hm2 : mb ≠ w2.heap.size := by have := HB2.out.size; omega
        rw [← hw3]
        clear hk3 hb3 hw3 z3 z4 t0' t1'
        have HE : Hid (laidW (tc, ts) (evs.take (i + 1)) = laidW (tc, ts) (evs.take i)) := hid (HT.out.trans (HL.out.1 rfl))
        go_wp2_with fail
        go_roundg (n - (i + 1))
        case measure => omega
        case rel => exact ⟨i + 1, by omega, rfl, by go_num, hid (by rw [HE.out]; exact HV3.out), HO3⟩
      | true =>
        cases s with
        | false =>
          go_upto_region 5 with (first | (refine wpList_load_at (by rfl) 72 _ (by rfl) ⟨b, off + i * 20, none⟩ (by rfl) [.int .i64 x.asked, .int .i64 x.answered, .int .u32 x.client, .int .u32 x.id.1, .int .u32 x.id.2, .int .i64 x.kind, .bool x.ro, .bool x.asof, .bool x.back, .string x.tok, .string x.key, .string x.hi, .string x.val, .int .i64 x.lim, .int .i64 x.st, .int .u64 x.aw, .int .u32 x.al, .int .u32 x.an, .slice x.pa x.pn x.pc, .string x.tk] _ hx20 Try.underlying72 rfl szEv ?_) | (refine wpList_store_new (by rfl) 72 _ _ (by rfl) #[.int .i64 x.asked, .int .i64 x.answered, .int .u32 x.client, .int .u32 x.id.1, .int .u32 x.id.2, .int .i64 x.kind, .bool x.ro, .bool x.asof, .bool x.back, .string x.tok, .string x.key, .string x.hi, .string x.val, .int .i64 x.lim, .int .i64 x.st, .int .u64 x.aw, .int .u32 x.al, .int .u32 x.an, .slice x.pa x.pn x.pc, .string x.tk] _ 72 (by rfl) (by rfl) szEv (by rfl) (ev_all x) ?_))
          rw [← hwx]
          clear hwx
          go_upto_region 6 with (first | (refine wpList_load_at (by rfl) 70 _ (by rfl) ⟨wr.heap.size, 2, none⟩ (by rfl) [.int .u32 x.client, .int .u32 x.id.1, .int .u32 x.id.2, .int .i64 x.kind, .bool x.ro, .bool x.asof, .bool x.back, .string x.tok, .string x.key, .string x.hi, .string x.val, .int .i64 x.lim, .int .i64 x.st, .int .u64 x.aw, .int .u32 x.al, .int .u32 x.an, .slice x.pa x.pn x.pc, .string x.tk] _ hy18 Try.underlying70 rfl szAn ?_) | (go_at_call 18; refine (WR.out _).mono ?_; rintro e w2 ⟨rfl, hb2⟩))
          have z3 := cell_later hb2 y3; have z4 := cell_later hb2 y4
          have t0' := cell_later hb2 t0; have t1' := cell_later hb2 t1
          have HB2 := hid (Below.on HBX.out hb2)
          clear y3 y4 hy18 hx20 t0 t1 WR hb2
          obtain ⟨w3, hw3⟩ : ∃ w3, w3 = w2.alloc (.cells #[.string u.key, .bool u.del, .string u.val] 64) := ⟨_, rfl⟩
          have hb3 : Below w2.heap.size w2 w3 := by rw [hw3]; exact Below.al (Below.refl _ _) _
          have hk3 : w3.heap[w2.heap.size]? = some (.cells #[.string u.key, .bool u.del, .string u.val] 64) := by rw [hw3]; exact World.alloc_heap_new _ _
          have u0 : w3.cell? ⟨w2.heap.size, 0, none⟩ = some (.string u.key) := cell_of_obj hk3 rfl
          have u1 : w3.cell? ⟨w2.heap.size, 1, none⟩ = some (.bool u.del) := cell_of_obj hk3 rfl
          have u2 : w3.cell? ⟨w2.heap.size, 2, none⟩ = some (.string u.val) := cell_of_obj hk3 rfl
          have v3 := cell_later hb3 z3; have v4 := cell_later hb3 z4
          have r0 := cell_later hb3 t0'; have r1 := cell_later hb3 t1'
          have HV3 : Hid (MapO Value.string wv w3 (some mb) (laidW (tc, ts) (evs.take i))) := hid (HV.out.later (Below.on HB2.out hb3))
          have HO3 : Hid (Onl (fun b => mb = b) w0 w3) := hid (HO.out.on (Below.on HB2.out hb3))
          have hm2 : mb ≠ w2.heap.size := by have := HB2.out.size; omega
          rw [← hw3]
          clear hk3 hb3 hw3 z3 z4 t0' t1'
          have HE : Hid (laidW (tc, ts) (evs.take (i + 1)) = laidW (tc, ts) (evs.take i)) := hid (HT.out.trans (HL.out.1 rfl))
          go_wp2_with fail
          go_roundg (n - (i + 1))
          case measure => omega
          case rel => exact ⟨i + 1, by omega, rfl, by go_num, hid (by rw [HE.out]; exact HV3.out), HO3⟩
        | true =>
          go_upto_region 5 with (first | (refine wpList_load_at (by rfl) 72 _ (by rfl) ⟨b, off + i * 20, none⟩ (by rfl) [.int .i64 x.asked, .int .i64 x.answered, .int .u32 x.client, .int .u32 x.id.1, .int .u32 x.id.2, .int .i64 x.kind, .bool x.ro, .bool x.asof, .bool x.back, .string x.tok, .string x.key, .string x.hi, .string x.val, .int .i64 x.lim, .int .i64 x.st, .int .u64 x.aw, .int .u32 x.al, .int .u32 x.an, .slice x.pa x.pn x.pc, .string x.tk] _ hx20 Try.underlying72 rfl szEv ?_) | (refine wpList_store_new (by rfl) 72 _ _ (by rfl) #[.int .i64 x.asked, .int .i64 x.answered, .int .u32 x.client, .int .u32 x.id.1, .int .u32 x.id.2, .int .i64 x.kind, .bool x.ro, .bool x.asof, .bool x.back, .string x.tok, .string x.key, .string x.hi, .string x.val, .int .i64 x.lim, .int .i64 x.st, .int .u64 x.aw, .int .u32 x.al, .int .u32 x.an, .slice x.pa x.pn x.pc, .string x.tk] _ 72 (by rfl) (by rfl) szEv (by rfl) (ev_all x) ?_))
          rw [← hwx]
          clear hwx
          go_upto_region 6 with (first | (refine wpList_load_at (by rfl) 70 _ (by rfl) ⟨wr.heap.size, 2, none⟩ (by rfl) [.int .u32 x.client, .int .u32 x.id.1, .int .u32 x.id.2, .int .i64 x.kind, .bool x.ro, .bool x.asof, .bool x.back, .string x.tok, .string x.key, .string x.hi, .string x.val, .int .i64 x.lim, .int .i64 x.st, .int .u64 x.aw, .int .u32 x.al, .int .u32 x.an, .slice x.pa x.pn x.pc, .string x.tk] _ hy18 Try.underlying70 rfl szAn ?_) | (go_at_call 18; refine (WR.out _).mono ?_; rintro e w2 ⟨rfl, hb2⟩))
          have z3 := cell_later hb2 y3; have z4 := cell_later hb2 y4
          have t0' := cell_later hb2 t0; have t1' := cell_later hb2 t1
          have HB2 := hid (Below.on HBX.out hb2)
          clear y3 y4 hy18 hx20 t0 t1 WR hb2
          obtain ⟨w3, hw3⟩ : ∃ w3, w3 = w2.alloc (.cells #[.string u.key, .bool u.del, .string u.val] 64) := ⟨_, rfl⟩
          have hb3 : Below w2.heap.size w2 w3 := by rw [hw3]; exact Below.al (Below.refl _ _) _
          have hk3 : w3.heap[w2.heap.size]? = some (.cells #[.string u.key, .bool u.del, .string u.val] 64) := by rw [hw3]; exact World.alloc_heap_new _ _
          have u0 : w3.cell? ⟨w2.heap.size, 0, none⟩ = some (.string u.key) := cell_of_obj hk3 rfl
          have u1 : w3.cell? ⟨w2.heap.size, 1, none⟩ = some (.bool u.del) := cell_of_obj hk3 rfl
          have u2 : w3.cell? ⟨w2.heap.size, 2, none⟩ = some (.string u.val) := cell_of_obj hk3 rfl
          have v3 := cell_later hb3 z3; have v4 := cell_later hb3 z4
          have r0 := cell_later hb3 t0'; have r1 := cell_later hb3 t1'
          have HV3 : Hid (MapO Value.string wv w3 (some mb) (laidW (tc, ts) (evs.take i))) := hid (HV.out.later (Below.on HB2.out hb3))
          have HO3 : Hid (Onl (fun b => mb = b) w0 w3) := hid (HO.out.on (Below.on HB2.out hb3))
          have hm2 : mb ≠ w2.heap.size := by have := HB2.out.size; omega
          rw [← hw3]
          clear hk3 hb3 hw3 z3 z4 t0' t1'
          have HE : Hid (laidW (tc, ts) (evs.take (i + 1)) = putA (laidW (tc, ts) (evs.take i)) u.key u) := hid (HT.out.trans (HL.out.2 rfl))
          obtain ⟨w6, hput, hm6, ho6, _⟩ := HV3.out.put (P := Try.prog) keysS Try.underlying77 u.key u
          simp only [wv] at hput
          have ho6' : Onl (fun c => mb = c) w3 w6 := ho6
          have HM6 := hid hm6
          have HO6 : Hid (Onl (fun b => mb = b) w0 w6) := hid (HO3.out.trans ho6')
          clear hm6 ho6
          go_wp2_with fail
          go_roundg (n - (i + 1))
          case measure => omega
          case rel => exact ⟨i + 1, by omega, rfl, by go_num, hid (by rw [HE.out]; exact HM6.out), HO6⟩
    · obtain rfl : i = n := by omega
      have HE : Hid (evs.take i = evs) := hid (List.take_of_length_le (by have := HN.out; omega))
      have hV := HV.out
      rw [HE.out] at hV
      have RI := hid (rising_is hV (by have := laidW_len (tc, ts) evs; have := HN.out; omega))
      clear hV
      go_wp2_with fail
      refine RI.out.mono ?_
      rintro e w5 ⟨a5, n5, c5, rfl, h1, h2, h3⟩
      have HF : Hid (w5.ownsRow w.heap.size 64 3 (.slice a5 n5 c5) n5 ((srtW (laidW (tc, ts) evs)).flatMap wcs)) := hid (owns_base h2.out HBr.out.size)
      have HFB : Hid (Below w.heap.size w w5) := hid (Below.on HBr.out h3.out)
      clear h2 h3
      go_wp2_with fail
      go_ret
      exact ⟨a5, n5, c5, rfl, h1, HF, HFB⟩
end Go.Proofs.Ytiheilkjlapoiaa.Lg
