import Derived.Test.YtogjhpknlopajaaXSortedP
import Derived.Test.YtogjhpknlopajaaXFirstLaw
/- LedgerSorted. -/
namespace Go.Proofs.Ytogjhpknlopajaa.Lg
open Go.RowKit Go.Sort Go.Shelf Go.Lib Lk
set_option linter.unusedVariables false

abbrev oneH (home : Int) : En := ⟨(3, 1048576), home, 1, 5, 0, 0⟩
/-- a Decide on a ledger whose map is new writes the ledger's block alone -/
theorem dec_onl {w w' a : World} {p : Nat} {m : Option Nat} (h : Onl (fun b => b = p) a w) (hm : ∀ b, m = some b → a.heap.size ≤ b) (ho : Onl (ItsL p m) w w') : Onl (fun b => b = p) a w' :=
  h.fresh ho (fun i hi => by
    rcases hi with e | e
    · exact .inl e
    · exact .inr (hm i e))
theorem dec_new {w a : World} {m m' : Option Nat} (hs : a.heap.size ≤ w.heap.size) (hm : ∀ b, m = some b → a.heap.size ≤ b) (h : m' = m ∨ ∃ b, m' = some b ∧ w.heap.size ≤ b) : ∀ b, m' = some b → a.heap.size ≤ b := fun b e => by
  rcases h with h | ⟨b2, h, hle⟩
  · exact hm b (by rw [← h, e])
  · rw [e] at h
    injection h with h
    subst h
    omega
set_option maxRecDepth 100000 in
set_option maxHeartbeats 8000000 in
theorem sorted_law {W : World} {a : Option Addr} {n c : Nat} {xs : List En} {home : Int} (hrow : RowC En.zero ecs 7 W a xs) (hn : xs.length = n) (hl : n ≤ 3518437208780) :
    Calls Try.prog 5 #[.agg #[.slice a n c, .int .u32 home]] W fun r w' => r = .returned (.bool true) ∧ Below W.heap.size W w' := by
  have HR := hid hrow
  have HLN := hid hn
  obtain ⟨W0, hW0⟩ : ∃ W0, W0 = W.alloc (.cells #[.slice a n c, .int .u32 home] 52) := ⟨_, rfl⟩
  have hs0 : W0.heap.size = W.heap.size + 1 := by rw [hW0]; simp
  have hb0 : Below W.heap.size W W0 := by rw [hW0]; exact Below.al (Below.refl _ _) _
  have hk0 : W0.heap[W.heap.size]? = some (.cells #[.slice a n c, .int .u32 home] 52) := by rw [hW0]; exact (MapKept.heap_alloc _ _).1
  have NEW := hid (new_is W0)
  have HB0 := hid hb0
  have HK0 := hid hk0
  clear hrow hn hb0 hk0
  go_enter Try.func5, Try.ntmps5
  go_wp2_with fail
  rw [← hW0]
  clear hW0
  refine NEW.out.mono ?_
  rintro r w1 ⟨rfl, hL1, hb1⟩
  obtain ⟨p, hp⟩ : ∃ p, p = W0.heap.size := ⟨_, rfl⟩
  rw [← hp] at hL1 ⊢
  have hk1 := (hb1.block _ (by omega)).trans HK0.out
  have hWp : W.heap.size < p := by omega
  have hp1' : p < w1.heap.size := hL1.lt
  clear hp hs0
  have d1 : w1.cell? ⟨W.heap.size, 1, none⟩ = some (.int .u32 home) := cell_of_obj hk1 rfl
  obtain ⟨w2, hw2⟩ : ∃ w2, w2 = w1.alloc (.cells #[.int .u32 3, .int .u32 1048576, .int .u32 home, .int .i64 1, .int .u64 5, .int .u32 0, .int .u32 0] 33) := ⟨_, rfl⟩
  have hs2 : w1.heap.size < w2.heap.size := by rw [hw2]; simp
  have hb2 : Below w1.heap.size w1 w2 := by rw [hw2]; exact Below.al (Below.refl _ _) _
  have hk2 : w2.heap[w1.heap.size]? = some (.cells #[.int .u32 3, .int .u32 1048576, .int .u32 home, .int .i64 1, .int .u64 5, .int .u32 0, .int .u32 0] 33) := by rw [hw2]; exact (MapKept.heap_alloc _ _).1
  have HL2 := hid (hL1.later hb2)
  have HB2 : Hid (Below W.heap.size W w2) := Below.on (Below.on HB0.out hb1) hb2
  have HK2 := hid hk2
  have HA2 := hid ((hb2.block _ (by omega)).trans hk1)
  have DEC : Hid (Calls Try.prog 10 #[.pointer (some ⟨p, 0, none⟩), .agg #[.int .u32 3, .int .u32 1048576, .int .u32 home, .int .i64 1, .int .u64 5, .int .u32 0, .int .u32 0]] w2 fun r w' => ∃ (m : Option Nat) (v : Value), r = .returned v ∧ Hid (Lg w' p m (ledL [oneH home])) ∧ Hid (∀ b, m = some b → w2.heap.size ≤ b) ∧ Hid (Onl (fun b => b = p) w2 w')) :=
    (decide_is HL2.out (oneH home)).mono fun r w' ⟨m', f, x, h1, h2, h3, h4, h5, h6⟩ => ⟨m', _, h1, h4, dec_new (m := none) (Nat.le_refl _) (fun b e => by cases e) h5.out, dec_onl (m := none) (Onl.refl _ _) (fun b e => by cases e) h6.out⟩
  clear hL1 hb1 hb2 hk1 hk2
  go_wp2_with fail
  rw [← hw2]
  clear hw2 d1
  refine DEC.out.mono ?_
  rintro r w3 ⟨m3, v3, rfl, HL3, HM3, HO3⟩
  have hpW : W.heap.size ≠ p := by omega
  have hp1 : w1.heap.size ≠ p := by omega
  have e0 : w3.cell? ⟨W.heap.size, 0, none⟩ = some (.slice a n c) := HO3.out.cell hpW (cell_of_obj HA2.out rfl)
  clear DEC
  go_wp2_with fail
  clear e0
  go_loopg [33] n (fun g s33 wr => ∃ (k : Nat) (m : Option Nat), k ≤ n ∧ g = n - k ∧ s33 = .int .i64 k ∧ Hid (Lg wr p m (ledL (oneH home :: xs.take k))) ∧ Hid (∀ b, m = some b → w2.heap.size ≤ b) ∧ Hid (Onl (fun b => b = p) w2 wr))
  case atStart => exact ⟨0, m3, by omega, by omega, rfl, hid (by simpa using HL3.out), HM3, HO3⟩
  case round =>
    obtain ⟨k, m, hk, rfl, rfl, HL, HM, HO⟩ := hrel
    have HBr : Hid (Below W.heap.size W wr) := HB2.out.trans (HO.out.below (B := W.heap.size) (fun i hi => by omega) HB2.out.size)
    by_cases hlt : k < n
    · obtain ⟨b, off, eb, hc⟩ := RowC.later HR.out HBr.out k (by rw [HLN.out]; exact hlt)
      have hk1 : (k : Int) < (n : Int) := by omega
      obtain ⟨y, hye⟩ : ∃ y, y = nthE xs k := ⟨_, rfl⟩
      have hye' : (xs[k]?).getD En.zero = y := hye.symm
      rw [hye'] at hc
      subst eb
      have g0 : wr.cell? ⟨b, off + k * 7, none⟩ = some (.int .u32 y.id.1) := hc 0 _ rfl
      have g1 : wr.cell? ⟨b, off + k * 7 + 1, none⟩ = some (.int .u32 y.id.2) := hc 1 _ rfl
      have g2 : wr.cell? ⟨b, off + k * 7 + 2, none⟩ = some (.int .u32 y.home) := hc 2 _ rfl
      have g3 : wr.cell? ⟨b, off + k * 7 + 3, none⟩ = some (.int .i64 y.oc) := hc 3 _ rfl
      have g4 : wr.cell? ⟨b, off + k * 7 + 4, none⟩ = some (.int .u64 y.w) := hc 4 _ rfl
      have g5 : wr.cell? ⟨b, off + k * 7 + 5, none⟩ = some (.int .u32 y.l) := hc 5 _ rfl
      have g6 : wr.cell? ⟨b, off + k * 7 + 6, none⟩ = some (.int .u32 y.n) := hc 6 _ rfl
      have DEC : Hid (Calls Try.prog 10 #[.pointer (some ⟨p, 0, none⟩), .agg #[.int .u32 y.id.1, .int .u32 y.id.2, .int .u32 y.home, .int .i64 y.oc, .int .u64 y.w, .int .u32 y.l, .int .u32 y.n]] wr fun r w' => ∃ (m' : Option Nat) (v : Value), r = .returned v ∧ Hid (Lg w' p m' (ledL (oneH home :: xs.take (k + 1)))) ∧ Hid (∀ b, m' = some b → w2.heap.size ≤ b) ∧ Hid (Onl (fun b => b = p) w2 w')) :=
        (decide_is HL.out y).mono fun r w' ⟨m', f, x, h1, h2, h3, h4, h5, h6⟩ => ⟨m', _, h1, by
          have e : ledL (oneH home :: xs.take (k + 1)) = decM (ledL (oneH home :: xs.take k)) y := by
            rw [nthE_take (by rw [HLN.out]; exact hlt), ← List.cons_append, ledL_snoc, hye]
          rw [e]; exact h4, dec_new HO.out.size HM.out h5.out, dec_onl HO.out HM.out h6.out⟩
      clear hc hye hye'
      go_wp2_with fail
      refine DEC.out.mono ?_
      rintro r w4 ⟨m4, v4, rfl, HL4, HM4, HO4⟩
      clear DEC g0 g1 g2 g3 g4 g5 g6
      go_wp2_with fail
      go_roundg (n - (k + 1))
      case measure => omega
      case rel => exact ⟨k + 1, m4, by omega, rfl, by go_num, HL4, HM4, HO4⟩
    · obtain rfl : k = n := by omega
      rename World => w4
      obtain ⟨M, hM⟩ : ∃ M, M = ledL (oneH home :: xs) := ⟨_, rfl⟩
      have HL4 : Hid (Lg w4 p m M) := by
        have := HL.out
        rw [← HLN.out, List.take_length, ← hM] at this
        exact this
      have hlenM : M.length ≤ k + 1 := by rw [hM, ← HLN.out]; exact ledL_length _
      have hndM : (M.map En.id).Nodup := by rw [hM]; exact ledL_nodup _
      have honeM : oneH home ∈ M := by rw [hM]; exact led_first _ _ rfl
      have HND := hid hndM
      have HON := hid honeM
      have HLM := hid hlenM
      have ENT := hid (entries_is HL4.out (by omega))
      have HA4 : Hid (w4.heap[W.heap.size]? = some (.cells #[.slice a k c, .int .u32 home] 52)) := (HO.out.block _ (by omega) hpW).trans HA2.out
      have HK4 : Hid (w4.heap[w1.heap.size]? = some (.cells #[.int .u32 3, .int .u32 1048576, .int .u32 home, .int .i64 1, .int .u64 5, .int .u32 0, .int .u32 0] 33)) := (HO.out.block _ (by omega) hp1).trans HK2.out
      have hsz4 : w2.heap.size ≤ w4.heap.size := HO.out.size
      clear hM hlenM hndM honeM HL HL2 HL3 HM3 HO3 HM
      go_wp2_with fail
      refine ENT.out.mono ?_
      rintro r w5 ⟨a1, n1, c1, U, rfl, HU1, HU2, HU3, HU4, HB5⟩
      have d5 : w5.cell? ⟨W.heap.size, 1, none⟩ = some (.int .u32 home) := cell_later HB5.out (cell_of_obj HA4.out rfl)
      have COM := hid (commits_is (HL4.out.later HB5.out) (by have := HLM.out; omega) home)
      clear ENT
      go_wp2_with fail
      refine COM.out.mono ?_
      rintro r w6 ⟨a2, n2, c2, C, rfl, HC1, HC2, HC3, HC4, HB6⟩
      have HB46 : Hid (Below w4.heap.size w4 w6) := Below.on HB5.out HB6.out
      have hn1M : n1 = M.length := by rw [← HU1.out, HU3.out.length_eq]
      have hn1 : n1 ≤ 3518437208781 := by have := HLM.out; omega
      have hn2 : n2 ≤ 3518437208781 := by
        have e1 := HC3.out.length_eq
        have e2 := List.length_filter_le (comB home) M
        have e3 := HC1.out
        omega
      have ndU : (U.map En.id).Nodup := ids_nodup HU3.out HND.out
      have ndC : (C.map En.id).Nodup := by
        refine ids_nodup HC3.out ?_
        exact HND.out.sublist (List.Sublist.map _ List.filter_sublist)
      have RU : Hid (∀ W', Below w6.heap.size w6 W' → RowC En.zero ecs 7 W' a1 U) := fun W' hb => RowC.later (own_row HU2.out HU1.out) (Below.on HB6.out hb)
      have RC : Hid (∀ W', Below w6.heap.size w6 W' → RowC En.zero ecs 7 W' a2 C) := fun W' hb => RowC.later (own_row HC2.out HC1.out) hb
      have SO : Hid (∀ W', Below w6.heap.size w6 W' → Calls Try.prog 21 #[.slice a1 n1 c1] W' fun r w' => r = .returned (.bool true) ∧ Below W'.heap.size W' w') := fun W' hb => sorted_is (RU.out W' hb) HU1.out (by omega) (by rw [← HU1.out]; exact rise_ids ndU HU4.out)
      have ST : Hid (∀ W', Below w6.heap.size w6 W' → Calls Try.prog 22 #[.slice a2 n2 c2] W' fun r w' => r = .returned (.bool true) ∧ Below W'.heap.size W' w') := fun W' hb => stamped_is (RC.out W' hb) HC1.out (by omega) (by rw [← HC1.out]; exact rise_stamps ndC HC4.out)
      have LE : Hid (∀ W', Below w6.heap.size w6 W' → Calls Try.prog 23 #[.pointer (some ⟨p, 0, none⟩)] W' fun r w' => r = .returned (.int .i64 n1) ∧ w' = W') := fun W' hb => by
        have := len_is (HL4.out.later (Below.on HB46.out hb))
        rw [← hn1M] at this
        exact this
      have CU : Hid (∀ (e : En), e ∈ M → ∀ W', Below w6.heap.size w6 W' → Calls Try.prog 24 #[.slice a1 n1 c1, .agg #[.int .u32 e.id.1, .int .u32 e.id.2, .int .u32 e.home, .int .i64 e.oc, .int .u64 e.w, .int .u32 e.l, .int .u32 e.n]] W' fun r w' => r = .returned (.int .i64 (1 : Nat)) ∧ Below W'.heap.size W' w') := fun e he W' hb =>
        count_is (RU.out W' hb) HU1.out (by omega) (cnt_one (map_nodup ndU) (HU3.out.mem_iff.2 he))
      have CC : Hid (∀ (e : En), e ∈ M → comB home e = true → ∀ W', Below w6.heap.size w6 W' → Calls Try.prog 24 #[.slice a2 n2 c2, .agg #[.int .u32 e.id.1, .int .u32 e.id.2, .int .u32 e.home, .int .i64 e.oc, .int .u64 e.w, .int .u32 e.l, .int .u32 e.n]] W' fun r w' => r = .returned (.int .i64 (1 : Nat)) ∧ Below W'.heap.size W' w') := fun e he hcm W' hb =>
        count_is (RC.out W' hb) HC1.out (by omega) (cnt_one (map_nodup ndC) (HC3.out.mem_iff.2 (List.mem_filter.2 ⟨he, hcm⟩)))
      have C1 : Hid (∀ W', Below w6.heap.size w6 W' → Calls Try.prog 24 #[.slice a1 n1 c1, .agg #[.int .u32 3, .int .u32 1048576, .int .u32 home, .int .i64 1, .int .u64 5, .int .u32 0, .int .u32 0]] W' fun r w' => r = .returned (.int .i64 1) ∧ Below W'.heap.size W' w') := fun W' hb => CU.out (oneH home) HON.out W' hb
      have C2 : Hid (∀ W', Below w6.heap.size w6 W' → Calls Try.prog 24 #[.slice a2 n2 c2, .agg #[.int .u32 3, .int .u32 1048576, .int .u32 home, .int .i64 1, .int .u64 5, .int .u32 0, .int .u32 0]] W' fun r w' => r = .returned (.int .i64 1) ∧ Below W'.heap.size W' w') := fun W' hb => CC.out (oneH home) HON.out (by simp [comB]) W' hb
      have hk6 := (HB46.out.block _ (by omega)).trans HK4.out
      have HA6 := hid ((HB46.out.block _ (by omega)).trans HA4.out)
      have o0 : w6.cell? ⟨w1.heap.size, 0, none⟩ = some (.int .u32 3) := cell_of_obj hk6 rfl
      have o1 : w6.cell? ⟨w1.heap.size, 1, none⟩ = some (.int .u32 1048576) := cell_of_obj hk6 rfl
      have o2 : w6.cell? ⟨w1.heap.size, 2, none⟩ = some (.int .u32 home) := cell_of_obj hk6 rfl
      have o3 : w6.cell? ⟨w1.heap.size, 3, none⟩ = some (.int .i64 1) := cell_of_obj hk6 rfl
      have o4 : w6.cell? ⟨w1.heap.size, 4, none⟩ = some (.int .u64 5) := cell_of_obj hk6 rfl
      have o5 : w6.cell? ⟨w1.heap.size, 5, none⟩ = some (.int .u32 0) := cell_of_obj hk6 rfl
      have o6 : w6.cell? ⟨w1.heap.size, 6, none⟩ = some (.int .u32 0) := cell_of_obj hk6 rfl
      have hn1s : ((n1 : Int) != (n1 : Int)) = false := by simp
      have HNU := hid ndU
      have HNC := hid ndC
      have HN1M := hid hn1M
      clear hk6 d5 COM ndU ndC hn1M
      go_wp2_with (first
        | (go_at_call 21; refine (SO.out _ (Below.refl _ _)).mono ?_; rintro r w7 ⟨rfl, hb7⟩)
        | (go_at_call 22; refine (ST.out _ hb7).mono ?_; rintro r w8 ⟨rfl, hb8⟩; have hb68 := Below.on hb7 hb8)
        | (go_at_call 23; refine (LE.out _ hb68).mono ?_; rintro r w9 ⟨rfl, rfl⟩; have o0 := cell_later hb68 o0; have o1 := cell_later hb68 o1; have o2 := cell_later hb68 o2; have o3 := cell_later hb68 o3; have o4 := cell_later hb68 o4; have o5 := cell_later hb68 o5; have o6 := cell_later hb68 o6)
        | (go_at_call_has 24 a1; refine (C1.out _ hb68).mono ?_; rintro r w10 ⟨rfl, hb10⟩; have hb610 := Below.on hb68 hb10; have o0 := cell_later hb10 o0; have o1 := cell_later hb10 o1; have o2 := cell_later hb10 o2; have o3 := cell_later hb10 o3; have o4 := cell_later hb10 o4; have o5 := cell_later hb10 o5; have o6 := cell_later hb10 o6)
        | (go_at_call 24; refine (C2.out _ hb610).mono ?_; rintro r w11 ⟨rfl, hb11⟩; have hb611 := Below.on hb610 hb11))
      have HB611 := hid hb611
      clear hb7 hb8 hb68 hb10 hb610 hb11 hb611 SO ST LE C1 C2 hn1s o0 o1 o2 o3 o4 o5 o6
      go_loopg [9, 78] n1 (fun g s9 s78 wr => ∃ i z : Nat, i ≤ n1 ∧ z ≤ i ∧ g = n1 - i ∧ s9 = .int .i64 z ∧ s78 = .int .i64 i ∧ Hid (Below w6.heap.size w6 wr) ∧ Hid (z = ((U.take i).filter (comB home)).length))
      case atStart => exact ⟨0, 0, by omega, by omega, by omega, rfl, rfl, HB611, hid (by simp)⟩
      case round =>
        obtain ⟨i, z, hi, hz, rfl, rfl, rfl, HBi, HZ⟩ := hrel
        by_cases hit : i < n1
        · obtain ⟨b, off, eb, hc⟩ := RU.out _ HBi.out i (by rw [HU1.out]; exact hit)
          have hi1 : (i : Int) < (n1 : Int) := by omega
          obtain ⟨x, hxe⟩ : ∃ x, x = nthE U i := ⟨_, rfl⟩
          have hxe' : (U[i]?).getD En.zero = x := hxe.symm
          rw [hxe'] at hc
          subst eb
          have HXM : Hid (x ∈ M) := HU3.out.mem_iff.1 (by rw [hxe]; exact nthE_mem (by rw [HU1.out]; exact hit))
          have hstep := filt_take (U := U) (k := i) (by rw [HU1.out]; exact hit) (comB home)
          rw [← hxe, ← HZ.out] at hstep
          have HST := hid hstep
          have OUT : Hid (Calls Try.prog 12 #[.pointer (some ⟨p, 0, none⟩), .agg #[.int .u32 x.id.1, .int .u32 x.id.2]] wr fun r w' => r = .returned (.tuple #[.agg #[.int .u32 x.id.1, .int .u32 x.id.2, .int .u32 x.home, .int .i64 x.oc, .int .u64 x.w, .int .u32 x.l, .int .u32 x.n], .bool true]) ∧ Below wr.heap.size wr w') :=
            (outcome_is (HL4.out.later (Below.on HB46.out HBi.out)) x.id).mono fun r w' ⟨f, ok, h1, h2, h3, h4⟩ => by
              have e := outM_mem HND.out HXM.out
              have h2' : ok = true := by have := h2.out; rwa [e] at this
              have h3' : f = x := by have := h3.out; rwa [e] at this
              subst h2' h3'
              exact ⟨h1, h4⟩
          have qq : ∀ W', (binOp .neq 33 (.agg #[.int .u32 x.id.1, .int .u32 x.id.2, .int .u32 x.home, .int .i64 x.oc, .int .u64 x.w, .int .u32 x.l, .int .u32 x.n]) (.agg #[.int .u32 x.id.1, .int .u32 x.id.2, .int .u32 x.home, .int .i64 x.oc, .int .u64 x.w, .int .u32 x.l, .int .u32 x.n])).run Try.prog W' = .ok (.bool false) W' := fun W' => by have := run_neE x x W'; rw [sameE_self] at this; exact this
          have g0 : wr.cell? ⟨b, off + i * 7, none⟩ = some (.int .u32 x.id.1) := hc 0 _ rfl
          have g1 : wr.cell? ⟨b, off + i * 7 + 1, none⟩ = some (.int .u32 x.id.2) := hc 1 _ rfl
          have g2 : wr.cell? ⟨b, off + i * 7 + 2, none⟩ = some (.int .u32 x.home) := hc 2 _ rfl
          have g3 : wr.cell? ⟨b, off + i * 7 + 3, none⟩ = some (.int .i64 x.oc) := hc 3 _ rfl
          have g4 : wr.cell? ⟨b, off + i * 7 + 4, none⟩ = some (.int .u64 x.w) := hc 4 _ rfl
          have g5 : wr.cell? ⟨b, off + i * 7 + 5, none⟩ = some (.int .u32 x.l) := hc 5 _ rfl
          have g6 : wr.cell? ⟨b, off + i * 7 + 6, none⟩ = some (.int .u32 x.n) := hc 6 _ rfl
          have HG : Hid (wr.cell? ⟨b, off + i * 7, none⟩ = some (.int .u32 x.id.1) ∧ wr.cell? ⟨b, off + i * 7 + 1, none⟩ = some (.int .u32 x.id.2) ∧ wr.cell? ⟨b, off + i * 7 + 2, none⟩ = some (.int .u32 x.home) ∧ wr.cell? ⟨b, off + i * 7 + 3, none⟩ = some (.int .i64 x.oc) ∧ wr.cell? ⟨b, off + i * 7 + 4, none⟩ = some (.int .u64 x.w) ∧ wr.cell? ⟨b, off + i * 7 + 5, none⟩ = some (.int .u32 x.l) ∧ wr.cell? ⟨b, off + i * 7 + 6, none⟩ = some (.int .u32 x.n)) := ⟨g0, g1, g2, g3, g4, g5, g6⟩
          clear hc hxe hxe' hstep g2 g3 g4 g5 g6
          go_wp2_with fail
          refine OUT.out.mono ?_
          rintro r w12 ⟨rfl, hb12⟩
          obtain ⟨w13, hw13⟩ : ∃ w13, w13 = w12.alloc (.cells #[.int .u32 x.id.1, .int .u32 x.id.2, .int .u32 x.home, .int .i64 x.oc, .int .u64 x.w, .int .u32 x.l, .int .u32 x.n] 33) := ⟨_, rfl⟩
          have hb13 : Below wr.heap.size wr w13 := by rw [hw13]; exact Below.al hb12 _
          have HBX : Hid (BoxE w13 w12.heap.size x) := by rw [hw13]; exact box_new _ _
          have HB13 := hid hb13
          have HB613 : Hid (Below w6.heap.size w6 w13) := Below.on HBi.out hb13
          clear OUT hb12 hb13 g0 g1
          go_wp2_with fail
          rw [← hw13]
          clear hw13
          obtain ⟨g0, g1, g2, g3, g4, g5, g6⟩ := HG.out
          have s0 := cell_regrown (cell_later HB13.out g0)
          have s1 := cell_regrown (cell_later HB13.out g1)
          have s2 := cell_regrown (cell_later HB13.out g2)
          have s3 := cell_regrown (cell_later HB13.out g3)
          have s4 := cell_regrown (cell_later HB13.out g4)
          have s5 := cell_regrown (cell_later HB13.out g5)
          have s6 := cell_regrown (cell_later HB13.out g6)
          obtain ⟨k0, k1, k2, k3, k4, k5, k6⟩ := HBX.out
          have t0 := cell_regrown k0
          have t1 := cell_regrown k1
          have t2 := cell_regrown k2
          have t3 := cell_regrown k3
          have t4 := cell_regrown k4
          have t5 := cell_regrown k5
          have t6 := cell_regrown k6
          clear g0 g1 g2 g3 g4 g5 g6 k0 k1 k2 k3 k4 k5 k6
          refine wp_region_quiet_below (by kernel_rfl) (by kernel_rfl) ?_
          repeat (go_big_quiet_step (fail))
          refine wpQuiet_nil ?_
          intro wn hwn
          replace hwn := below_of_regrown hwn
          obtain ⟨k0, k1, k2, k3, k4, k5, k6⟩ := HBX.out.later hwn
          have HB6n : Hid (Below w6.heap.size w6 wn) := Below.on HB613.out hwn
          have d1 : wn.cell? ⟨W.heap.size, 1, none⟩ = some (.int .u32 home) := cell_later HB6n.out (cell_of_obj HA6.out rfl)
          clear hwn s0 t0 s1 t1 s2 t2 s3 t3 s4 t4 s5 t5 s6 t6
          obtain ⟨u, hu⟩ : ∃ u, comB home x = u := ⟨_, rfl⟩
          rw [hu] at HST
          cases u with
          | false =>
            by_cases h1 : x.oc = 1
            · have h1' : (x.oc == 1) = true := by simp [h1]
              have h2' : (x.home == home) = false := by
                have := hu
                simp only [comB, h1', Bool.true_and] at this
                exact this
              clear hu h1
              go_wp2_with fail
              go_roundg (n1 - (i + 1))
              case measure => omega
              case rel => exact ⟨i + 1, z, by omega, by omega, rfl, rfl, by go_num, HB6n, HST.out.symm⟩
            · have h1' : (x.oc == 1) = false := by simpa using h1
              clear hu h1
              go_wp2_with fail
              go_roundg (n1 - (i + 1))
              case measure => omega
              case rel => exact ⟨i + 1, z, by omega, by omega, rfl, rfl, by go_num, HB6n, HST.out.symm⟩
          | true =>
            have h1' : (x.oc == 1) = true := by simp only [comB, Bool.and_eq_true] at hu; exact hu.1
            have h2' : (x.home == home) = true := by simp only [comB, Bool.and_eq_true] at hu; exact hu.2
            have CX := hid (CC.out x HXM.out hu wn HB6n.out)
            clear hu
            go_wp2_with (go_at_call 24; refine CX.out.mono ?_; rintro r w14 ⟨rfl, hb14⟩)
            go_roundg (n1 - (i + 1))
            case measure => omega
            case rel => exact ⟨i + 1, z + 1, by omega, by omega, rfl, by go_num, by go_num, Below.on HB6n.out hb14, HST.out.symm⟩
        · obtain rfl : i = n1 := by omega
          have hzn : z = n2 := by
            have h1 := HZ.out
            rw [← HU1.out, List.take_length] at h1
            have h2 := (HU3.out.filter (comB home)).length_eq
            have h3 := HC3.out.length_eq
            have h4 := HC1.out
            omega
          subst hzn
          rename World => w15
          clear HZ RC CC
          go_wp2_with fail
          go_loopg [120] k (fun g s120 wr => ∃ j : Nat, j ≤ k ∧ g = k - j ∧ s120 = .int .i64 j ∧ Hid (Below w6.heap.size w6 wr))
          case atStart => exact ⟨0, by omega, by omega, rfl, HBi⟩
          case round =>
            obtain ⟨j, hj, rfl, rfl, HJ⟩ := hrel
            by_cases hjt : j < k
            · have HBJ : Hid (Below W.heap.size W wr) := Below.on (Below.on HBr.out HB46.out) HJ.out
              obtain ⟨b, off, eb, hc⟩ := RowC.later HR.out HBJ.out j (by rw [HLN.out]; exact hjt)
              have hj1 : (j : Int) < (k : Int) := by omega
              obtain ⟨y, hye⟩ : ∃ y, y = nthE xs j := ⟨_, rfl⟩
              have hye' : (xs[j]?).getD En.zero = y := hye.symm
              rw [hye'] at hc
              subst eb
              have g0 : wr.cell? ⟨b, off + j * 7, none⟩ = some (.int .u32 y.id.1) := hc 0 _ rfl
              have g1 : wr.cell? ⟨b, off + j * 7 + 1, none⟩ = some (.int .u32 y.id.2) := hc 1 _ rfl
              obtain ⟨v, hv⟩ : ∃ v, v = (outM M y.id).getD En.zero := ⟨_, rfl⟩
              obtain ⟨o, ho⟩ : ∃ o, o = (outM M y.id).isSome := ⟨_, rfl⟩
              have HVM : Hid (o = true → v ∈ M) := fun e => by
                cases hq : outM M y.id with
                | none => rw [ho, hq] at e; cases e
                | some f => rw [hv, hq]; exact (outM_some hq).1
              have OUT : Hid (∀ W', Below wr.heap.size wr W' → Calls Try.prog 12 #[.pointer (some ⟨p, 0, none⟩), .agg #[.int .u32 y.id.1, .int .u32 y.id.2]] W' fun r w' => r = .returned (.tuple #[.agg #[.int .u32 v.id.1, .int .u32 v.id.2, .int .u32 v.home, .int .i64 v.oc, .int .u64 v.w, .int .u32 v.l, .int .u32 v.n], .bool o]) ∧ Below W'.heap.size W' w') := fun W' hb =>
                (outcome_is (HL4.out.later (Below.on (Below.on HB46.out HJ.out) hb)) y.id).mono fun r w' ⟨f, ok, h1, h2, h3, h4⟩ => by
                  have h2' : ok = o := by rw [ho]; exact h2
                  have h3' : f = v := by rw [hv]; exact h3
                  subst h2' h3'
                  exact ⟨h1, h4⟩
              clear hc hye hye' hv ho
              go_wp2_with fail
              refine (OUT.out _ (Below.refl _ _)).mono ?_
              rintro r w16 ⟨rfl, hb16⟩
              obtain ⟨w17, hw17⟩ : ∃ w17, w17 = w16.alloc (.cells #[.int .u32 v.id.1, .int .u32 v.id.2, .int .u32 v.home, .int .i64 v.oc, .int .u64 v.w, .int .u32 v.l, .int .u32 v.n] 33) := ⟨_, rfl⟩
              have hb17 : Below wr.heap.size wr w17 := by rw [hw17]; exact Below.al hb16 _
              have y0 : (w16.alloc (.cells #[.int .u32 v.id.1, .int .u32 v.id.2, .int .u32 v.home, .int .i64 v.oc, .int .u64 v.w, .int .u32 v.l, .int .u32 v.n] 33)).cell? ⟨b, off + j * 7, none⟩ = some (.int .u32 y.id.1) := by rw [← hw17]; exact cell_later hb17 g0
              have y1 : (w16.alloc (.cells #[.int .u32 v.id.1, .int .u32 v.id.2, .int .u32 v.home, .int .i64 v.oc, .int .u64 v.w, .int .u32 v.l, .int .u32 v.n] 33)).cell? ⟨b, off + j * 7 + 1, none⟩ = some (.int .u32 y.id.2) := by rw [← hw17]; exact cell_later hb17 g1
              have O2 := hid (OUT.out _ hb17)
              have HB17 := hid hb17
              clear hb16 hb17 OUT g0 g1
              go_wp2_with fail
              rw [← hw17]
              clear y0 y1 hw17
              refine O2.out.mono ?_
              rintro r w18 ⟨rfl, hb18⟩
              have HB18 : Hid (Below w6.heap.size w6 w18) := Below.on HJ.out (Below.on HB17.out hb18)
              clear hb18 O2
              cases o with
              | false =>
                go_wp2_with fail
                go_roundg (k - (j + 1))
                case measure => omega
                case rel => exact ⟨j + 1, by omega, rfl, by go_num, Below.al HB18.out _⟩
              | true =>
                have CX : Hid (Calls Try.prog 24 #[.slice a1 i c1, .agg #[.int .u32 v.id.1, .int .u32 v.id.2, .int .u32 v.home, .int .i64 v.oc, .int .u64 v.w, .int .u32 v.l, .int .u32 v.n]] (w18.alloc (.cells #[.int .u32 v.id.1, .int .u32 v.id.2, .int .u32 v.home, .int .i64 v.oc, .int .u64 v.w, .int .u32 v.l, .int .u32 v.n] 33)) fun r w' => r = .returned (.int .i64 1) ∧ Below (w18.alloc (.cells #[.int .u32 v.id.1, .int .u32 v.id.2, .int .u32 v.home, .int .i64 v.oc, .int .u64 v.w, .int .u32 v.l, .int .u32 v.n] 33)).heap.size (w18.alloc (.cells #[.int .u32 v.id.1, .int .u32 v.id.2, .int .u32 v.home, .int .i64 v.oc, .int .u64 v.w, .int .u32 v.l, .int .u32 v.n] 33)) w') := CU.out v (HVM.out rfl) _ (Below.al HB18.out _)
                go_wp2_with (go_at_call 24; refine CX.out.mono ?_; rintro r w19 ⟨rfl, hb19⟩)
                go_roundg (k - (j + 1))
                case measure => omega
                case rel => exact ⟨j + 1, by omega, rfl, by go_num, Below.on (Below.al HB18.out _) hb19⟩
            · obtain rfl : j = k := by omega
              have hnn : ((z : Int) == (z : Int)) = true := by simp
              go_wp2_with fail
              go_ret
              exact ⟨by simp, Below.on (Below.on HBr.out HB46.out) HJ.out⟩
end Go.Proofs.Ytogjhpknlopajaa.Lg
