import Derived.Test.YtogjhpknlopajaaXFilled
/- The law's clash. -/
namespace Go.Proofs.Ytogjhpknlopajaa.Lg
open Go.RowKit Go.Sort Go.Shelf Go.Lib Lk
set_option linter.unusedVariables false

/-- would a ledger refuse the entry? -/
def clB (A : List En) (e : En) : Bool := match outM A e.id with | some f => !agrB e f | none => false
theorem fst_mem {xs : List En} {t : Ix} {f : En} (h : fstL xs t = some f) : f ∈ xs ∧ f.id = t := by
  have h1 : (sameI f.id t && mayB f) = true := List.find?_some (p := fun e : En => sameI e.id t && mayB e) h
  rw [Bool.and_eq_true] at h1
  exact ⟨List.mem_of_find?_eq_some h, sameI_iff.1 h1.1⟩
theorem led_may {xs : List En} : ∀ e ∈ ledL xs, mayB e = true := by
  have : ∀ (xs M : List En), (∀ e ∈ M, mayB e = true) → ∀ e ∈ xs.foldl decM M, mayB e = true := by
    intro xs
    induction xs with
    | nil => intro M h; exact h
    | cons y xs ih =>
      intro M h
      refine ih _ ?_
      unfold decM
      split
      · rename_i hy
        cases outM M y.id with
        | some f => exact h
        | none =>
          intro e he
          rcases List.mem_append.1 he with he | he
          · exact h e he
          · simp at he; subst he; exact hy
      · exact h
  exact this xs [] (by simp)
/-- what a ledger tells, laid down in a fresh one, stands there -/
theorem led_perm {U A : List En} (hp : U.Perm A) (hn : (A.map En.id).Nodup) (hm : ∀ e ∈ A, mayB e = true) (t : Ix) : outM (ledL U) t = outM A t := by
  rw [led_fst]
  have hnU := ids_nodup hp hn
  cases ho : outM A t with
  | some f =>
    obtain ⟨h1, h2⟩ := outM_some ho
    have h3 : f ∈ U := hp.mem_iff.2 h1
    cases hf : fstL U t with
    | some g =>
      obtain ⟨k1, k2⟩ := fst_mem hf
      rw [nodup_inj hnU k1 h3 (by rw [k2, h2])]
    | none =>
      rw [fstL, List.find?_eq_none] at hf
      exact absurd (by rw [h2, hm f h1]; simp [sameI]) (hf f h3)
  | none =>
    cases hf : fstL U t with
    | none => rfl
    | some g =>
      obtain ⟨k1, k2⟩ := fst_mem hf
      exact absurd (List.mem_map.2 ⟨g, hp.mem_iff.1 k1, k2⟩) (outM_none.1 ho)
theorem clash_x {U A B : List En} {k : Nat} (hA : ∀ t, outM (ledL U) t = outM A t) (hk : k < B.length) (hn : (B.map En.id).Nodup) (hm : mayB (nthE B k) = true) : decX ((B.take k).foldl decM (ledL U)) (nthE B k) = if clB A (nthE B k) then 110 else 0 := by
  have e : outM ((B.take k).foldl decM (ledL U)) (nthE B k).id = outM A (nthE B k).id := by
    rw [led_gen, hA]
    cases outM A (nthE B k).id with
    | some f => rfl
    | none =>
      simp only
      cases hf : fstL (B.take k) (nthE B k).id with
      | none => rfl
      | some g =>
        exfalso
        obtain ⟨k1, k2⟩ := fst_mem hf
        obtain ⟨i, hi, rfl⟩ := List.getElem_of_mem k1
        have hi' : i < k := by have := hi; rw [List.length_take] at this; omega
        rw [List.getElem_take] at k2
        have e1 : nthE B k = B[k] := by simp [nthE, hk]
        rw [e1] at k2
        have := List.pairwise_iff_getElem.1 hn i k (by simp; omega) (by simp; omega) hi'
        simp at this
        exact this k2
  rw [decX, if_pos hm, e, clB]
  cases outM A (nthE B k).id with
  | none => simp [agrB_self]
  | some f => cases h : agrB (nthE B k) f <;> simp [h]
set_option maxHeartbeats 4000000 in
theorem clash_is {w : World} {pa pb : Nat} {ma mb : Option Nat} {A B : List En} (TA : Lg w pa ma A) (TB : Lg w pb mb B) (hmA : ∀ e ∈ A, mayB e = true) (hmB : ∀ e ∈ B, mayB e = true) (hlA : A.length ≤ 3518437208882) (hlB : B.length ≤ 3518437208882) :
    Calls Try.prog 15 #[.pointer (some ⟨pa, 0, none⟩), .pointer (some ⟨pb, 0, none⟩)] w fun r w' => ∃ (a : Option Addr) (n c : Nat) (X : List Ix), r = .returned (.slice a n c) ∧ Hid (X.length = n) ∧ Hid (OwnX w.heap.size w' (.slice a n c) n X) ∧
      Hid (X.Pairwise (fun x y => ltI x y = true)) ∧ Hid (∀ t, t ∈ X ↔ ∃ e ∈ B, e.id = t ∧ clB A e = true) ∧ Hid (Below w.heap.size w w') := by
  have HNA := hid TA.nodup
  have HNB := hid TB.nodup
  have HMA := hid hmA
  have HMB := hid hmB
  have ENT := hid (entries_is TA hlA)
  have HTB := hid TB
  obtain ⟨i0, hi, hz0, hz1, hz2⟩ := info_of infoTx
  clear TA TB hmA hmB
  go_enter Try.func15, Try.ntmps15
  go_wp2_with fail
  refine ENT.out.mono ?_
  rintro r w1 ⟨a1, n1, c1, U, rfl, HU1, HU2, HU3, HU4, HB1⟩
  have FIL := hid (filled_is (c := c1) (own_row HU2.out HU1.out) HU1.out (by have h1 := HU1.out; have h2 := HU3.out.length_eq; omega))
  have HUA := hid (fun t => led_perm HU3.out HNA.out HMA.out t)
  clear ENT
  go_wp2_with fail
  refine FIL.out.mono ?_
  rintro r w2 ⟨p, m, rfl, HL2, HP2, HB2⟩
  have HB12 : Hid (Below w.heap.size w w2) := Below.on HB1.out HB2.out
  have EN2 := hid (entries_is (HTB.out.later HB12.out) hlB)
  clear FIL
  go_wp2_with fail
  refine EN2.out.mono ?_
  rintro r w3 ⟨a3, n3, c3, E, rfl, HE1, HE2, HE3, HE4, HB3⟩
  have hs12 : w.heap.size ≤ w1.heap.size := HB1.out.size
  have hs23 : w2.heap.size ≤ w3.heap.size := HB3.out.size
  have HNE := hid (ids_nodup HE3.out HNB.out)
  have HRE := hid (own_row HE2.out HE1.out)
  have hn3 : n3 ≤ 3518437208882 := by have h1 := HE1.out; have h2 := HE3.out.length_eq; omega
  have HB13 : Hid (Below w.heap.size w w3) := Below.on HB12.out HB3.out
  -- the blocks of E's row are neither both's nor new
  have HEB : Hid (∀ g, (Value.slice a3 n3 c3).ownBlock = some g → w2.heap.size ≤ g ∧ g < w3.heap.size) := fun g hg => HE2.out.lt g hg
  have HP3 : Hid (∀ b, ItsL p m b → w1.heap.size ≤ b ∧ b < w2.heap.size) := fun b hb => ⟨HP2.out b hb, HL2.out.its_lt hb⟩
  clear EN2
  go_wp2_with fail
  go_loopg [6, 20] n3 (fun g s6 s20 wr => ∃ (k : Nat) (m' : Option Nat) (X : List Ix) (a' : Option Addr) (n' c' : Nat), k ≤ n3 ∧ g = n3 - k ∧ s20 = .int .i64 k ∧ s6 = .slice a' n' c' ∧ Hid (Lg wr p m' ((E.take k).foldl decM (ledL U))) ∧ Hid (∀ b, m' = some b → (w1.heap.size ≤ b ∧ b < w2.heap.size) ∨ w3.heap.size ≤ b) ∧
    Hid (X.length = n') ∧ Hid (n' ≤ k) ∧ Hid (X = ((E.take k).filter (clB A)).map En.id) ∧ Hid (OwnX w3.heap.size wr (.slice a' n' c') n' X) ∧ Hid (Onl (fun b => w1.heap.size ≤ b ∧ b < w2.heap.size) w3 wr))
  case atStart =>
    refine ⟨0, m, [], none, 0, 0, by omega, by omega, rfl, rfl, hid (by simpa using HL2.out.later HB3.out), fun b e => .inl (HP3.out b (.inr e)), rfl, hid (by omega), hid (by simp), ⟨rfl, .inl ⟨rfl, rfl⟩⟩, Onl.refl _ _⟩
  case round =>
    obtain ⟨k, m', X, a', n', c', hk, rfl, rfl, rfl, HL, HM, HX1, HX2, HX3, HX4, HO⟩ := hrel
    have hpr : w1.heap.size ≤ p ∧ p < w2.heap.size := HP3.out p (.inl rfl)
    have HBr : Hid (Below w.heap.size w wr) := HB13.out.trans (HO.out.below (B := w.heap.size) (fun i hi => by omega) HB13.out.size)
    have hsr : w3.heap.size ≤ wr.heap.size := HO.out.size
    by_cases hlt : k < n3
    · have hrE : RowC En.zero ecs 7 wr a3 E := own_row (owns_keep HE2.out fun g hg => HO.out.block g (HEB.out g hg).2 (fun e => by have := (HEB.out g hg).1; omega)) HE1.out
      obtain ⟨b, off, eb, hc⟩ := hrE k (by rw [HE1.out]; exact hlt)
      have hk1 : (k : Int) < (n3 : Int) := by omega
      obtain ⟨y, hye⟩ : ∃ y, y = nthE E k := ⟨_, rfl⟩
      have hye' : (E[k]?).getD En.zero = y := hye.symm
      rw [hye'] at hc
      have hbE : w2.heap.size ≤ b ∧ b < w3.heap.size := by
        obtain ⟨g, eg, hg1, _⟩ := own_cells HE2.out (by omega)
        have h3 := (HE2.out.lt g (by rw [eg]; rfl)).2
        rw [eg] at eb
        injection eb with eb
        injection eb with e1 _ _
        omega
      subst eb
      have g0 : wr.cell? ⟨b, off + k * 7, none⟩ = some (.int .u32 y.id.1) := hc 0 _ rfl
      have g1 : wr.cell? ⟨b, off + k * 7 + 1, none⟩ = some (.int .u32 y.id.2) := hc 1 _ rfl
      have g2 : wr.cell? ⟨b, off + k * 7 + 2, none⟩ = some (.int .u32 y.home) := hc 2 _ rfl
      have g3 : wr.cell? ⟨b, off + k * 7 + 3, none⟩ = some (.int .i64 y.oc) := hc 3 _ rfl
      have g4 : wr.cell? ⟨b, off + k * 7 + 4, none⟩ = some (.int .u64 y.w) := hc 4 _ rfl
      have g5 : wr.cell? ⟨b, off + k * 7 + 5, none⟩ = some (.int .u32 y.l) := hc 5 _ rfl
      have g6 : wr.cell? ⟨b, off + k * 7 + 6, none⟩ = some (.int .u32 y.n) := hc 6 _ rfl
      obtain ⟨u, hu⟩ : ∃ u, clB A y = u := ⟨_, rfl⟩
      have hX' : ((E.take (k + 1)).filter (clB A)).map En.id = X ++ (if u then [y.id] else []) := by
        rw [nthE_take (by rw [HE1.out]; exact hlt), List.filter_append, List.map_append, ← HX3.out, ← hye]
        cases u <;> simp [hu]
      have HXN := hid hX'
      have DEC : Hid (Calls Try.prog 10 #[.pointer (some ⟨p, 0, none⟩), .agg #[.int .u32 y.id.1, .int .u32 y.id.2, .int .u32 y.home, .int .i64 y.oc, .int .u64 y.w, .int .u32 y.l, .int .u32 y.n]] wr fun r w' => ∃ (m2 : Option Nat) (f : En), r = .returned (.tuple #[.agg #[.int .u32 f.id.1, .int .u32 f.id.2, .int .u32 f.home, .int .i64 f.oc, .int .u64 f.w, .int .u32 f.l, .int .u32 f.n], .int .i64 (if u then 110 else 0)]) ∧ Hid (Lg w' p m2 ((E.take (k + 1)).foldl decM (ledL U))) ∧ Hid (∀ b, m2 = some b → (w1.heap.size ≤ b ∧ b < w2.heap.size) ∨ w3.heap.size ≤ b) ∧ Hid (Onl (ItsL p m') wr w')) :=
        (decide_is HL.out y).mono fun r w' ⟨m2, f, x, h1, h2, h3, h4, h5, h6⟩ => by
          have h3' : x = if u then 110 else 0 := by
            rw [h3.out, hye, clash_x HUA.out (by rw [HE1.out]; exact hlt) HNE.out (HMB.out _ (HE3.out.mem_iff.1 (nthE_mem (by rw [HE1.out]; exact hlt)))), ← hye, hu]
          subst h3'
          refine ⟨m2, f, h1, ?_, ?_, h6⟩
          · have e : (E.take (k + 1)).foldl decM (ledL U) = decM ((E.take k).foldl decM (ledL U)) y := by rw [nthE_take (by rw [HE1.out]; exact hlt), List.foldl_append, ← hye]; rfl
            rw [e]; exact h4
          · intro c hc
            rcases h5.out with h | ⟨b2, h, hle⟩
            · exact HM.out c (by rw [← h, hc])
            · rw [hc] at h; injection h with h; subst h; exact .inr (by omega)
      have HNO : Hid (∀ i, ItsL p m' i → (w1.heap.size ≤ i ∧ i < w2.heap.size) ∨ w3.heap.size ≤ i) := fun i hi => by
        rcases hi with rfl | e
        · exact .inl hpr
        · exact HM.out i e
      have HMX : Hid (∀ g, (Value.slice a' n' c').ownBlock = some g → ¬ ItsL p m' g) := fun g hg hi => by
        obtain ⟨cur, hcc⟩ := own_type HX4.out hg
        rcases hi with rfl | e
        · have := (HX4.out.lt _ hg).1; omega
        · subst e
          exact mapat_ne HL.out.ents hcc rfl
      clear hc hye hye' hu hX' hrE
      go_wp2_with fail
      refine DEC.out.mono ?_
      rintro r w4 ⟨m2, f, rfl, HL4, HM4, HO4⟩
      have HO34 : Hid (Onl (fun b => w1.heap.size ≤ b ∧ b < w2.heap.size) w3 w4) := HO.out.fresh HO4.out HNO.out
      have HX44 : Hid (OwnX w3.heap.size w4 (.slice a' n' c') n' X) := owns_onl HX4.out HO4.out HMX.out
      have hs34 : w3.heap.size ≤ w4.heap.size := HO34.out.size
      have nb : ¬ ItsL p m' b := fun hi => by
        rcases HNO.out b hi with h | h <;> omega
      have k0 : w4.cell? ⟨b, off + k * 7, none⟩ = some (.int .u32 y.id.1) := HO4.out.cell nb g0
      have k1 : w4.cell? ⟨b, off + k * 7 + 1, none⟩ = some (.int .u32 y.id.2) := HO4.out.cell nb g1
      clear DEC g0 g1 g2 g3 g4 g5 g6
      cases u with
      | false =>
        have HXF : Hid (X = ((E.take (k + 1)).filter (clB A)).map En.id) := by show _ = _; rw [HXN.out]; simp
        have HF1 : Hid (Lg (w4.alloc (.cells #[.int .u32 f.id.1, .int .u32 f.id.2, .int .u32 f.home, .int .i64 f.oc, .int .u64 f.w, .int .u32 f.l, .int .u32 f.n] 33)) p m2 ((E.take (k + 1)).foldl decM (ledL U))) := HL4.out.later (Below.al (Below.refl _ _) _)
        have HF2 : Hid (OwnX w3.heap.size (w4.alloc (.cells #[.int .u32 f.id.1, .int .u32 f.id.2, .int .u32 f.home, .int .i64 f.oc, .int .u64 f.w, .int .u32 f.l, .int .u32 f.n] 33)) (.slice a' n' c') n' X) := owns_keep HX44.out fun g hg => (Below.al (Below.refl _ _) _ : Below w4.heap.size w4 _).block g (HX44.out.lt g hg).2
        have HF3 : Hid (Onl (fun b => w1.heap.size ≤ b ∧ b < w2.heap.size) w3 (w4.alloc (.cells #[.int .u32 f.id.1, .int .u32 f.id.2, .int .u32 f.home, .int .i64 f.oc, .int .u64 f.w, .int .u32 f.l, .int .u32 f.n] 33))) := Onl.al HO34.out _
        go_wp2_with fail
        go_roundg (n3 - (k + 1))
        case measure => omega
        case rel => exact ⟨k + 1, m2, X, a', n', c', by omega, rfl, by go_num, rfl, HF1, HM4, HX1, hid (by have := HX2.out; omega), HXF, HF2, HF3⟩
      | true =>
        have HXF : Hid (X ++ [y.id] = ((E.take (k + 1)).filter (clB A)).map En.id) := by show _ = _; rw [HXN.out]; simp
        obtain ⟨w5, hw5⟩ : ∃ w5, w5 = (w4.alloc (.cells #[.int .u32 f.id.1, .int .u32 f.id.2, .int .u32 f.home, .int .i64 f.oc, .int .u64 f.w, .int .u32 f.l, .int .u32 f.n] 33)).alloc (.cells #[.int .u32 y.id.1, .int .u32 y.id.2] 27) := ⟨_, rfl⟩
        have hb45 : Below w4.heap.size w4 w5 := by rw [hw5]; exact Below.al (Below.al (Below.refl _ _) _) _
        have kk0 : (w4.alloc (.cells #[.int .u32 f.id.1, .int .u32 f.id.2, .int .u32 f.home, .int .i64 f.oc, .int .u64 f.w, .int .u32 f.l, .int .u32 f.n] 33)).cell? ⟨b, off + k * 7, none⟩ = some (.int .u32 y.id.1) := cell_later (Below.al (Below.refl _ _) _) k0
        have kk1 : (w4.alloc (.cells #[.int .u32 f.id.1, .int .u32 f.id.2, .int .u32 f.home, .int .i64 f.oc, .int .u64 f.w, .int .u32 f.l, .int .u32 f.n] 33)).cell? ⟨b, off + k * 7 + 1, none⟩ = some (.int .u32 y.id.2) := cell_later (Below.al (Below.refl _ _) _) k1
        have hO5 : OwnX w3.heap.size w5 (.slice a' n' c') n' X := owns_keep HX44.out fun g hg => hb45.block g (HX44.out.lt g hg).2
        have blk5 : w5.heap[w4.heap.size + 1]? = some (.cells (tcs y.id).toArray 27) := by
          rw [hw5, show w4.heap.size + 1 = (w4.alloc (.cells #[.int .u32 f.id.1, .int .u32 f.id.2, .int .u32 f.home, .int .i64 f.oc, .int .u64 f.w, .int .u32 f.l, .int .u32 f.n] 33)).heap.size by simp]; exact (MapKept.heap_alloc _ _).1
        have hcl : ∀ i x, (tcs y.id)[i]? = some x → w5.cell? ((⟨w4.heap.size + 1, 0, none⟩ : Addr).add i) = some x := fun i x hj => by
          rw [Addr.add_lit, Nat.zero_add]
          exact cell_of_obj blk5 (by simpa using hj)
        have HO5 := hid hO5
        have HCL := hid hcl
        have HB45 := hid hb45
        have hs5 : w3.heap.size ≤ w5.heap.size := Nat.le_trans hs34 hb45.size
        have hn' : n' + 1 ≤ 3518437208883 := by have := HX2.out; omega
        clear hO5 hcl hb45 blk5 k0 k1
        go_wp2_with (at_builtin; refine wpList_append_own _ rfl _ _ 45 rfl w3.heap.size 27 i0 (ixv (0, 0)) 2 8 Try.underlying45 hi hz0 hz1 hz2 rfl (by decide) (.slice a' n' c') n' (X.flatMap tcs) rfl (by rw [← hw5]; exact HO5.out) ⟨w4.heap.size + 1, 0, none⟩ 1 1 (tcs y.id) rfl rfl (by rw [← hw5]; exact HCL.out) (tcs_one y.id) (by unfold maxLen; omega) (by omega) (by rw [← hw5]; exact hs5) ?_)
        intro v2 w6 hown hgrow hnil
        rw [← hw5] at hgrow
        obtain ⟨a2, c2, rfl⟩ := owns_slice hown
        have h36 : Onl (fun b => w1.heap.size ≤ b ∧ b < w2.heap.size) w3 w6 := (HO34.out.on HB45.out).fresh (grown_onl hgrow) (fun i hi => .inr (HO5.out.lt i hi).1)
        have hL6 : Lg w6 p m2 ((E.take (k + 1)).foldl decM (ledL U)) := (HL4.out.later HB45.out).onl (grown_onl hgrow) (fun c hc hi => by
          obtain ⟨cur, hcc⟩ := own_type HO5.out hi
          rcases hc with rfl | e
          · have := (HO5.out.lt _ hi).1; omega
          · subst e; exact mapat_ne (HL4.out.later HB45.out).ents hcc rfl)
        have HFin : Hid ((X ++ [y.id]).length = n' + 1) ∧ Hid (OwnX w3.heap.size w6 (.slice a2 (n' + 1) c2) (n' + 1) (X ++ [y.id])) ∧ Hid (Lg w6 p m2 ((E.take (k + 1)).foldl decM (ledL U))) ∧ Hid (Onl (fun b => w1.heap.size ≤ b ∧ b < w2.heap.size) w3 w6) := by
          refine ⟨hid (by rw [List.length_append, HX1.out]; rfl), hid ?_, hL6, h36⟩
          unfold OwnX
          rw [List.flatMap_append]
          simpa using hown
        clear hown hgrow hnil h36 hL6
        go_wp2_with fail
        go_roundg (n3 - (k + 1))
        case measure => omega
        case rel => exact ⟨k + 1, m2, X ++ [y.id], a2, n' + 1, c2, by omega, rfl, by go_num, rfl, HFin.2.2.1, HM4, HFin.1, hid (by have := HX2.out; omega), HXF, HFin.2.1, HFin.2.2.2⟩
    · obtain rfl : k = n3 := by omega
      have HFin : Hid (X.length = n') ∧ Hid (OwnX w.heap.size wr (.slice a' n' c') n' X) ∧ Hid (X.Pairwise (fun x y => ltI x y = true)) ∧ Hid (∀ t, t ∈ X ↔ ∃ e ∈ B, e.id = t ∧ clB A e = true) ∧ Hid (Below w.heap.size w wr) := by
        have e : X = (E.filter (clB A)).map En.id := by
          have := HX3.out
          rwa [← HE1.out, List.take_length] at this
        refine ⟨HX1, owns_base HX4.out HB13.out.size, hid ?_, fun t => ?_, HBr⟩
        · rw [e, List.pairwise_map]
          have h1 : E.Pairwise (fun x y => ltI x.id y.id = true) := by
            have h2 := HNE.out
            rw [List.Nodup, List.pairwise_map] at h2
            exact (List.Pairwise.and h2 HE4.out).imp fun ⟨k1, k2⟩ => ltI_total k2 k1
          exact h1.sublist List.filter_sublist
        · rw [e, List.mem_map]
          constructor
          · rintro ⟨x, hx, rfl⟩
            obtain ⟨h1, h2⟩ := List.mem_filter.1 hx
            exact ⟨x, HE3.out.mem_iff.1 h1, rfl, h2⟩
          · rintro ⟨x, hx, rfl, h2⟩
            exact ⟨x, List.mem_filter.2 ⟨HE3.out.mem_iff.2 hx, h2⟩, rfl⟩
      go_wp2_with fail
      go_ret
      exact ⟨a', n', c', X, rfl, HFin⟩
end Go.Proofs.Ytogjhpknlopajaa.Lg
