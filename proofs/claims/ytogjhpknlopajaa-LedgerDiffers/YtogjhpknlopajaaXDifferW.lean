import Derived.Test.YtogjhpknlopajaaXRDiffW
/- Differ, once more: another bound. -/
namespace Go.Proofs.Ytogjhpknlopajaa.Lg
open Go.RowKit Go.Sort Go.Shelf Go.Lib Lk
set_option linter.unusedVariables false

theorem keys_len {V : List (Ix × Vw)} {Ms : List (List En)} {K : List Ix} (hn : (V.map (·.1)).Nodup) (hg : ∀ t, getA V t = viewOf Ms t) (hW : Within Ms K) : V.length ≤ K.length := by
  have := nodup_len hn (k := K) (fun t ht => by
    obtain ⟨q, hq, rfl⟩ := List.mem_map.1 ht
    have h1 := getA_of hn (t := q.1) (v := q.2) hq
    rw [hg, view_es] at h1
    cases hes : Ms.filterMap (fun M => outM M q.1) with
    | nil => rw [hes] at h1; cases h1
    | cons e r =>
      have he : e ∈ Ms.filterMap (fun M => outM M q.1) := by rw [hes]; simp
      obtain ⟨M, hM, ho⟩ := es_mem.1 he
      obtain ⟨k1, k2⟩ := outM_some ho
      rw [← k2]; exact hW M hM e k1)
  simpa using this
set_option maxHeartbeats 4000000 in
theorem differ_isW {K : List Ix} {w : World} {a : Option Addr} {n c : Nat} {D : List (Option Ld)} (hrow : RowC none (fun d => [ptv d]) 1 w a D) (hn : D.length = n) (hl : n ≤ 9223372036854775807) (hL : ∀ d, some d ∈ D → Lg w d.p d.m d.M) (hW : Within (mats D) K) (hK : K.length ≤ 17592186044415) :
    Calls Try.prog 18 #[.slice a n c] w fun r w' => ∃ (a' : Option Addr) (n' c' : Nat) (X : List Ix), r = .returned (.slice a' n' c') ∧ Hid (X.length = n') ∧ Hid (OwnX w.heap.size w' (.slice a' n' c') n' X) ∧
      Hid (X.Pairwise (fun x y => ltI x y = true)) ∧ Hid (∀ t, t ∈ X ↔ ∃ v, viewOf (mats D) t = some v ∧ v.df = true) ∧ Hid (Below w.heap.size w w') := by
  have HR := hid hrow
  have HLN := hid hn
  have HL := hid hL
  have HW := hid hW
  have mk1 : ∀ W, (Instr.makeMap 71 none).run Try.prog W = .ok (.map (some W.heap.size)) (W.alloc (.map #[] 0)) := fun W => run_makeMap _ W
  obtain ⟨w0, hw0⟩ : ∃ w0, w0 = w.alloc (.map #[] 0) := ⟨_, rfl⟩
  have hb0 : Below w.heap.size w w0 := by rw [hw0]; exact Below.al (Below.refl _ _) _
  have hV0 : MapO ixv Vw.val w0 (some w.heap.size) [] := by rw [hw0]; exact ⟨#[], 0, (MapKept.heap_alloc _ _).1, MapKept.stamped_empty 0, by simp, by simp⟩
  have HB0 := hid hb0
  have HV0 := hid hV0
  obtain ⟨i0, hi, hz0, hz1, hz2⟩ := info_of infoTx
  clear hrow hn hL hW hb0 hV0
  go_enter Try.func18, Try.ntmps18
  go_wp2_with fail
  rw [← hw0]
  clear hw0 mk1
  go_loopg [12] n (fun g s12 wr => ∃ (k : Nat) (V : List (Ix × Vw)), k ≤ n ∧ g = n - k ∧ s12 = .int .i64 k ∧ Hid (MapO ixv Vw.val wr (some w.heap.size) V) ∧ Hid (∀ t, getA V t = viewOf (mats (D.take k)) t) ∧ Hid (V.length ≤ sumL (D.take k)) ∧ Hid (Onl (fun c => c = w.heap.size) w0 wr))
  case atStart => exact ⟨0, [], by omega, by omega, rfl, HV0, fun t => rfl, hid (by simp), Onl.refl _ _⟩
  case round =>
    obtain ⟨k, V, hk, rfl, rfl, HV, HG, HLE, HO⟩ := hrel
    have HBr : Hid (Below w.heap.size w wr) := HB0.out.trans (HO.out.below (B := w.heap.size) (fun i hi => by omega) HB0.out.size)
    by_cases hlt : k < n
    · obtain ⟨b, off, eb, hc⟩ := RowC.later HR.out HBr.out k (by rw [HLN.out]; exact hlt)
      have hk1 : (k : Int) < (n : Int) := by omega
      obtain ⟨d, hde⟩ : ∃ d, d = nthD D k := ⟨_, rfl⟩
      have hde' : (D[k]?).getD none = d := hde.symm
      rw [hde'] at hc
      have hg0 : wr.cell? ⟨b, off + k, none⟩ = some (ptv d) := by have := hc 0 _ rfl; simpa using this
      subst eb
      have hmem : d ∈ D := by
        rw [hde]
        have e : nthD D k = D[k]'(by rw [HLN.out]; exact hlt) := by simp [nthD, HLN.out, hlt]
        rw [e]; exact List.getElem_mem _
      have e1 : mats (D.take (k + 1)) = mats (D.take k) ++ [matOf d] := by rw [nthD_take (by rw [HLN.out]; exact hlt), ← hde]; simp
      have e2 : sumL (D.take (k + 1)) = sumL (D.take k) + (matOf d).length := by rw [nthD_take (by rw [HLN.out]; exact hlt), ← hde, sumL_snoc]
      have E1 := hid e1
      have E2 := hid e2
      cases d with
      | none =>
        have g0 : wr.cell? ⟨b, off + k, none⟩ = some (.pointer none) := hg0
        have HG' : Hid (∀ t, getA V t = viewOf (mats (D.take (k + 1))) t) := fun t => by rw [E1.out, viewOf_snoc, ← HG.out t]; rfl
        have HLE' : Hid (V.length ≤ sumL (D.take (k + 1))) := hid (by have := HLE.out; have := E2.out; omega)
        clear hc hg0 hde hde' hmem e1 e2
        go_wp2_with fail
        go_roundg (n - (k + 1))
        case measure => omega
        case rel => exact ⟨k + 1, V, by omega, rfl, by go_num, HV, HG', HLE', HO⟩
      | some d =>
        have g0 : wr.cell? ⟨b, off + k, none⟩ = some (.pointer (some ⟨d.p, 0, none⟩)) := hg0
        have hLd := HL.out d hmem
        have hm1 : d.m ≠ some w.heap.size := fun e => by have := hLd.ents.lt _ e; omega
        have TE := hid (tell_is (hLd.later HBr.out) HV.out hm1)
        clear hc hg0 hde hde' hmem e1 e2 hLd hm1
        go_wp2_with fail
        refine TE.out.mono ?_
        rintro r w1 ⟨rfl, V', HV', HG1, HLE1, HO1⟩
        have HG' : Hid (∀ t, getA V' t = viewOf (mats (D.take (k + 1))) t) := fun t => by rw [E1.out, viewOf_snoc, ← HG.out t]; exact HG1.out t
        have HLE' : Hid (V'.length ≤ sumL (D.take (k + 1))) := hid (by have h1 := HLE.out; have h2 := E2.out; have h3 := HLE1.out; have h4 : (matOf (some d)).length = d.M.length := rfl; omega)
        have HO' := hid (HO.out.trans HO1.out)
        clear TE g0
        go_wp2_with fail
        go_roundg (n - (k + 1))
        case measure => omega
        case rel => exact ⟨k + 1, V', by omega, rfl, by go_num, HV', HG', HLE', HO'⟩
    · obtain rfl : k = n := by omega
      rename World => w4
      have HGV : Hid (∀ t, getA V t = viewOf (mats D) t) := by
        have := HG.out
        rwa [← HLN.out, List.take_length] at this
      have HND := hid (HV.out.nodup (P := Try.prog) ids)
      have hVl : V.length ≤ 17592186044415 := Nat.le_trans (keys_len HND.out HGV.out HW.out) hK
      obtain ⟨o, hr, R0⟩ := HV.out.range (P := Try.prog) Try.underlying71
      have RR := hid R0
      have HVL := hid hVl
      clear R0 hVl HLE HG HV0
      go_wp2_with fail
      go_loopg [6] V.length (fun g s6 wr => ∃ (todo : List (Ix × Vw)) (X : List Ix) (a' : Option Addr) (n' c' : Nat), g = todo.length ∧ s6 = .slice a' n' c' ∧ Hid (X.length = n') ∧ Hid (OwnX w.heap.size wr (.slice a' n' c') n' X) ∧
        Hid ((X ++ (todo.filter (fun q => q.2.df)).map (·.1)).Perm ((V.filter (fun q => q.2.df)).map (·.1))) ∧ Hid (RngO ixv Vw.val wr (some w.heap.size) w4.heap.size V todo) ∧ Hid (Below w.heap.size w wr))
      case atStart =>
        refine ⟨V, [], none, 0, 0, rfl, rfl, rfl, ⟨rfl, .inl ⟨rfl, rfl⟩⟩, hid (by simp), RR, Below.al HBr.out _⟩
      case round =>
        obtain ⟨todo, X, a', n', c', rfl, rfl, HN, HX, HP, HG, HB⟩ := hrel
        clear hr RR
        have hnM : n' + 1 ≤ 17592186044416 := by
          have h1 := HP.out.length_eq
          have h2 := HN.out
          have h3 := List.length_filter_le (fun q : Ix × Vw => q.2.df) V
          have h4 := HVL.out
          rw [List.length_append, List.length_map, List.length_map] at h1
          omega
        have hs4 : w.heap.size ≤ w4.heap.size := HBr.out.size
        rcases HG.out.next Try.prog with ⟨rfl, hn⟩ | ⟨⟨j, v⟩, todo', w1, hpm, hpI, hn, R1, hen, hon, hsz⟩
        · have SO := hid (sortX_is HX.out HN.out (by omega))
          go_wp2_with fail
          refine SO.out.mono ?_
          rintro e w2 ⟨rfl, X', hpX, hsX, hoX, honl⟩
          have hB2 : Below w.heap.size w w2 := HB.out.trans (honl.below (B := w.heap.size) (fun b hb => (HX.out.lt b hb).1) HB.out.size)
          have hpf : X'.Perm ((V.filter (fun q => q.2.df)).map (·.1)) := hpX.trans (by simpa using HP.out)
          have hnd : X'.Nodup := hpf.nodup_iff.2 (HND.out.sublist (List.Sublist.map _ List.filter_sublist))
          have HFin : Hid (X'.length = n') ∧ Hid (OwnX w.heap.size w2 (.slice a' n' c') n' X') ∧ Hid (X'.Pairwise (fun x y => ltI x y = true)) ∧ Hid (∀ t, t ∈ X' ↔ ∃ v, viewOf (mats D) t = some v ∧ v.df = true) ∧ Hid (Below w.heap.size w w2) := by
            refine ⟨hid (by rw [hpX.length_eq]; exact HN.out), hoX, rise_strict hnd hsX, fun t => ?_, hB2⟩
            rw [hpf.mem_iff, List.mem_map]
            constructor
            · rintro ⟨q, hq, rfl⟩
              obtain ⟨h1, h2⟩ := List.mem_filter.1 hq
              exact ⟨q.2, by rw [← HGV.out]; exact getA_of HND.out h1, h2⟩
            · rintro ⟨v, h1, h2⟩
              rw [← HGV.out] at h1
              exact ⟨(t, v), List.mem_filter.2 ⟨getA_mem h1, h2⟩, rfl⟩
          clear hpX hsX hoX honl hB2 hpf hnd
          go_wp2_with fail
          go_ret
          exact ⟨a', n', c', X', rfl, HFin⟩
        · have hb1 : Below w.heap.size w w1 := (HB.out.trans (hon.below (B := w.heap.size) (fun k hk => by omega) (HB.out.size)))
          have hO1 : OwnX w.heap.size w1 (.slice a' n' c') n' X := owns_keep HX.out fun g hg => hon.block g (HX.out.lt g hg).2 (iter_ne HG.out (own_type HX.out hg))
          have hpl : todo'.length + 1 = todo.length := by have := hpm.length_eq; simpa using this.symm
          have HPM := hid hpm
          have HR1 := hid R1
          have HB1 := hid hb1
          have HO1 := hid hO1
          simp only [Vw.val, ixv] at hn hen
          clear R1 hb1 hO1 hpm hpI hon HG HB HX hsz
          have hs1 : w.heap.size ≤ w1.heap.size := HB1.out.size
          obtain ⟨w3, hw3⟩ : ∃ w3, w3 = (w1.alloc (.cells #[.int .u32 j.1, .int .u32 j.2] 27)).alloc (.cells #[.int .u32 v.first.id.1, .int .u32 v.first.id.2, .int .u32 v.first.home, .int .i64 v.first.oc, .int .u64 v.first.w, .int .u32 v.first.l, .int .u32 v.first.n, .bool v.df] 74) := ⟨_, rfl⟩
          have hb3 : Below w1.heap.size w1 w3 := by rw [hw3]; exact Below.al (Below.al (Below.refl _ _) _) _
          have HB3 := hid hb3
          obtain ⟨u, hu⟩ : ∃ u, v.df = u := ⟨_, rfl⟩
          rw [hu] at hn hen hw3
          cases u with
          | false =>
            have HP6 : Hid ((X ++ (todo'.filter (fun q => q.2.df)).map (·.1)).Perm ((V.filter (fun q => q.2.df)).map (·.1))) := by
              have := perm_stepV (d := []) HP.out HPM.out (by simp [hu])
              exact hid (by simpa using this)
            have HOF : Hid (OwnX w.heap.size w3 (.slice a' n' c') n' X) := owns_keep HO1.out fun g hg => hb3.block g (HO1.out.lt g hg).2
            have HRF : Hid (RngO ixv Vw.val w3 (some w.heap.size) w4.heap.size V todo') := HR1.out.later hb3
            have HBF : Hid (Below w.heap.size w w3) := Below.on HB1.out hb3
            clear hu hb3
            go_wp2_with fail
            rw [← hw3]
            go_roundg todo'.length
            case measure => omega
            case rel => exact ⟨todo', X, a', n', c', rfl, rfl, HN, HOF, HP6, HRF, HBF⟩
          | true =>
            have HP6 : Hid ((X ++ [j] ++ (todo'.filter (fun q => q.2.df)).map (·.1)).Perm ((V.filter (fun q => q.2.df)).map (·.1))) := perm_stepV (d := [j]) HP.out HPM.out (by simp [hu])
            clear hu
            obtain ⟨w5, hw5⟩ : ∃ w5, w5 = w3.alloc (.cells #[.int .u32 j.1, .int .u32 j.2] 27) := ⟨_, rfl⟩
            have hb15 : Below w1.heap.size w1 w5 := by rw [hw5]; exact Below.al hb3 _
            have hO5 : OwnX w.heap.size w5 (.slice a' n' c') n' X := owns_keep HO1.out fun g hg => hb15.block g (HO1.out.lt g hg).2
            have e3s : w3.heap.size = w1.heap.size + 1 + 1 := by rw [hw3]; simp
            have blk5 : w5.heap[w1.heap.size + 1 + 1]? = some (.cells (tcs j).toArray 27) := by
              rw [hw5, ← e3s]; exact (MapKept.heap_alloc _ _).1
            have hcl : ∀ i x, (tcs j)[i]? = some x → w5.cell? ((⟨w1.heap.size + 1 + 1, 0, none⟩ : Addr).add i) = some x := fun i x hj => by
              rw [Addr.add_lit, Nat.zero_add]
              exact cell_of_obj blk5 (by simpa using hj)
            have HO5 := hid hO5
            have HCL := hid hcl
            have HB15 := hid hb15
            have hs5 : w.heap.size ≤ w5.heap.size := Nat.le_trans hs1 hb15.size
            rw [hw3] at hw5
            clear hO5 hcl hb15 blk5 hb3 e3s hw3
            go_wp2_with (at_builtin; refine wpList_append_own _ rfl _ _ 45 rfl w.heap.size 27 i0 (ixv (0, 0)) 2 8 Try.underlying45 hi hz0 hz1 hz2 rfl (by decide) (.slice a' n' c') n' (X.flatMap tcs) rfl (by rw [← hw5]; exact HO5.out) ⟨w1.heap.size + 1 + 1, 0, none⟩ 1 1 (tcs j) rfl rfl (by rw [← hw5]; exact HCL.out) (tcs_one j) (by unfold maxLen; omega) (by omega) (by rw [← hw5]; exact hs5) ?_)
            intro v2 w6 hown hgrow hnil
            rw [← hw5] at hgrow
            obtain ⟨a2, c2, rfl⟩ := owns_slice hown
            have hB6 : Below w.heap.size w w6 := Below.grown (Below.on HB1.out HB15.out) hgrow (by exact hs5) (fun k hk => (HO5.out.lt k hk).1)
            have R6 : RngO ixv Vw.val w6 (some w.heap.size) w4.heap.size V todo' := rng_grown (HR1.out.later HB15.out) hgrow (fun g e => by
              obtain ⟨cur, hc⟩ := own_type HO5.out e
              exact ⟨cur, _, hc⟩)
            have HFin : Hid ((X ++ [j]).length = n' + 1) ∧ Hid (OwnX w.heap.size w6 (.slice a2 (n' + 1) c2) (n' + 1) (X ++ [j])) ∧ Hid (RngO ixv Vw.val w6 (some w.heap.size) w4.heap.size V todo') ∧ Hid (Below w.heap.size w w6) := by
              refine ⟨hid (by rw [List.length_append, HN.out]; rfl), hid ?_, R6, hB6⟩
              unfold OwnX
              rw [List.flatMap_append]
              simpa using hown
            clear hown hgrow hnil hB6 R6
            go_wp2_with fail
            go_roundg todo'.length
            case measure => omega
            case rel => exact ⟨todo', X ++ [j], a2, n' + 1, c2, rfl, rfl, HFin.1, HFin.2.1, HP6, HFin.2.2.1, HFin.2.2.2⟩
end Go.Proofs.Ytogjhpknlopajaa.Lg
