import Derived.Test.YtogjhpknlopajaaXTell
/- tell. -/
namespace Go.Proofs.Ytogjhpknlopajaa.Lg
open Go.RowKit Go.Sort Go.Shelf Go.Lib Lk
set_option linter.unusedVariables false

theorem putA_len {β : Type} (V : List (Ix × β)) (k : Ix) (v : β) : (putA V k v).length ≤ V.length + 1 := by
  unfold putA
  split <;> simp
theorem iter_neV {m : Option Nat} {r : Nat} {w : World} {ps todo : List (Ix × En)} (h : RngO ixv En.val w m r ps todo) {b : Nat} {V : List (Ix × Vw)} (hb : MapO ixv Vw.val w (some b) V) : b ≠ r := by
  rintro rfl
  obtain ⟨es, clock, hc, _⟩ := hb.at
  cases m with
  | none => have := h.2.2; rw [hc] at this; cases this
  | some c =>
    obtain ⟨es, clock, since, seen, c0, _, _, _, _, hr, _⟩ := h.at
    rw [hc] at hr; cases hr
set_option maxHeartbeats 4000000 in
theorem tell_is {w : World} {p b : Nat} {m : Option Nat} {M : List En} {V : List (Ix × Vw)} (T : Lg w p m M) (hV : MapO ixv Vw.val w (some b) V) (hmb : m ≠ some b) :
    Calls Try.prog 32 #[.pointer (some ⟨p, 0, none⟩), .map (some b)] w fun r w' => r = .returned (.tuple #[]) ∧
      ∃ V', Hid (MapO ixv Vw.val w' (some b) V') ∧ Hid (∀ t, getA V' t = stepV (getA V t) (outM M t)) ∧ Hid (V'.length ≤ V.length + M.length) ∧ Hid (Onl (fun c => c = b) w w') := by
  have c0 := T.c0
  obtain ⟨o, hr, R0⟩ := T.ents.range (P := Try.prog) Try.underlying65
  have RR := hid R0
  have HT := hid T
  have HMB := hid hmb
  have HND := hid T.nodup
  have hblt : b < w.heap.size := hV.lt b rfl
  have HV0 : Hid (MapO ixv Vw.val (w.alloc o) (some b) V) := hV.later (Below.al (Below.refl _ _) _)
  clear T R0 hV hmb
  go_enter Try.func32, Try.ntmps32
  go_wp2_with fail
  go_loopg [] M.length (fun g wr => ∃ (todo : List (Ix × En)) (Vc : List (Ix × Vw)), g = todo.length ∧ Hid (Telling M V Vc todo) ∧ Hid (Vc.length + todo.length ≤ V.length + M.length) ∧ Hid (MapO ixv Vw.val wr (some b) Vc) ∧ Hid (RngO ixv En.val wr m w.heap.size (prsE M) todo) ∧ Hid (Onl (fun c => c = b) w wr))
  case atStart => exact ⟨prsE M, V, by simp, telling_start HND.out, hid (by simp), HV0, RR, Onl.al (Onl.refl _ _) _⟩
  case round =>
    obtain ⟨todo, Vc, rfl, HTE, HLE, HVC, HG, HO⟩ := hrel
    clear hr c0 RR HV0
    rcases HG.out.next Try.prog with ⟨rfl, hn⟩ | ⟨⟨j, e⟩, todo', w1, hpm, hpI, hn, R1, hen, hon, hsz⟩
    · have HFin : Hid (∀ t, getA Vc t = stepV (getA V t) (outM M t)) := fun t => by
        have := HTE.out.2.2 t
        simpa using this
      go_wp2_with fail
      first | go_end0 | refine bodyPost_ret (results_none rfl _ _ _) rfl ?_
      exact ⟨rfl, Vc, HVC, HFin, hid (by have := HLE.out; simpa using this), HO⟩
    · have hpl : todo'.length + 1 = todo.length := by have := hpm.length_eq; simpa using this.symm
      have hbr : b ≠ w.heap.size := iter_neV HG.out HVC.out
      have hV1 : MapO ixv Vw.val w1 (some b) Vc := HVC.out.same (fun c k => by injection k with k; subst k; exact hon.block _ (HVC.out.lt _ rfl) hbr)
      have hO1 : Onl (fun c => c = b) w w1 := HO.out.fresh hon (fun i hi => .inr (by omega))
      have HPM := hid hpm
      have HR1 := hid R1
      have HV1 := hid hV1
      have HO1 := hid hO1
      simp only [En.val, ixv] at hn hen
      obtain ⟨v, ok, h1, h2, hlook⟩ := look_vw hV1 j
      have H1 := hid h1
      have H2 := hid h2
      obtain ⟨w3, hw3⟩ : ∃ w3, w3 = (w1.alloc (.cells #[.int .u32 j.1, .int .u32 j.2] 27)).alloc (.cells #[.int .u32 e.id.1, .int .u32 e.id.2, .int .u32 e.home, .int .i64 e.oc, .int .u64 e.w, .int .u32 e.l, .int .u32 e.n] 33) := ⟨_, rfl⟩
      have hb3 : Below w1.heap.size w1 w3 := by rw [hw3]; exact Below.al (Below.al (Below.refl _ _) _) _
      have hs3 : w1.heap.size + 1 < w3.heap.size := by rw [hw3]; simp
      have HS3 : Hid (w3.heap.size = w1.heap.size + 1 + 1) := by rw [hw3]; exact hid (by simp)
      have lk : (Instr.lookup 71 (.map (some b)) (.agg #[.int .u32 j.1, .int .u32 j.2]) true).run Try.prog w3 = .ok (.tuple #[.agg #[.int .u32 v.first.id.1, .int .u32 v.first.id.2, .int .u32 v.first.home, .int .i64 v.first.oc, .int .u64 v.first.w, .int .u32 v.first.l, .int .u32 v.first.n, .bool v.df], .bool ok]) w3 := hlook w3 (hb3.block b (hV1.lt b rfl))
      rw [hw3] at lk
      have hk4 : w3.heap[w1.heap.size]? = some (.cells #[.int .u32 j.1, .int .u32 j.2] 27) := by
        rw [hw3, (MapKept.heap_alloc _ _).2 _ (by simp)]; exact (MapKept.heap_alloc _ _).1
      have hk5 : w3.heap[w1.heap.size + 1]? = some (.cells #[.int .u32 e.id.1, .int .u32 e.id.2, .int .u32 e.home, .int .i64 e.oc, .int .u64 e.w, .int .u32 e.l, .int .u32 e.n] 33) := by
        rw [hw3, show w1.heap.size + 1 = (w1.alloc (.cells #[.int .u32 j.1, .int .u32 j.2] 27)).heap.size by simp]; exact (MapKept.heap_alloc _ _).1
      have HK4 := hid hk4
      have HK5 := hid hk5
      have HB3 := hid hb3
      clear R1 hpm hpI hon hV1 hO1 h1 h2 hlook hk4 hk5 hb3 HG HVC HO hsz
      go_upto_if 25 with fail
      have e6 : (w1.alloc (.cells #[.int .u32 j.1, .int .u32 j.2] 27)).alloc (.cells #[.int .u32 e.id.1, .int .u32 e.id.2, .int .u32 e.home, .int .i64 e.oc, .int .u64 e.w, .int .u32 e.l, .int .u32 e.n] 33) = w3 := hw3.symm
      rw [e6]
      clear e6 lk hw3
      obtain ⟨wz, hwz⟩ : ∃ wz, wz = w3.alloc (.cells #[.int .u32 v.first.id.1, .int .u32 v.first.id.2, .int .u32 v.first.home, .int .i64 v.first.oc, .int .u64 v.first.w, .int .u32 v.first.l, .int .u32 v.first.n, .bool v.df] 74) := ⟨_, rfl⟩
      have hbz : Below w3.heap.size w3 wz := by rw [hwz]; exact Below.al (Below.refl _ _) _
      have e3s : w3.heap.size = w1.heap.size + 1 + 1 := HS3.out
      have hk6 : wz.heap[w1.heap.size + 1 + 1]? = some (.cells #[.int .u32 v.first.id.1, .int .u32 v.first.id.2, .int .u32 v.first.home, .int .i64 v.first.oc, .int .u64 v.first.w, .int .u32 v.first.l, .int .u32 v.first.n, .bool v.df] 74) := by rw [hwz, ← e3s]; exact (MapKept.heap_alloc _ _).1
      have hk5 := (hbz.block _ hs3).trans HK5.out
      have HK6 := hid hk6
      have HBZ := hid hbz
      have HB1Z : Hid (Below w1.heap.size w1 wz) := Below.on HB3.out hbz
      rw [← hwz]
      clear hwz e3s hbz
      have f6 : ∀ o, wz.frozen? ⟨w1.heap.size + 1 + 1, o, none⟩ = false := fun o => by simp [World.frozen?, hk6]
      have x0 : wz.cell? ⟨w1.heap.size + 1, 0, none⟩ = some (.int .u32 e.id.1) := cell_of_obj hk5 rfl
      have x1 : wz.cell? ⟨w1.heap.size + 1, 1, none⟩ = some (.int .u32 e.id.2) := cell_of_obj hk5 rfl
      have x2 : wz.cell? ⟨w1.heap.size + 1, 2, none⟩ = some (.int .u32 e.home) := cell_of_obj hk5 rfl
      have x3 : wz.cell? ⟨w1.heap.size + 1, 3, none⟩ = some (.int .i64 e.oc) := cell_of_obj hk5 rfl
      have x4 : wz.cell? ⟨w1.heap.size + 1, 4, none⟩ = some (.int .u64 e.w) := cell_of_obj hk5 rfl
      have x5 : wz.cell? ⟨w1.heap.size + 1, 5, none⟩ = some (.int .u32 e.l) := cell_of_obj hk5 rfl
      have x6 : wz.cell? ⟨w1.heap.size + 1, 6, none⟩ = some (.int .u32 e.n) := cell_of_obj hk5 rfl
      have r0 : wz.cell? ⟨w1.heap.size + 1 + 1, 0, none⟩ = some (.int .u32 v.first.id.1) := cell_of_obj hk6 rfl
      have r1 : wz.cell? ⟨w1.heap.size + 1 + 1, 1, none⟩ = some (.int .u32 v.first.id.2) := cell_of_obj hk6 rfl
      have r2 : wz.cell? ⟨w1.heap.size + 1 + 1, 2, none⟩ = some (.int .u32 v.first.home) := cell_of_obj hk6 rfl
      have r3 : wz.cell? ⟨w1.heap.size + 1 + 1, 3, none⟩ = some (.int .i64 v.first.oc) := cell_of_obj hk6 rfl
      have r4 : wz.cell? ⟨w1.heap.size + 1 + 1, 4, none⟩ = some (.int .u64 v.first.w) := cell_of_obj hk6 rfl
      have r5 : wz.cell? ⟨w1.heap.size + 1 + 1, 5, none⟩ = some (.int .u32 v.first.l) := cell_of_obj hk6 rfl
      have r6 : wz.cell? ⟨w1.heap.size + 1 + 1, 6, none⟩ = some (.int .u32 v.first.n) := cell_of_obj hk6 rfl
      have r7 : wz.cell? ⟨w1.heap.size + 1 + 1, 7, none⟩ = some (.bool v.df) := cell_of_obj hk6 rfl
      clear hk5 hk6
      go_cut [] (fun wE => ∃ nv : Vw, Hid (some nv = stepV (getA Vc j) (some e)) ∧ Hid (wE.heap[w1.heap.size + 1 + 1]? = some (.cells #[.int .u32 nv.first.id.1, .int .u32 nv.first.id.2, .int .u32 nv.first.home, .int .i64 nv.first.oc, .int .u64 nv.first.w, .int .u32 nv.first.l, .int .u32 nv.first.n, .bool nv.df] 74)) ∧ Hid (Onl (fun c => c = w1.heap.size + 1 + 1) wz wE))
      case first =>
        cases ok with
        | false =>
          have hg : getA Vc j = none := by
            have := H1.out
            cases ho : getA Vc j with
            | none => rfl
            | some u => rw [ho] at this; cases this
          have hdf : v.df = false := by rw [H2.out, hg]; rfl
          have HNV : Hid (some (⟨e, false⟩ : Vw) = stepV (getA Vc j) (some e)) := by show _ = _; rw [hg]; rfl
          have HDF := hid hdf
          clear hg hdf
          go_wp2_with fail
          go_meet
          obtain ⟨hk8, ho8⟩ := storedV (u := e) HK6.out rfl
          rw [HDF.out] at hk8
          exact ⟨⟨e, false⟩, HNV, hk8, ho8⟩
        | true =>
          obtain ⟨u, hg⟩ : ∃ u, getA Vc j = some u := by
            have := H1.out
            cases ho : getA Vc j with
            | none => rw [ho] at this; cases this
            | some u => exact ⟨u, rfl⟩
          have huv : v = u := by rw [H2.out, hg]; rfl
          subst huv
          obtain ⟨z, hz⟩ : ∃ z, agrB e v.first = z := ⟨_, rfl⟩
          have AGR := hid (fun W => agree_is hz W)
          have HNV : Hid (some (⟨v.first, v.df || !z⟩ : Vw) = stepV (getA Vc j) (some e)) := by show _ = _; rw [hg, ← hz]; rfl
          clear hg hz H1 H2
          cases z with
          | true =>
            go_wp2_with (go_at_call 30; refine (AGR.out _).mono ?_; rintro r w9 ⟨rfl, hb9⟩)
            go_meet
            refine ⟨v, hid ?_, (hb9.block _ (Array.getElem?_eq_some_iff.1 HK6.out).1).trans HK6.out, Onl.of_below hb9⟩
            rw [← HNV.out]
            cases v; simp
          | false =>
            go_wp2_with (go_at_call 30; refine (AGR.out _).mono ?_; rintro r w9 ⟨rfl, hb9⟩; have hk9 := (hb9.block _ (Array.getElem?_eq_some_iff.1 HK6.out).1).trans HK6.out; have f9 : ∀ o, w9.frozen? ⟨w1.heap.size + 1 + 1, o, none⟩ = false := (fun o => by simp [World.frozen?, hk9]); have r9 : w9.cell? ⟨w1.heap.size + 1 + 1, 7, none⟩ = some (.bool v.df) := cell_of_obj hk9 rfl; have HK9 := hid hk9; clear hk9)
            go_meet
            refine ⟨⟨v.first, true⟩, hid ?_, ?_, ?_⟩
            · rw [← HNV.out]; simp
            · have := heap_setCell_same w9 (w1.heap.size + 1 + 1) 7 _ _ (.bool true) HK9.out
              refine hid ?_
              simpa using this
            · exact hid (Onl.set (F := fun c => c = w1.heap.size + 1 + 1) (Onl.of_below hb9) (by rfl) _ _)
      case rest =>
        obtain ⟨nv, HNV, HKE, HOE⟩ := hcut
        rename World => wE
        clear x0 x1 x2 x3 x4 x5 x6 r0 r1 r2 r3 r4 r5 r6 r7 f6
        have hbw : b < w1.heap.size := HV1.out.lt b rfl
        have hs1 : w.heap.size ≤ w1.heap.size := HO1.out.size
        have hVE : MapO ixv Vw.val wE (some b) Vc := (HV1.out.later HB1Z.out).same (fun c k => by injection k with k; subst k; exact HOE.out.block _ (Nat.lt_of_lt_of_le hbw HB1Z.out.size) (by omega))
        have hk4 : wE.heap[w1.heap.size]? = some (.cells #[.int .u32 j.1, .int .u32 j.2] 27) := (HOE.out.block _ (Nat.lt_of_lt_of_le (by omega) HBZ.out.size) (by omega)).trans ((HBZ.out.block _ (by omega)).trans HK4.out)
        have t0 : wE.cell? ⟨w1.heap.size, 0, none⟩ = some (.int .u32 j.1) := cell_of_obj hk4 rfl
        have t1 : wE.cell? ⟨w1.heap.size, 1, none⟩ = some (.int .u32 j.2) := cell_of_obj hk4 rfl
        have hkE := HKE.out
        have n0 : wE.cell? ⟨w1.heap.size + 1 + 1, 0, none⟩ = some (.int .u32 nv.first.id.1) := cell_of_obj hkE rfl
        have n1 : wE.cell? ⟨w1.heap.size + 1 + 1, 1, none⟩ = some (.int .u32 nv.first.id.2) := cell_of_obj hkE rfl
        have n2 : wE.cell? ⟨w1.heap.size + 1 + 1, 2, none⟩ = some (.int .u32 nv.first.home) := cell_of_obj hkE rfl
        have n3 : wE.cell? ⟨w1.heap.size + 1 + 1, 3, none⟩ = some (.int .i64 nv.first.oc) := cell_of_obj hkE rfl
        have n4 : wE.cell? ⟨w1.heap.size + 1 + 1, 4, none⟩ = some (.int .u64 nv.first.w) := cell_of_obj hkE rfl
        have n5 : wE.cell? ⟨w1.heap.size + 1 + 1, 5, none⟩ = some (.int .u32 nv.first.l) := cell_of_obj hkE rfl
        have n6 : wE.cell? ⟨w1.heap.size + 1 + 1, 6, none⟩ = some (.int .u32 nv.first.n) := cell_of_obj hkE rfl
        have n7 : wE.cell? ⟨w1.heap.size + 1 + 1, 7, none⟩ = some (.bool nv.df) := cell_of_obj hkE rfl
        obtain ⟨w6, hput, hm6, ho6, _⟩ := hVE.put (P := Try.prog) ids Try.underlying71 j nv
        simp only [ixv, Vw.val] at hput
        have hRz := HR1.out.later HB1Z.out
        have hRE : RngO ixv En.val wE m w.heap.size (prsE M) todo' := hRz.same (fun c k => HOE.out.block _ (hRz.lt.2 c k) (fun e => by have := HR1.out.lt.2 c k; omega)) (HOE.out.block _ hRz.lt.1 (by have := HR1.out.lt.1; omega))
        have hR6 : RngO ixv En.val w6 m w.heap.size (prsE M) todo' := hRE.same (fun c k => ho6.block _ (hRE.lt.2 c k) (fun e => HMB.out (by rw [k, e]))) (ho6.block _ hRE.lt.1 (fun e => hbr e))
        have HO6 : Hid (Onl (fun c => c = b) w w6) := (((HO1.out.on HB1Z.out).fresh HOE.out (fun i hi => .inr (by omega))).fresh ho6 (fun i hi => .inl hi.symm))
        have HM6 := hid hm6
        have HR6 := hid hR6
        have HT6 := hid (telling_step HTE.out HPM.out HNV.out)
        clear hVE hk4 hkE hm6 ho6 hRz hRE hR6
        go_wp2_with fail
        go_roundg todo'.length
        case measure => omega
        case rel => exact ⟨todo', putA Vc j nv, rfl, HT6, hid (by have h1 := HLE.out; have h2 := putA_len Vc j nv; omega), HM6, HR6, HO6⟩
end Go.Proofs.Ytogjhpknlopajaa.Lg
