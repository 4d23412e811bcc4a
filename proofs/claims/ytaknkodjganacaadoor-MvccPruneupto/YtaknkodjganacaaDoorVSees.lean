import Derived.Test.YtaknkodjganacaaDoorVSeesP
import Derived.Test.YtaknkodjganacaaDoorVSmall
namespace Go.Proofs.YtaknkodjganacaaDoor.Vs
open Go.RowKit Go.Sort
set_option linter.unusedVariables false

set_option maxHeartbeats 4000000 in
set_option maxRecDepth 16000 in
theorem sees_is {w : World} {a : Option Addr} {cc : Nat} {l : List Kv} {mk : Sp} (h : RowV w a l) (hl : l.length ≤ 1048576) :
    Calls Tryd.prog 28 #[.slice a l.length cc, sv mk] w fun e w' => e = .returned (.int .i64 (seeL mk l : Nat)) ∧ Below w.heap.size w w' := by
  obtain ⟨wa, hwa⟩ : ∃ wa, wa = w.alloc (.cells #[.int .u64 mk.a, .int .u32 mk.b, .int .u32 mk.c] 26) := ⟨_, rfl⟩
  have hba : Below w.heap.size w wa := by rw [hwa]; exact Below.al (Below.refl _ _) _
  have HST : Hid (StB wa w.heap.size mk) := by rw [hwa]; exact World.alloc_heap_new _ _
  have HR := hid (h.later hba)
  have HBA := hid hba
  obtain ⟨B, hB⟩ : ∃ B, B = w.heap.size := ⟨_, rfl⟩
  have hBs : Hid (B ≤ wa.heap.size) := hid (by rw [hB]; exact hba.size)
  rw [← hB] at HST HBA ⊢
  clear h hba
  go_enter Tryd.func28, Tryd.ntmps28
  go_wp2_with fail
  rw [← hwa, ← hB]
  clear hwa hB
  go_loopg [5, 6] l.length (fun g s5 s6 wr => ∃ i c : Nat, i ≤ l.length ∧ g = l.length - i ∧ s6 = .int .i64 i ∧ s5 = .int .i64 c ∧ Hid (c + seeL mk (l.drop i) = seeL mk l) ∧ Hid (Below wa.heap.size wa wr))
  case atStart => exact ⟨0, 0, by omega, by omega, rfl, rfl, by show _ = _; simp, Below.refl _ _⟩
  case round =>
    obtain ⟨i, c, hil, rfl, rfl, rfl, HC, HB⟩ := hrel
    have hcl : c ≤ 1048576 := by have h1 := HC.out; have h2 := seeL_le mk l; omega
    by_cases hlt : i < l.length
    · obtain ⟨b, off, hab, ve⟩ := (HR.out.later HB.out) i hlt
      obtain ⟨e, he⟩ : ∃ e, e = nthK l i := ⟨_, rfl⟩
      have HE : Hid (nthK l i = e) := he.symm
      rw [← he] at ve
      clear he
      have HLT := hid hlt
      have HRR := hid (HR.out.later HB.out)
      subst hab
      obtain ⟨ek, es, ed, ev⟩ := e
      have e0 : wr.cell? ⟨b, off + i * 6, none⟩ = some (.string ek) := ve.c0
      have e1 : wr.cell? ⟨b, off + i * 6 + 1, none⟩ = some (.int .u64 es.a) := ve.c1
      have e2 : wr.cell? ⟨b, off + i * 6 + 2, none⟩ = some (.int .u32 es.b) := ve.c2
      have e3 : wr.cell? ⟨b, off + i * 6 + 3, none⟩ = some (.int .u32 es.c) := ve.c3
      have e4 : wr.cell? ⟨b, off + i * 6 + 4, none⟩ = some (.bool ed) := ve.c4
      have hst := HST.out.later HB.out
      have t0 : wr.cell? ⟨B, 0, none⟩ = some (.int .u64 mk.a) := cell_of_obj hst rfl
      have t1 : wr.cell? ⟨B, 1, none⟩ = some (.int .u32 mk.b) := cell_of_obj hst rfl
      have t2 : wr.cell? ⟨B, 2, none⟩ = some (.int .u32 mk.c) := cell_of_obj hst rfl
      have k0 := cell_regrown e0; have k1 := cell_regrown e1; have k2 := cell_regrown e2; have k3 := cell_regrown e3; have k4 := cell_regrown e4
      have n0 := cell_regrown t0; have n1 := cell_regrown t1; have n2 := cell_regrown t2
      have hwi : IntKind.i64.wrap ((i : Int) + 1) = ((i + 1 : Nat) : Int) := by rw [IntKind.wrap_i64]; omega
      clear ve hst
      by_cases hend : i + 1 = l.length
      · have q0 : (((i : Int) + 1) == (l.length : Int)) = true := by rw [beq_iff_eq]; omega
        have q0' : (((i + 1 : Nat) : Int) == (l.length : Int)) = true := by rw [beq_iff_eq]; omega
        have HNB : Hid (newB mk (ek, ⟨es, ed, ev⟩) l[i + 1]? = true) := by show _ = _; rw [List.getElem?_eq_none (by omega)]; rfl
        clear hend
        go_wp2_with fail
        refine wp_region_quiet_below (by kernel_rfl) (by kernel_rfl) ?_
        repeat (go_big_quiet_step (fail))
        refine wpQuiet_nil ?_
        intro w3 hww3
        replace hww3 := below_of_regrown hww3
        clear k0 k1 k2 k3 k4 n0 n1 n2
        have g1 := cell_regrown (cell_later hww3 e1)
        have g2 := cell_regrown (cell_later hww3 e2)
        have g3 := cell_regrown (cell_later hww3 e3)
        have g4 := cell_regrown (cell_later hww3 e4)
        have m0 := cell_regrown (cell_later hww3 t0)
        have m1 := cell_regrown (cell_later hww3 t1)
        have m2 := cell_regrown (cell_later hww3 t2)
        cases hu : mk.lt es with
        | true =>
          have HSE : Hid (seeB mk (nthK l i) l[i + 1]? = true) := by show _ = _; rw [HE.out]; unfold seeB; rw [show mk.lt ((ek, (⟨es, ed, ev⟩ : Ver)) : Kv).2.s = true from hu]; rfl
          have B6 := hid (fun W => below_is hu W)
          clear hu
          go_wp2_with fail
          refine wp_region_quiet_below (by kernel_rfl) (by kernel_rfl) ?_
          repeat (go_big_quiet_step (((go_at_call 14; exact Calls.regrown_of (B6.out _)))))
          refine wpQuiet_nil ?_
          intro w4 hww4
          replace hww4 := below_of_regrown hww4
          go_wp2_with fail
          go_roundg (l.length - (i + 1))
          case measure => omega
          case rel => exact ⟨i + 1, c + 1, by omega, rfl, by go_num, by go_num, by show _ = _; have h1 := HC.out; have h3 := HSE.out; have h2 := seeL_at HLT.out mk; rw [h3] at h2; simp at h2; omega, Below.on (Below.on HB.out hww3) hww4⟩
        | false =>
          have hu0 : mk.lt ((ek, (⟨es, ed, ev⟩ : Ver)) : Kv).2.s = false := hu
          have B6 := hid (fun W => below_is hu W)
          cases ed with
          | true =>
            have HSE : Hid (seeB mk (nthK l i) l[i + 1]? = false) := by show _ = _; rw [HE.out]; unfold seeB; rw [hu0, HNB.out]; rfl
            clear hu hu0
            go_wp2_with fail
            refine wp_region_quiet_below (by kernel_rfl) (by kernel_rfl) ?_
            repeat (go_big_quiet_step (((go_at_call 14; exact Calls.regrown_of (B6.out _)))))
            refine wpQuiet_nil ?_
            intro w4 hww4
            replace hww4 := below_of_regrown hww4
            go_wp2_with fail
            go_roundg (l.length - (i + 1))
            case measure => omega
            case rel => exact ⟨i + 1, c, by omega, rfl, by go_num, rfl, by show _ = _; have h1 := HC.out; have h3 := HSE.out; have h2 := seeL_at HLT.out mk; rw [h3] at h2; simp at h2; omega, Below.on (Below.on HB.out hww3) hww4⟩
          | false =>
            have HSE : Hid (seeB mk (nthK l i) l[i + 1]? = true) := by show _ = _; rw [HE.out]; unfold seeB; rw [hu0, HNB.out]; rfl
            clear hu hu0
            go_wp2_with fail
            refine wp_region_quiet_below (by kernel_rfl) (by kernel_rfl) ?_
            repeat (go_big_quiet_step (((go_at_call 14; exact Calls.regrown_of (B6.out _)))))
            refine wpQuiet_nil ?_
            intro w4 hww4
            replace hww4 := below_of_regrown hww4
            go_wp2_with fail
            go_roundg (l.length - (i + 1))
            case measure => omega
            case rel => exact ⟨i + 1, c + 1, by omega, rfl, by go_num, by go_num, by show _ = _; have h1 := HC.out; have h3 := HSE.out; have h2 := seeL_at HLT.out mk; rw [h3] at h2; simp at h2; omega, Below.on (Below.on HB.out hww3) hww4⟩
      · have q0 : (((i : Int) + 1) == (l.length : Int)) = false := by rw [beq_eq_false_iff_ne]; omega
        have q0' : (((i + 1 : Nat) : Int) == (l.length : Int)) = false := by rw [beq_eq_false_iff_ne]; omega
        have hi1 : i + 1 < l.length := by omega
        obtain ⟨b', off', hab', vd⟩ := HRR.out (i + 1) hi1
        injection hab' with hab'; injection hab' with h1' h2'
        subst h1' h2'
        obtain ⟨d, hd⟩ : ∃ d, d = nthK l (i + 1) := ⟨_, rfl⟩
        have hg : l[i + 1]? = some d := by rw [hd, nthK_get hi1]; exact List.getElem?_eq_getElem hi1
        rw [← hd] at vd
        clear hd hend
        obtain ⟨dk, ds, dd, dv⟩ := d
        have r0 := cell_regrown (show wr.cell? ⟨b, off + (i + 1) * 6, none⟩ = some (.string dk) from vd.c0)
        have r1 := cell_regrown (show wr.cell? ⟨b, off + (i + 1) * 6 + 1, none⟩ = some (.int .u64 ds.a) from vd.c1)
        have r2 := cell_regrown (show wr.cell? ⟨b, off + (i + 1) * 6 + 2, none⟩ = some (.int .u32 ds.b) from vd.c2)
        have r3 := cell_regrown (show wr.cell? ⟨b, off + (i + 1) * 6 + 3, none⟩ = some (.int .u32 ds.c) from vd.c3)
        clear vd
        by_cases hk : dk = ek
        · have q1 := toList_beq' (decide_eq_true hk)
          cases hu1 : mk.lt ds with
          | true =>
            have HNB : Hid (newB mk (ek, ⟨es, ed, ev⟩) l[i + 1]? = true) := by show _ = _; rw [hg]; show (!decide (dk = ek) || mk.lt ds) = true; rw [hu1, Bool.or_true]
            have B5 := hid (fun W => below_is hu1 W)
            clear hu1 hg hk
            go_wp2_with fail
            refine wp_region_quiet_below (by kernel_rfl) (by kernel_rfl) ?_
            repeat (go_big_quiet_step (((go_at_call 14; exact Calls.regrown_of (B5.out _)))))
            refine wpQuiet_nil ?_
            intro w3 hww3
            replace hww3 := below_of_regrown hww3
            clear r0 r1 r2 r3
            clear k0 k1 k2 k3 k4 n0 n1 n2
            have g1 := cell_regrown (cell_later hww3 e1)
            have g2 := cell_regrown (cell_later hww3 e2)
            have g3 := cell_regrown (cell_later hww3 e3)
            have g4 := cell_regrown (cell_later hww3 e4)
            have m0 := cell_regrown (cell_later hww3 t0)
            have m1 := cell_regrown (cell_later hww3 t1)
            have m2 := cell_regrown (cell_later hww3 t2)
            cases hu : mk.lt es with
            | true =>
              have HSE : Hid (seeB mk (nthK l i) l[i + 1]? = true) := by show _ = _; rw [HE.out]; unfold seeB; rw [show mk.lt ((ek, (⟨es, ed, ev⟩ : Ver)) : Kv).2.s = true from hu]; rfl
              have B6 := hid (fun W => below_is hu W)
              clear hu
              go_wp2_with fail
              refine wp_region_quiet_below (by kernel_rfl) (by kernel_rfl) ?_
              repeat (go_big_quiet_step (((go_at_call 14; exact Calls.regrown_of (B6.out _)))))
              refine wpQuiet_nil ?_
              intro w4 hww4
              replace hww4 := below_of_regrown hww4
              go_wp2_with fail
              go_roundg (l.length - (i + 1))
              case measure => omega
              case rel => exact ⟨i + 1, c + 1, by omega, rfl, by go_num, by go_num, by show _ = _; have h1 := HC.out; have h3 := HSE.out; have h2 := seeL_at HLT.out mk; rw [h3] at h2; simp at h2; omega, Below.on (Below.on HB.out hww3) hww4⟩
            | false =>
              have hu0 : mk.lt ((ek, (⟨es, ed, ev⟩ : Ver)) : Kv).2.s = false := hu
              have B6 := hid (fun W => below_is hu W)
              cases ed with
              | true =>
                have HSE : Hid (seeB mk (nthK l i) l[i + 1]? = false) := by show _ = _; rw [HE.out]; unfold seeB; rw [hu0, HNB.out]; rfl
                clear hu hu0
                go_wp2_with fail
                refine wp_region_quiet_below (by kernel_rfl) (by kernel_rfl) ?_
                repeat (go_big_quiet_step (((go_at_call 14; exact Calls.regrown_of (B6.out _)))))
                refine wpQuiet_nil ?_
                intro w4 hww4
                replace hww4 := below_of_regrown hww4
                go_wp2_with fail
                go_roundg (l.length - (i + 1))
                case measure => omega
                case rel => exact ⟨i + 1, c, by omega, rfl, by go_num, rfl, by show _ = _; have h1 := HC.out; have h3 := HSE.out; have h2 := seeL_at HLT.out mk; rw [h3] at h2; simp at h2; omega, Below.on (Below.on HB.out hww3) hww4⟩
              | false =>
                have HSE : Hid (seeB mk (nthK l i) l[i + 1]? = true) := by show _ = _; rw [HE.out]; unfold seeB; rw [hu0, HNB.out]; rfl
                clear hu hu0
                go_wp2_with fail
                refine wp_region_quiet_below (by kernel_rfl) (by kernel_rfl) ?_
                repeat (go_big_quiet_step (((go_at_call 14; exact Calls.regrown_of (B6.out _)))))
                refine wpQuiet_nil ?_
                intro w4 hww4
                replace hww4 := below_of_regrown hww4
                go_wp2_with fail
                go_roundg (l.length - (i + 1))
                case measure => omega
                case rel => exact ⟨i + 1, c + 1, by omega, rfl, by go_num, by go_num, by show _ = _; have h1 := HC.out; have h3 := HSE.out; have h2 := seeL_at HLT.out mk; rw [h3] at h2; simp at h2; omega, Below.on (Below.on HB.out hww3) hww4⟩
          | false =>
            have HNB : Hid (newB mk (ek, ⟨es, ed, ev⟩) l[i + 1]? = false) := by show _ = _; rw [hg]; show (!decide (dk = ek) || mk.lt ds) = false; rw [hu1, hk]; simp
            have B5 := hid (fun W => below_is hu1 W)
            clear hu1 hg hk
            go_wp2_with fail
            refine wp_region_quiet_below (by kernel_rfl) (by kernel_rfl) ?_
            repeat (go_big_quiet_step (((go_at_call 14; exact Calls.regrown_of (B5.out _)))))
            refine wpQuiet_nil ?_
            intro w3 hww3
            replace hww3 := below_of_regrown hww3
            clear r0 r1 r2 r3
            clear k0 k1 k2 k3 k4 n0 n1 n2
            have g1 := cell_regrown (cell_later hww3 e1)
            have g2 := cell_regrown (cell_later hww3 e2)
            have g3 := cell_regrown (cell_later hww3 e3)
            have g4 := cell_regrown (cell_later hww3 e4)
            have m0 := cell_regrown (cell_later hww3 t0)
            have m1 := cell_regrown (cell_later hww3 t1)
            have m2 := cell_regrown (cell_later hww3 t2)
            cases hu : mk.lt es with
            | true =>
              have HSE : Hid (seeB mk (nthK l i) l[i + 1]? = true) := by show _ = _; rw [HE.out]; unfold seeB; rw [show mk.lt ((ek, (⟨es, ed, ev⟩ : Ver)) : Kv).2.s = true from hu]; rfl
              have B6 := hid (fun W => below_is hu W)
              clear hu
              go_wp2_with fail
              refine wp_region_quiet_below (by kernel_rfl) (by kernel_rfl) ?_
              repeat (go_big_quiet_step (((go_at_call 14; exact Calls.regrown_of (B6.out _)))))
              refine wpQuiet_nil ?_
              intro w4 hww4
              replace hww4 := below_of_regrown hww4
              go_wp2_with fail
              go_roundg (l.length - (i + 1))
              case measure => omega
              case rel => exact ⟨i + 1, c + 1, by omega, rfl, by go_num, by go_num, by show _ = _; have h1 := HC.out; have h3 := HSE.out; have h2 := seeL_at HLT.out mk; rw [h3] at h2; simp at h2; omega, Below.on (Below.on HB.out hww3) hww4⟩
            | false =>
              have hu0 : mk.lt ((ek, (⟨es, ed, ev⟩ : Ver)) : Kv).2.s = false := hu
              have B6 := hid (fun W => below_is hu W)
              have HSE : Hid (seeB mk (nthK l i) l[i + 1]? = false) := by show _ = _; rw [HE.out]; unfold seeB; rw [hu0, HNB.out]; rfl
              clear hu hu0
              go_wp2_with fail
              refine wp_region_quiet_below (by kernel_rfl) (by kernel_rfl) ?_
              repeat (go_big_quiet_step (((go_at_call 14; exact Calls.regrown_of (B6.out _)))))
              refine wpQuiet_nil ?_
              intro w4 hww4
              replace hww4 := below_of_regrown hww4
              go_wp2_with fail
              go_roundg (l.length - (i + 1))
              case measure => omega
              case rel => exact ⟨i + 1, c, by omega, rfl, by go_num, rfl, by show _ = _; have h1 := HC.out; have h3 := HSE.out; have h2 := seeL_at HLT.out mk; rw [h3] at h2; simp at h2; omega, Below.on (Below.on HB.out hww3) hww4⟩
        · have q1 := toList_beq' (decide_eq_false hk)
          have HNB : Hid (newB mk (ek, ⟨es, ed, ev⟩) l[i + 1]? = true) := by show _ = _; rw [hg]; show (!decide (dk = ek) || mk.lt ds) = true; rw [decide_eq_false hk]; rfl
          clear hg hk
          go_wp2_with fail
          refine wp_region_quiet_below (by kernel_rfl) (by kernel_rfl) ?_
          repeat (go_big_quiet_step (fail))
          refine wpQuiet_nil ?_
          intro w3 hww3
          replace hww3 := below_of_regrown hww3
          clear r0 r1 r2 r3
          clear k0 k1 k2 k3 k4 n0 n1 n2
          have g1 := cell_regrown (cell_later hww3 e1)
          have g2 := cell_regrown (cell_later hww3 e2)
          have g3 := cell_regrown (cell_later hww3 e3)
          have g4 := cell_regrown (cell_later hww3 e4)
          have m0 := cell_regrown (cell_later hww3 t0)
          have m1 := cell_regrown (cell_later hww3 t1)
          have m2 := cell_regrown (cell_later hww3 t2)
          cases hu : mk.lt es with
          | true =>
            have HSE : Hid (seeB mk (nthK l i) l[i + 1]? = true) := by show _ = _; rw [HE.out]; unfold seeB; rw [show mk.lt ((ek, (⟨es, ed, ev⟩ : Ver)) : Kv).2.s = true from hu]; rfl
            have B6 := hid (fun W => below_is hu W)
            clear hu
            go_wp2_with fail
            refine wp_region_quiet_below (by kernel_rfl) (by kernel_rfl) ?_
            repeat (go_big_quiet_step (((go_at_call 14; exact Calls.regrown_of (B6.out _)))))
            refine wpQuiet_nil ?_
            intro w4 hww4
            replace hww4 := below_of_regrown hww4
            go_wp2_with fail
            go_roundg (l.length - (i + 1))
            case measure => omega
            case rel => exact ⟨i + 1, c + 1, by omega, rfl, by go_num, by go_num, by show _ = _; have h1 := HC.out; have h3 := HSE.out; have h2 := seeL_at HLT.out mk; rw [h3] at h2; simp at h2; omega, Below.on (Below.on HB.out hww3) hww4⟩
          | false =>
            have hu0 : mk.lt ((ek, (⟨es, ed, ev⟩ : Ver)) : Kv).2.s = false := hu
            have B6 := hid (fun W => below_is hu W)
            cases ed with
            | true =>
              have HSE : Hid (seeB mk (nthK l i) l[i + 1]? = false) := by show _ = _; rw [HE.out]; unfold seeB; rw [hu0, HNB.out]; rfl
              clear hu hu0
              go_wp2_with fail
              refine wp_region_quiet_below (by kernel_rfl) (by kernel_rfl) ?_
              repeat (go_big_quiet_step (((go_at_call 14; exact Calls.regrown_of (B6.out _)))))
              refine wpQuiet_nil ?_
              intro w4 hww4
              replace hww4 := below_of_regrown hww4
              go_wp2_with fail
              go_roundg (l.length - (i + 1))
              case measure => omega
              case rel => exact ⟨i + 1, c, by omega, rfl, by go_num, rfl, by show _ = _; have h1 := HC.out; have h3 := HSE.out; have h2 := seeL_at HLT.out mk; rw [h3] at h2; simp at h2; omega, Below.on (Below.on HB.out hww3) hww4⟩
            | false =>
              have HSE : Hid (seeB mk (nthK l i) l[i + 1]? = true) := by show _ = _; rw [HE.out]; unfold seeB; rw [hu0, HNB.out]; rfl
              clear hu hu0
              go_wp2_with fail
              refine wp_region_quiet_below (by kernel_rfl) (by kernel_rfl) ?_
              repeat (go_big_quiet_step (((go_at_call 14; exact Calls.regrown_of (B6.out _)))))
              refine wpQuiet_nil ?_
              intro w4 hww4
              replace hww4 := below_of_regrown hww4
              go_wp2_with fail
              go_roundg (l.length - (i + 1))
              case measure => omega
              case rel => exact ⟨i + 1, c + 1, by omega, rfl, by go_num, by go_num, by show _ = _; have h1 := HC.out; have h3 := HSE.out; have h2 := seeL_at HLT.out mk; rw [h3] at h2; simp at h2; omega, Below.on (Below.on HB.out hww3) hww4⟩
    · obtain rfl : i = l.length := by omega
      have HE : Hid (c = seeL mk l) := by have := HC.out; rw [List.drop_length] at this; exact this
      go_wp2_with fail
      go_ret
      exact ⟨by rw [← HE.out]; rfl, HBA.out.trans (HB.out.mono hBs.out)⟩
end Go.Proofs.YtaknkodjganacaaDoor.Vs
