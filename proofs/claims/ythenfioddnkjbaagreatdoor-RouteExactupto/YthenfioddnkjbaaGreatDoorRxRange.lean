import Derived.Test.YthenfioddnkjbaaGreatDoorRParts
import Derived.Test.YthenfioddnkjbaaGreatDoorRxNum
/- The document's ranges; is a key in a span; the common part of two spans. -/
namespace Go.Proofs.YthenfioddnkjbaaGreatDoor.Rt
open Go.RowKit Go.Sort
set_option linter.unusedVariables false

set_option maxHeartbeats 4000000 in
theorem rranges_is {c : Cf} {w : World} (h : c.Ok w) (hl : c.ss.length ≤ 5) {n : Nat} (hn : n ≤ c.ss.length) :
    Calls Tryz.prog 77 #[c.val, .int .i64 (n : Int)] w fun e w' => e = .returned (spv (reachN c.ss n)) ∧ Below w.heap.size w w' := by
  have H := hid h.row
  clear h
  obtain ⟨sh, cl, a, cp, ss, ca, pk, wi⟩ := c
  simp only at hl hn
  obtain ⟨lo, hlo⟩ : ∃ lo, lo = prevS ss n := ⟨_, rfl⟩
  obtain ⟨hi, hhi⟩ : ∃ hi, hi = nthS ss n := ⟨_, rfl⟩
  have HE : Hid (reachN ss n = (lo, hi)) := hid (by rw [reachN, hlo, hhi])
  have HR := hid (fun i (hi : i < ss.length) => (H.out.later (w' := ((w.alloc (.cells #[.int .i64 sh, .int .i64 cl, .slice a ss.length cp, .int .i64 ca, .int .i64 pk, .int .u64 wi] 26)).alloc (.cells #[.string ⟨#[]⟩, .string ⟨#[]⟩] 49)).alloc (.cells #[.string ⟨#[]⟩, .string ⟨#[]⟩] 49)) (by (repeat (first | exact Below.refl _ _ | assumption | refine Below.drew ?_ | refine Below.al ?_ _ | refine Below.setCell ?_ (by first | exact Nat.le_refl _ | (simp; omega) | (simp; done)) _ | refine Below.on ?_ (by assumption))))) i hi)
  by_cases h0 : n ≤ 0
  · have hl0 : lo = ⟨#[]⟩ := by rw [hlo, show n = 0 by omega]; rfl
    by_cases h1 : n < ss.length
    · obtain ⟨b, off, rfl, c1⟩ := HR.out n h1
      rw [← hhi] at c1
      clear hlo hhi
      subst hl0
      go_enter Tryz.func77, Tryz.ntmps77
      go_wp2_with fail
      refine bodyPost_ret (v := spv (⟨#[]⟩, hi)) (by simp [results, Tryz.results77, go_sem]) rfl ⟨by rw [HE.out], by (repeat (first | exact Below.refl _ _ | assumption | refine Below.drew ?_ | refine Below.al ?_ _ | refine Below.setCell ?_ (by first | exact Nat.le_refl _ | (simp; omega) | (simp; done)) _ | refine Below.on ?_ (by assumption)))⟩
    · have hh0 : hi = ⟨#[]⟩ := by rw [hhi, show n = ss.length by omega]; exact reach_last _
      clear hlo hhi
      subst hl0 hh0
      go_enter Tryz.func77, Tryz.ntmps77
      go_wp2_with fail
      refine bodyPost_ret (v := spv (⟨#[]⟩, ⟨#[]⟩)) (by simp [results, Tryz.results77, go_sem]) rfl ⟨by rw [HE.out], by (repeat (first | exact Below.refl _ _ | assumption | refine Below.drew ?_ | refine Below.al ?_ _ | refine Below.setCell ?_ (by first | exact Nat.le_refl _ | (simp; omega) | (simp; done)) _ | refine Below.on ?_ (by assumption)))⟩
  · obtain ⟨k, rfl⟩ : ∃ k, n = k + 1 := ⟨n - 1, by omega⟩
    have hlo' : lo = nthS ss k := by rw [hlo]; simp [prevS]
    obtain ⟨b, off, rfl, c0⟩ := HR.out k (by omega)
    rw [← hlo'] at c0
    clear hlo' hlo
    by_cases h1 : k + 1 < ss.length
    · obtain ⟨b', off', e', c1⟩ := (H.out.later (w' := ((w.alloc (.cells #[.int .i64 sh, .int .i64 cl, .slice (some ⟨b, off, none⟩) ss.length cp, .int .i64 ca, .int .i64 pk, .int .u64 wi] 26)).alloc (.cells #[.string ⟨#[]⟩, .string ⟨#[]⟩] 49)).alloc (.cells #[.string lo, .string ⟨#[]⟩] 49)) (by (repeat (first | exact Below.refl _ _ | assumption | refine Below.drew ?_ | refine Below.al ?_ _ | refine Below.setCell ?_ (by first | exact Nat.le_refl _ | (simp; omega) | (simp; done)) _ | refine Below.on ?_ (by assumption))))) (k + 1) h1
      injection e' with e'; injection e' with e1 e2
      subst e1 e2
      rw [← hhi] at c1
      clear hhi
      go_enter Tryz.func77, Tryz.ntmps77
      go_wp2_with fail
      refine bodyPost_ret (v := spv (lo, hi)) (by simp [results, Tryz.results77, go_sem]) rfl ⟨by rw [HE.out], by (repeat (first | exact Below.refl _ _ | assumption | refine Below.drew ?_ | refine Below.al ?_ _ | refine Below.setCell ?_ (by first | exact Nat.le_refl _ | (simp; omega) | (simp; done)) _ | refine Below.on ?_ (by assumption)))⟩
    · have hh0 : hi = ⟨#[]⟩ := by rw [hhi, show k + 1 = ss.length by omega]; exact reach_last _
      clear hhi
      subst hh0
      go_enter Tryz.func77, Tryz.ntmps77
      go_wp2_with fail
      refine bodyPost_ret (v := spv (lo, ⟨#[]⟩)) (by simp [results, Tryz.results77, go_sem]) rfl ⟨by rw [HE.out], by (repeat (first | exact Below.refl _ _ | assumption | refine Below.drew ?_ | refine Below.al ?_ _ | refine Below.setCell ?_ (by first | exact Nat.le_refl _ | (simp; omega) | (simp; done)) _ | refine Below.on ?_ (by assumption)))⟩


set_option maxHeartbeats 4000000 in
theorem rinside_is (k : ByteArray) (s : T2) (w : World) :
    Calls Tryz.prog 76 #[.string k, spv s] w fun e w' => e = .returned (.bool (insB k s)) ∧ Below w.heap.size w w' := by
  obtain ⟨lo, hi⟩ := s
  have hle : (Op.bytesLess lo.toList k.toList || lo.toList == k.toList) = !ltS k lo := leq_less _ _
  have HI : Hid (insB k (lo, hi) = (!ltS k lo && (emS hi || ltS k hi))) := hid rfl
  cases h1 : ltS k lo
  · rw [h1, Bool.not_false] at hle
    cases h2 : emS hi
    · have h2' : hi.toList.isEmpty = false := h2
      have h3 : Op.bytesLess k.toList hi.toList = ltS k hi := rfl
      rw [h1, h2, Bool.not_false, Bool.true_and, Bool.false_or] at HI
      generalize ltS k hi = b at h3 HI
      go_enter Tryz.func76, Tryz.ntmps76
      go_wp2_with fail
      go_ret
      exact ⟨by rw [HI.out]; rfl, by (repeat (first | exact Below.refl _ _ | assumption | refine Below.drew ?_ | refine Below.al ?_ _ | refine Below.setCell ?_ (by first | exact Nat.le_refl _ | (simp; omega) | (simp; done)) _ | refine Below.on ?_ (by assumption)))⟩
    · have h2' : hi.toList.isEmpty = true := h2
      rw [h1, h2, Bool.not_false, Bool.true_and, Bool.true_or] at HI
      go_enter Tryz.func76, Tryz.ntmps76
      go_wp2_with fail
      go_ret
      exact ⟨by rw [HI.out]; rfl, by (repeat (first | exact Below.refl _ _ | assumption | refine Below.drew ?_ | refine Below.al ?_ _ | refine Below.setCell ?_ (by first | exact Nat.le_refl _ | (simp; omega) | (simp; done)) _ | refine Below.on ?_ (by assumption)))⟩
  · rw [h1, Bool.not_true] at hle
    rw [h1, Bool.not_true, Bool.false_and] at HI
    go_enter Tryz.func76, Tryz.ntmps76
    go_wp2_with fail
    go_ret
    exact ⟨by rw [HI.out]; rfl, by (repeat (first | exact Below.refl _ _ | assumption | refine Below.drew ?_ | refine Below.al ?_ _ | refine Below.setCell ?_ (by first | exact Nat.le_refl _ | (simp; omega) | (simp; done)) _ | refine Below.on ?_ (by assumption)))⟩
theorem max_comm (a b : ByteArray) : maxT a b = maxT b a := by
  unfold maxT
  rcases lt_tri a b with rfl | h | h
  · rfl
  · have h : ltS a b = true := h
    rw [h, ltS_asymm h]; rfl
  · have h : ltS b a = true := h
    rw [h, ltS_asymm h]; rfl
theorem les_comm (a b : ByteArray) : lesH a b = lesH b a := by
  unfold lesH
  cases ha : emS a <;> cases hb : emS b
  · rcases lt_tri a b with rfl | h | h
    · rfl
    · have h : ltS a b = true := h
      simp [h, ltS_asymm h]
    · have h : ltS b a = true := h
      simp [h, ltS_asymm h]
  · simp
  · simp
  · rw [(em_iff a).1 ha, (em_iff b).1 hb]
theorem join_comm (a b : T2) : join a b = join b a := by unfold join; rw [max_comm, les_comm]
theorem comm_comm (a b : T2) : comm a b = comm b a := by unfold comm; rw [join_comm]
set_option maxHeartbeats 4000000 in
theorem rcommon_is (a b : T2) (w : World) :
    Calls Tryz.prog 79 #[spv a, spv b] w fun e w' => e = .returned (.tuple #[spv (join a b), .bool (!void (join a b))]) ∧ Below w.heap.size w w' := by
  obtain ⟨alo, ahi⟩ := a
  obtain ⟨blo, bhi⟩ := b
  have HV : Hid (∀ m h : ByteArray, (!void (m, h)) = (emS h || ltS m h)) := hid (fun m h => by simp [void])
  have HJ : Hid (join (alo, ahi) (blo, bhi) = (if ltS alo blo then blo else alo, if emS ahi || (!emS bhi && ltS bhi ahi) then bhi else ahi)) := hid rfl
  cases h1 : ltS alo blo
  · cases g0 : ltS blo alo
    · have g1 : Op.bytesLess blo.toList alo.toList = false := g0
      have g2 : (blo.toList == alo.toList) = true := by have h9 : (Op.bytesLess blo.toList alo.toList || blo.toList == alo.toList) = !ltS alo blo := leq_less _ _; rw [g1, h1, Bool.false_or] at h9; exact h9
      rw [h1] at HJ
      cases ha : emS ahi
      · have ha' : ahi.toList.isEmpty = false := ha
        cases hb : emS bhi
        · have hb' : bhi.toList.isEmpty = false := hb
          cases h4 : ltS bhi ahi
          · have h4' : Op.bytesLess bhi.toList ahi.toList = false := h4
            rw [ha, hb, h4] at HJ
            replace HJ : Hid (join (alo, ahi) (blo, bhi) = (alo, ahi)) := HJ
            have HU : Hid ((!void (alo, ahi)) = ltS alo ahi) := by show _ = _; rw [HV.out]; simp [ha]
            have hl : Op.bytesLess alo.toList ahi.toList = ltS alo ahi := rfl
            generalize ltS alo ahi = u at HU hl
            go_enter Tryz.func79, Tryz.ntmps79
            go_wp2_with fail
            go_region
            all_goals go_wp2_with fail
            all_goals (refine bodyPost_ret (v := .tuple #[spv (alo, ahi), .bool u]) (by simp [results, Tryz.results79, go_sem]) rfl ⟨by rw [HJ.out, HU.out], by (repeat (first | exact Below.refl _ _ | assumption | refine Below.drew ?_ | refine Below.al ?_ _ | refine Below.setCell ?_ (by first | exact Nat.le_refl _ | (simp; omega) | (simp; done)) _ | refine Below.on ?_ (by assumption)))⟩)
          · have h4' : Op.bytesLess bhi.toList ahi.toList = true := h4
            rw [ha, hb, h4] at HJ
            replace HJ : Hid (join (alo, ahi) (blo, bhi) = (alo, bhi)) := HJ
            have HU : Hid ((!void (alo, bhi)) = ltS alo bhi) := by show _ = _; rw [HV.out]; simp [hb]
            have hl : Op.bytesLess alo.toList bhi.toList = ltS alo bhi := rfl
            generalize ltS alo bhi = u at HU hl
            go_enter Tryz.func79, Tryz.ntmps79
            go_wp2_with fail
            go_region
            all_goals go_wp2_with fail
            all_goals (refine bodyPost_ret (v := .tuple #[spv (alo, bhi), .bool u]) (by simp [results, Tryz.results79, go_sem]) rfl ⟨by rw [HJ.out, HU.out], by (repeat (first | exact Below.refl _ _ | assumption | refine Below.drew ?_ | refine Below.al ?_ _ | refine Below.setCell ?_ (by first | exact Nat.le_refl _ | (simp; omega) | (simp; done)) _ | refine Below.on ?_ (by assumption)))⟩)
        · have hb' : bhi.toList.isEmpty = true := hb
          rw [ha, hb] at HJ
          replace HJ : Hid (join (alo, ahi) (blo, bhi) = (alo, ahi)) := HJ
          have HU : Hid ((!void (alo, ahi)) = ltS alo ahi) := by show _ = _; rw [HV.out]; simp [ha]
          have hl : Op.bytesLess alo.toList ahi.toList = ltS alo ahi := rfl
          generalize ltS alo ahi = u at HU hl
          go_enter Tryz.func79, Tryz.ntmps79
          go_wp2_with fail
          go_region
          all_goals go_wp2_with fail
          all_goals (refine bodyPost_ret (v := .tuple #[spv (alo, ahi), .bool u]) (by simp [results, Tryz.results79, go_sem]) rfl ⟨by rw [HJ.out, HU.out], by (repeat (first | exact Below.refl _ _ | assumption | refine Below.drew ?_ | refine Below.al ?_ _ | refine Below.setCell ?_ (by first | exact Nat.le_refl _ | (simp; omega) | (simp; done)) _ | refine Below.on ?_ (by assumption)))⟩)
      · have ha' : ahi.toList.isEmpty = true := ha
        cases hb : emS bhi
        · have hb' : bhi.toList.isEmpty = false := hb
          rw [ha] at HJ
          replace HJ : Hid (join (alo, ahi) (blo, bhi) = (alo, bhi)) := HJ
          have HU : Hid ((!void (alo, bhi)) = ltS alo bhi) := by show _ = _; rw [HV.out]; simp [hb]
          have hl : Op.bytesLess alo.toList bhi.toList = ltS alo bhi := rfl
          generalize ltS alo bhi = u at HU hl
          go_enter Tryz.func79, Tryz.ntmps79
          go_wp2_with fail
          go_region
          all_goals go_wp2_with fail
          all_goals (refine bodyPost_ret (v := .tuple #[spv (alo, bhi), .bool u]) (by simp [results, Tryz.results79, go_sem]) rfl ⟨by rw [HJ.out, HU.out], by (repeat (first | exact Below.refl _ _ | assumption | refine Below.drew ?_ | refine Below.al ?_ _ | refine Below.setCell ?_ (by first | exact Nat.le_refl _ | (simp; omega) | (simp; done)) _ | refine Below.on ?_ (by assumption)))⟩)
        · have hb' : bhi.toList.isEmpty = true := hb
          rw [ha] at HJ
          replace HJ : Hid (join (alo, ahi) (blo, bhi) = (alo, bhi)) := HJ
          have HU : Hid ((!void (alo, bhi)) = true) := by show _ = _; rw [HV.out]; simp [hb]
          go_enter Tryz.func79, Tryz.ntmps79
          go_wp2_with fail
          go_region
          all_goals go_wp2_with fail
          all_goals (refine bodyPost_ret (v := .tuple #[spv (alo, bhi), .bool true]) (by simp [results, Tryz.results79, go_sem]) rfl ⟨by rw [HJ.out, HU.out], by (repeat (first | exact Below.refl _ _ | assumption | refine Below.drew ?_ | refine Below.al ?_ _ | refine Below.setCell ?_ (by first | exact Nat.le_refl _ | (simp; omega) | (simp; done)) _ | refine Below.on ?_ (by assumption)))⟩)
    · have g1 : Op.bytesLess blo.toList alo.toList = true := g0
      rw [h1] at HJ
      cases ha : emS ahi
      · have ha' : ahi.toList.isEmpty = false := ha
        cases hb : emS bhi
        · have hb' : bhi.toList.isEmpty = false := hb
          cases h4 : ltS bhi ahi
          · have h4' : Op.bytesLess bhi.toList ahi.toList = false := h4
            rw [ha, hb, h4] at HJ
            replace HJ : Hid (join (alo, ahi) (blo, bhi) = (alo, ahi)) := HJ
            have HU : Hid ((!void (alo, ahi)) = ltS alo ahi) := by show _ = _; rw [HV.out]; simp [ha]
            have hl : Op.bytesLess alo.toList ahi.toList = ltS alo ahi := rfl
            generalize ltS alo ahi = u at HU hl
            go_enter Tryz.func79, Tryz.ntmps79
            go_wp2_with fail
            go_region
            all_goals go_wp2_with fail
            all_goals (refine bodyPost_ret (v := .tuple #[spv (alo, ahi), .bool u]) (by simp [results, Tryz.results79, go_sem]) rfl ⟨by rw [HJ.out, HU.out], by (repeat (first | exact Below.refl _ _ | assumption | refine Below.drew ?_ | refine Below.al ?_ _ | refine Below.setCell ?_ (by first | exact Nat.le_refl _ | (simp; omega) | (simp; done)) _ | refine Below.on ?_ (by assumption)))⟩)
          · have h4' : Op.bytesLess bhi.toList ahi.toList = true := h4
            rw [ha, hb, h4] at HJ
            replace HJ : Hid (join (alo, ahi) (blo, bhi) = (alo, bhi)) := HJ
            have HU : Hid ((!void (alo, bhi)) = ltS alo bhi) := by show _ = _; rw [HV.out]; simp [hb]
            have hl : Op.bytesLess alo.toList bhi.toList = ltS alo bhi := rfl
            generalize ltS alo bhi = u at HU hl
            go_enter Tryz.func79, Tryz.ntmps79
            go_wp2_with fail
            go_region
            all_goals go_wp2_with fail
            all_goals (refine bodyPost_ret (v := .tuple #[spv (alo, bhi), .bool u]) (by simp [results, Tryz.results79, go_sem]) rfl ⟨by rw [HJ.out, HU.out], by (repeat (first | exact Below.refl _ _ | assumption | refine Below.drew ?_ | refine Below.al ?_ _ | refine Below.setCell ?_ (by first | exact Nat.le_refl _ | (simp; omega) | (simp; done)) _ | refine Below.on ?_ (by assumption)))⟩)
        · have hb' : bhi.toList.isEmpty = true := hb
          rw [ha, hb] at HJ
          replace HJ : Hid (join (alo, ahi) (blo, bhi) = (alo, ahi)) := HJ
          have HU : Hid ((!void (alo, ahi)) = ltS alo ahi) := by show _ = _; rw [HV.out]; simp [ha]
          have hl : Op.bytesLess alo.toList ahi.toList = ltS alo ahi := rfl
          generalize ltS alo ahi = u at HU hl
          go_enter Tryz.func79, Tryz.ntmps79
          go_wp2_with fail
          go_region
          all_goals go_wp2_with fail
          all_goals (refine bodyPost_ret (v := .tuple #[spv (alo, ahi), .bool u]) (by simp [results, Tryz.results79, go_sem]) rfl ⟨by rw [HJ.out, HU.out], by (repeat (first | exact Below.refl _ _ | assumption | refine Below.drew ?_ | refine Below.al ?_ _ | refine Below.setCell ?_ (by first | exact Nat.le_refl _ | (simp; omega) | (simp; done)) _ | refine Below.on ?_ (by assumption)))⟩)
      · have ha' : ahi.toList.isEmpty = true := ha
        cases hb : emS bhi
        · have hb' : bhi.toList.isEmpty = false := hb
          rw [ha] at HJ
          replace HJ : Hid (join (alo, ahi) (blo, bhi) = (alo, bhi)) := HJ
          have HU : Hid ((!void (alo, bhi)) = ltS alo bhi) := by show _ = _; rw [HV.out]; simp [hb]
          have hl : Op.bytesLess alo.toList bhi.toList = ltS alo bhi := rfl
          generalize ltS alo bhi = u at HU hl
          go_enter Tryz.func79, Tryz.ntmps79
          go_wp2_with fail
          go_region
          all_goals go_wp2_with fail
          all_goals (refine bodyPost_ret (v := .tuple #[spv (alo, bhi), .bool u]) (by simp [results, Tryz.results79, go_sem]) rfl ⟨by rw [HJ.out, HU.out], by (repeat (first | exact Below.refl _ _ | assumption | refine Below.drew ?_ | refine Below.al ?_ _ | refine Below.setCell ?_ (by first | exact Nat.le_refl _ | (simp; omega) | (simp; done)) _ | refine Below.on ?_ (by assumption)))⟩)
        · have hb' : bhi.toList.isEmpty = true := hb
          rw [ha] at HJ
          replace HJ : Hid (join (alo, ahi) (blo, bhi) = (alo, bhi)) := HJ
          have HU : Hid ((!void (alo, bhi)) = true) := by show _ = _; rw [HV.out]; simp [hb]
          go_enter Tryz.func79, Tryz.ntmps79
          go_wp2_with fail
          go_region
          all_goals go_wp2_with fail
          all_goals (refine bodyPost_ret (v := .tuple #[spv (alo, bhi), .bool true]) (by simp [results, Tryz.results79, go_sem]) rfl ⟨by rw [HJ.out, HU.out], by (repeat (first | exact Below.refl _ _ | assumption | refine Below.drew ?_ | refine Below.al ?_ _ | refine Below.setCell ?_ (by first | exact Nat.le_refl _ | (simp; omega) | (simp; done)) _ | refine Below.on ?_ (by assumption)))⟩)
  · have g3 : (Op.bytesLess blo.toList alo.toList || blo.toList == alo.toList) = !ltS alo blo := leq_less _ _
    rw [h1, Bool.not_true, Bool.or_eq_false_iff] at g3
    have g1 := g3.1
    have g2 := g3.2
    clear g3
    rw [h1] at HJ
    cases ha : emS ahi
    · have ha' : ahi.toList.isEmpty = false := ha
      cases hb : emS bhi
      · have hb' : bhi.toList.isEmpty = false := hb
        cases h4 : ltS bhi ahi
        · have h4' : Op.bytesLess bhi.toList ahi.toList = false := h4
          rw [ha, hb, h4] at HJ
          replace HJ : Hid (join (alo, ahi) (blo, bhi) = (blo, ahi)) := HJ
          have HU : Hid ((!void (blo, ahi)) = ltS blo ahi) := by show _ = _; rw [HV.out]; simp [ha]
          have hl : Op.bytesLess blo.toList ahi.toList = ltS blo ahi := rfl
          generalize ltS blo ahi = u at HU hl
          go_enter Tryz.func79, Tryz.ntmps79
          go_wp2_with fail
          go_region
          all_goals go_wp2_with fail
          all_goals (refine bodyPost_ret (v := .tuple #[spv (blo, ahi), .bool u]) (by simp [results, Tryz.results79, go_sem]) rfl ⟨by rw [HJ.out, HU.out], by (repeat (first | exact Below.refl _ _ | assumption | refine Below.drew ?_ | refine Below.al ?_ _ | refine Below.setCell ?_ (by first | exact Nat.le_refl _ | (simp; omega) | (simp; done)) _ | refine Below.on ?_ (by assumption)))⟩)
        · have h4' : Op.bytesLess bhi.toList ahi.toList = true := h4
          rw [ha, hb, h4] at HJ
          replace HJ : Hid (join (alo, ahi) (blo, bhi) = (blo, bhi)) := HJ
          have HU : Hid ((!void (blo, bhi)) = ltS blo bhi) := by show _ = _; rw [HV.out]; simp [hb]
          have hl : Op.bytesLess blo.toList bhi.toList = ltS blo bhi := rfl
          generalize ltS blo bhi = u at HU hl
          go_enter Tryz.func79, Tryz.ntmps79
          go_wp2_with fail
          go_region
          all_goals go_wp2_with fail
          all_goals (refine bodyPost_ret (v := .tuple #[spv (blo, bhi), .bool u]) (by simp [results, Tryz.results79, go_sem]) rfl ⟨by rw [HJ.out, HU.out], by (repeat (first | exact Below.refl _ _ | assumption | refine Below.drew ?_ | refine Below.al ?_ _ | refine Below.setCell ?_ (by first | exact Nat.le_refl _ | (simp; omega) | (simp; done)) _ | refine Below.on ?_ (by assumption)))⟩)
      · have hb' : bhi.toList.isEmpty = true := hb
        rw [ha, hb] at HJ
        replace HJ : Hid (join (alo, ahi) (blo, bhi) = (blo, ahi)) := HJ
        have HU : Hid ((!void (blo, ahi)) = ltS blo ahi) := by show _ = _; rw [HV.out]; simp [ha]
        have hl : Op.bytesLess blo.toList ahi.toList = ltS blo ahi := rfl
        generalize ltS blo ahi = u at HU hl
        go_enter Tryz.func79, Tryz.ntmps79
        go_wp2_with fail
        go_region
        all_goals go_wp2_with fail
        all_goals (refine bodyPost_ret (v := .tuple #[spv (blo, ahi), .bool u]) (by simp [results, Tryz.results79, go_sem]) rfl ⟨by rw [HJ.out, HU.out], by (repeat (first | exact Below.refl _ _ | assumption | refine Below.drew ?_ | refine Below.al ?_ _ | refine Below.setCell ?_ (by first | exact Nat.le_refl _ | (simp; omega) | (simp; done)) _ | refine Below.on ?_ (by assumption)))⟩)
    · have ha' : ahi.toList.isEmpty = true := ha
      cases hb : emS bhi
      · have hb' : bhi.toList.isEmpty = false := hb
        rw [ha] at HJ
        replace HJ : Hid (join (alo, ahi) (blo, bhi) = (blo, bhi)) := HJ
        have HU : Hid ((!void (blo, bhi)) = ltS blo bhi) := by show _ = _; rw [HV.out]; simp [hb]
        have hl : Op.bytesLess blo.toList bhi.toList = ltS blo bhi := rfl
        generalize ltS blo bhi = u at HU hl
        go_enter Tryz.func79, Tryz.ntmps79
        go_wp2_with fail
        go_region
        all_goals go_wp2_with fail
        all_goals (refine bodyPost_ret (v := .tuple #[spv (blo, bhi), .bool u]) (by simp [results, Tryz.results79, go_sem]) rfl ⟨by rw [HJ.out, HU.out], by (repeat (first | exact Below.refl _ _ | assumption | refine Below.drew ?_ | refine Below.al ?_ _ | refine Below.setCell ?_ (by first | exact Nat.le_refl _ | (simp; omega) | (simp; done)) _ | refine Below.on ?_ (by assumption)))⟩)
      · have hb' : bhi.toList.isEmpty = true := hb
        rw [ha] at HJ
        replace HJ : Hid (join (alo, ahi) (blo, bhi) = (blo, bhi)) := HJ
        have HU : Hid ((!void (blo, bhi)) = true) := by show _ = _; rw [HV.out]; simp [hb]
        go_enter Tryz.func79, Tryz.ntmps79
        go_wp2_with fail
        go_region
        all_goals go_wp2_with fail
        all_goals (refine bodyPost_ret (v := .tuple #[spv (blo, bhi), .bool true]) (by simp [results, Tryz.results79, go_sem]) rfl ⟨by rw [HJ.out, HU.out], by (repeat (first | exact Below.refl _ _ | assumption | refine Below.drew ?_ | refine Below.al ?_ _ | refine Below.setCell ?_ (by first | exact Nat.le_refl _ | (simp; omega) | (simp; done)) _ | refine Below.on ?_ (by assumption)))⟩)
end Go.Proofs.YthenfioddnkjbaaGreatDoor.Rt
