import Derived.Test.YtfafkohghgliaabDoorTuUnwP
import Derived.Test.YtfafkohghgliaabDoorTuRefW
import Derived.Deep.RegionHeld3
/- The document's Unword. -/
namespace Go.Proofs.YtfafkohghgliaabDoor.Tu
open Go.RowKit Go.Sort Go.Shelf Go.Proofs.YtfafkohghgliaabDoor Go.Proofs.YtfafkohghgliaabDoor.Rt
set_option linter.unusedVariables false
set_option linter.unusedSectionVars false
variable [DecidableEq Vl]

/-- what Unword answers -/
def unA (l : List Nat) : List Nat × Int := match unword l with
  | some r => (r, 0)
  | none => ([], 120)
theorem pct_is {l : List Nat} (h8 : B8 l) : ((ofNats l).toList == [37]) = decide (l = [37]) := by
  rw [Bool.eq_iff_iff, beq_iff_eq, decide_eq_true_eq]
  constructor
  · intro h
    rw [ByteArray.toList_eq] at h
    have h2 : nums (ofNats l) = [37] := by unfold nums; rw [h]; rfl
    rw [nums_ofNats h8] at h2
    exact h2
  · rintro rfl; simp [ofNats, ByteArray.toList_eq]
set_option maxHeartbeats 1000000 in
theorem rdigit_is {c : Nat} (h : c < 256) (w : World) :
    Calls Tryd.prog 87 #[.int .u8 (c : Int)] w fun e w' => e = .returned (.int .u8 (dgR c : Int)) ∧ w' = w := by
  go_enter Tryd.func87, Tryd.ntmps87
  by_cases h1 : 48 ≤ c ∧ c ≤ 57
  · have d1 : decide ((48 : Int) ≤ (c : Int)) = true := by simp; omega
    have d2 : decide ((c : Int) ≤ 57) = true := by simp; omega
    have e2 : IntKind.u8.wrap ((c : Int) - 48) = (c : Int) - 48 := by rw [IntKind.wrap_u8]; omega
    have HX : Hid ((dgR c : Int) = (c : Int) - 48) := hid (by rw [dgR, hv, if_pos h1]; simp; omega)
    clear h1
    go_wp2_with fail
    go_ret
    exact ⟨by rw [HX.out]; rfl, rfl⟩
  · by_cases h2 : 97 ≤ c ∧ c ≤ 102
    · have d1 : decide ((48 : Int) ≤ (c : Int)) = true := by simp; omega
      have d2 : decide ((c : Int) ≤ 57) = false := by simp; omega
      have d3 : decide ((97 : Int) ≤ (c : Int)) = true := by simp; omega
      have d4 : decide ((c : Int) ≤ 102) = true := by simp; omega
      have e2 : IntKind.u8.wrap ((c : Int) - 97) = (c : Int) - 97 := by rw [IntKind.wrap_u8]; omega
      have e3 : IntKind.u8.wrap ((c : Int) - 97 + 10) = (c : Int) - 97 + 10 := by rw [IntKind.wrap_u8]; omega
      have HX : Hid ((dgR c : Int) = (c : Int) - 97 + 10) := hid (by rw [dgR, hv, if_neg h1, if_pos h2]; simp; omega)
      clear h1 h2
      go_wp2_with fail
      go_ret
      exact ⟨by rw [HX.out]; rfl, rfl⟩
    · have HX : Hid ((dgR c : Int) = 16) := hid (by rw [dgR, hv, if_neg h1, if_neg h2]; rfl)
      cases d1 : decide ((48 : Int) ≤ (c : Int))
      · have d3 : decide ((97 : Int) ≤ (c : Int)) = false := by simp at d1 ⊢; omega
        clear h1 h2
        go_wp2_with fail
        go_ret
        exact ⟨by rw [HX.out]; rfl, rfl⟩
      · have d2 : decide ((c : Int) ≤ 57) = false := by simp at d1 ⊢; omega
        cases d3 : decide ((97 : Int) ≤ (c : Int))
        · clear h1 h2
          go_wp2_with fail
          go_ret
          exact ⟨by rw [HX.out]; rfl, rfl⟩
        · have d4 : decide ((c : Int) ≤ 102) = false := by simp at d3 ⊢; omega
          clear h1 h2
          go_wp2_with fail
          go_ret
          exact ⟨by rw [HX.out]; rfl, rfl⟩
theorem decA {l : List Nat} (h8 : B8 l) : unA l = if wordL (decR l) = l then (decR l, (0 : Int)) else ([], 120) := by
  have h := decR_is h8
  rw [h]
  unfold unA
  cases unword l <;> rfl
theorem dropAt {l : List Nat} {k : Nat} (h : k < l.length) : l.drop k = l[k] :: l.drop (k + 1) := List.drop_eq_getElem_cons h
set_option maxRecDepth 100000 in
set_option maxHeartbeats 4000000 in
theorem runword_is {l : List Nat} (h8 : B8 l) (hl : 3 * l.length + 1 ≤ 140737488355328) (w : World) :
    Calls Tryd.prog 64 #[.string (ofNats l)] w fun e w' => e = .returned (.tuple #[.string (ofNats (unA l).1), .int .i64 (unA l).2]) ∧ Below w.heap.size w w' := by
  obtain ⟨i0, hi, hz0, hz1, hz2⟩ := info_parts infoU8
  have H8 := hid h8
  have hsz : (ofNats l).size = l.length := ofNats_size l
  have hpc := pct_is h8
  clear h8
  go_enter Tryd.func64, Tryd.ntmps64
  go_wp2_with fail
  go_loopg [4, 5] l.length (fun g s3 s4 wr => ∃ (k : Nat) (a : Option Addr) (n c : Nat) (A : List Nat), k ≤ l.length ∧ g = l.length - k ∧ s4 = .int .i64 k ∧ s3 = .slice a n c ∧ Hid (A.length = n ∧ n ≤ k ∧ A ++ laxL (l.drop k) = laxL l ∧ B8 A) ∧ Hid (wr.ownsRow w.heap.size 5 1 (.slice a n c) n (bcs A)) ∧ Hid (Below w.heap.size w wr))
  case atStart => exact ⟨0, none, 0, 0, [], by omega, by omega, rfl, rfl, hid ⟨rfl, Nat.le_refl _, rfl, fun b hb => by cases hb⟩, hid (by simpa [bcs] using World.ownsRow_nil _ _ _ _), hid (Below.refl _ _)⟩
  case round =>
    obtain ⟨k, a, n, c, A, hk, rfl, rfl, rfl, HA, HO, HB⟩ := hrel
    by_cases hlt : k < l.length
    · have hc : l[k]? = some l[k] := List.getElem?_eq_getElem hlt
      obtain ⟨ch, hc'⟩ : ∃ ch, ch = l[k] := ⟨_, rfl⟩
      rw [← hc'] at hc
      have hc8 : ch < 256 := H8.out ch (by rw [hc']; exact List.getElem_mem hlt)
      have hix : ∀ w, (Instr.index 9 (.string (ofNats l)) (.int .i64 (k : Int))).run Tryd.prog w = .ok (.int .u8 (ch : Int)) w := fun w => index_at H8.out hc w
      have HL : Hid (n + 1 ≤ 140737488355328) := hid (by have := HA.out.2.1; omega)
      have hD := dropAt hlt
      rw [← hc'] at hD
      have HD := hid hD
      clear hc hc' hD
      by_cases h37 : ch = 37
      · by_cases hk2 : k + 2 < l.length
        · subst h37
          have hx0 : l[k + 1]? = some l[k + 1] := List.getElem?_eq_getElem (by omega)
          have hy0 : l[k + 2]? = some l[k + 2] := List.getElem?_eq_getElem hk2
          obtain ⟨x, hx1⟩ : ∃ x, x = l[k + 1] := ⟨_, rfl⟩
          obtain ⟨y, hy1⟩ : ∃ y, y = l[k + 2] := ⟨_, rfl⟩
          rw [← hx1] at hx0
          rw [← hy1] at hy0
          have hx8 : x < 256 := H8.out x (by rw [hx1]; exact List.getElem_mem _)
          have hy8 : y < 256 := H8.out y (by rw [hy1]; exact List.getElem_mem _)
          have hxx : ∀ w, (Instr.index 9 (.string (ofNats l)) (.int .i64 ((k : Int) + 1))).run Tryd.prog w = .ok (.int .u8 (x : Int)) w := fun w => by
            have := index_at H8.out hx0 w
            simpa using this
          have hyy : ∀ w, (Instr.index 9 (.string (ofNats l)) (.int .i64 ((k : Int) + 2))).run Tryd.prog w = .ok (.int .u8 (y : Int)) w := fun w => by
            have := index_at H8.out hy0 w
            simpa using this
          have DG : Hid (∀ (c : Nat) (ws : World), c < 256 → Calls Tryd.prog 87 #[.int .u8 (c : Int)] ws fun e w'' => e = .returned (.int .u8 (dgR c : Int)) ∧ Below ws.heap.size ws w'') := fun c ws h => (rdigit_is h ws).mono fun e w' ⟨h1, h2⟩ => ⟨h1, by rw [h2]; exact Below.refl _ _⟩
          have dx := dgR_lt hx8
          have dy := dgR_lt hy8
          obtain ⟨z, hz⟩ : ∃ z, z = (dgR x * 16 + dgR y) % 256 := ⟨_, rfl⟩
          obtain ⟨z1, hz1'⟩ : ∃ z1, z1 = dgR x * 16 % 256 := ⟨_, rfl⟩
          have e1 : IntKind.u8.wrap ((dgR x : Int) * 16) = (z1 : Int) := by rw [IntKind.wrap_u8]; omega
          have e2 : IntKind.u8.wrap ((z1 : Int) + (dgR y : Int)) = (z : Int) := by rw [IntKind.wrap_u8]; omega
          have HD3 : Hid (laxL (l.drop k) = z :: laxL (l.drop (k + 3))) := by
            have h1 := dropAt (l := l) (k := k + 1) (by omega)
            have h2 := dropAt (l := l) (k := k + 2) hk2
            rw [← hx1] at h1
            rw [← hy1] at h2
            show laxL (l.drop k) = _
            rw [HD.out, h1, h2, laxL_three, hz]
          have hz256 : z < 256 := by omega
          have hkI : (k : Int) + 2 < (l.length : Int) := by omega
          have hkJ : (k : Int) + 1 < (l.length : Int) := by omega
          have kw1 : IntKind.i64.wrap ((k : Int) + 1) = (k : Int) + 1 := by rw [IntKind.wrap_i64]; omega
          have kw2 : IntKind.i64.wrap ((k : Int) + 2) = (k : Int) + 2 := by rw [IntKind.wrap_i64]; omega
          clear hx0 hx1 hy0 hy1 dx dy hz hz1'
          go_wp2_with fail
          refine wp_region_quiet_below (by kernel_rfl) (by kernel_rfl) ?_
          repeat (go_big_quiet_step (((go_at_call 87; exact Calls.regrown_of (DG.out _ _ (by assumption))))))
          refine wpQuiet_nil ?_
          intro wq hwq
          replace hwq := below_of_regrown hwq
          have HOq : Hid (wq.ownsRow w.heap.size 5 1 (.slice a n c) n (bcs A)) := owns_keep HO.out fun g hg => hwq.block g (HO.out.lt g hg).2
          have HBq : Hid (Below w.heap.size w wq) := Below.on HB.out hwq
          clear hwq DG
          go_wp2_with (at_builtin; refine wpList_append_own _ rfl _ _ 50 rfl w.heap.size 5 i0 (.int .u8 0) 1 1 Tryd.underlying50 hi hz0 hz1 hz2 rfl (by decide) _ _ _ rfl (HOq.out.alloc _) ⟨wq.heap.size, 0, none⟩ 1 1 [.int .u8 (z : Int)] rfl rfl ?c1 ?c2 ?c3 ?c4 ?c5 ?_)
          case c1 =>
            intro j u hj
            match j, hj with
            | 0, hj => simp at hj; subst hj; simp [Addr.add]
          case c2 => intro u hu; simp at hu; subst hu; rfl
          case c3 => have := HL.out; unfold maxLen; omega
          case c4 => have := HL.out; omega
          case c5 => have := HBq.out.size; simp; omega
          intro v' w2 hown' hgrow _
          obtain ⟨a', c', rfl⟩ := owns_sl hown'
          have HB2 : Hid (Below w.heap.size w w2) := hid ((Below.al HBq.out _).grown hgrow (by have := HBq.out.size; simp; omega) (fun k hk => (HOq.out.lt k hk).1))
          have HO2 : Hid (w2.ownsRow w.heap.size 5 1 (.slice a' (n + 1) c') (n + 1) (bcs (A ++ [z]))) := hid (by simpa [bcs] using hown')
          clear hown' hgrow
          go_wp2_with fail
          go_roundg (l.length - (k + 3))
          case measure => omega
          case rel => exact ⟨k + 3, a', n + 1, c', A ++ [z], by omega, rfl, by go_num, rfl, hid ⟨by simp [HA.out.1], by have := HA.out.2.1; omega, by rw [List.append_assoc, ← HA.out.2.2.1, HD3.out]; rfl, fun b hb => by
              rcases List.mem_append.1 hb with hb | hb
              · exact HA.out.2.2.2 b hb
              · simp at hb; subst hb; exact hz256⟩, HO2, HB2⟩
        · subst h37
          have hkI : decide ((k : Int) + 2 < (l.length : Int)) = false := by simp; omega
          have HN1 : Hid (37 ≠ 37 ∨ (l.drop (k + 1)).length < 2) := .inr (by simp; omega)
          go_wp2_with (at_builtin; refine wpList_append_own _ rfl _ _ 50 rfl w.heap.size 5 i0 (.int .u8 0) 1 1 Tryd.underlying50 hi hz0 hz1 hz2 rfl (by decide) _ _ _ rfl (HO.out.alloc _) ⟨wr.heap.size, 0, none⟩ 1 1 [.int .u8 (37 : Int)] rfl rfl ?c1 ?c2 ?c3 ?c4 ?c5 ?_)
          case c1 =>
            intro j u hj
            match j, hj with
            | 0, hj => simp at hj; subst hj; simp [Addr.add]
          case c2 => intro u hu; simp at hu; subst hu; rfl
          case c3 => have := HL.out; unfold maxLen; omega
          case c4 => have := HL.out; omega
          case c5 => have := HB.out.size; simp; omega
          intro v' w2 hown' hgrow _
          obtain ⟨a', c', rfl⟩ := owns_sl hown'
          have HB2 : Hid (Below w.heap.size w w2) := hid ((Below.al HB.out _).grown hgrow (by have := HB.out.size; simp; omega) (fun k hk => (HO.out.lt k hk).1))
          have HO2 : Hid (w2.ownsRow w.heap.size 5 1 (.slice a' (n + 1) c') (n + 1) (bcs (A ++ [37]))) := hid (by simpa [bcs] using hown')
          clear hown' hgrow
          go_wp2_with fail
          go_roundg (l.length - (k + 1))
          case measure => omega
          case rel => exact ⟨k + 1, a', n + 1, c', A ++ [37], by omega, rfl, by go_num, rfl, hid ⟨by simp [HA.out.1], by have := HA.out.2.1; omega, by rw [List.append_assoc, ← HA.out.2.2.1, HD.out, laxL_one HN1.out]; rfl, fun b hb => by
              rcases List.mem_append.1 hb with hb | hb
              · exact HA.out.2.2.2 b hb
              · simp at hb; subst hb; omega⟩, HO2, HB2⟩
      · have h37' : ((ch : Int) == 37) = false := by simp; omega
        have HN1 : Hid (ch ≠ 37 ∨ (l.drop (k + 1)).length < 2) := .inl h37
        clear h37
        go_wp2_with (at_builtin; refine wpList_append_own _ rfl _ _ 50 rfl w.heap.size 5 i0 (.int .u8 0) 1 1 Tryd.underlying50 hi hz0 hz1 hz2 rfl (by decide) _ _ _ rfl (HO.out.alloc _) ⟨wr.heap.size, 0, none⟩ 1 1 [.int .u8 (ch : Int)] rfl rfl ?c1 ?c2 ?c3 ?c4 ?c5 ?_)
        case c1 =>
          intro j u hj
          match j, hj with
          | 0, hj => simp at hj; subst hj; simp [Addr.add]
        case c2 => intro u hu; simp at hu; subst hu; rfl
        case c3 => have := HL.out; unfold maxLen; omega
        case c4 => have := HL.out; omega
        case c5 => have := HB.out.size; simp; omega
        intro v' w2 hown' hgrow _
        obtain ⟨a', c', rfl⟩ := owns_sl hown'
        have HB2 : Hid (Below w.heap.size w w2) := hid ((Below.al HB.out _).grown hgrow (by have := HB.out.size; simp; omega) (fun k hk => (HO.out.lt k hk).1))
        have HO2 : Hid (w2.ownsRow w.heap.size 5 1 (.slice a' (n + 1) c') (n + 1) (bcs (A ++ [ch]))) := hid (by simpa [bcs] using hown')
        clear hown' hgrow
        go_wp2_with fail
        go_roundg (l.length - (k + 1))
        case measure => omega
        case rel => exact ⟨k + 1, a', n + 1, c', A ++ [ch], by omega, rfl, by go_num, rfl, hid ⟨by simp [HA.out.1], by have := HA.out.2.1; omega, by rw [List.append_assoc, ← HA.out.2.2.1, HD.out, laxL_one HN1.out]; rfl, fun b hb => by
            rcases List.mem_append.1 hb with hb | hb
            · exact HA.out.2.2.2 b hb
            · simp at hb; subst hb; exact hc8⟩, HO2, HB2⟩
    · obtain rfl : k = l.length := by omega
      have HLA : Hid (A = laxL l) := by
        have h1 := HA.out.2.2.1
        have h2 : laxL (l.drop l.length) = [] := by rw [List.drop_length]; rfl
        rw [h2, List.append_nil] at h1
        exact h1
      obtain ⟨u, hu⟩ : ∃ u, u = ((ofNats l).toList == [37]) := ⟨_, rfl⟩
      have HU : Hid (u = decide (l = [37])) := hu.trans hpc
      obtain ⟨v, D, hv, hD8, hDl, hcv⟩ : ∃ v D, v = (if u then .slice none 0 0 else .slice a n c) ∧ B8 (decR l) ∧ decR l = D ∧ ∀ w', Below wr.heap.size wr w' → (convert 50 9 v).run Tryd.prog w' = .ok (.string (ofNats D)) w' := by
        refine ⟨_, _, rfl, decR_b8 H8.out, rfl, fun w' hb' => ?_⟩
        by_cases hp : l = [37]
        · have h1 : u = true := by rw [HU.out]; simp [hp]
          rw [h1, decR, if_pos hp, if_pos rfl]
          exact conv_own (B := 0) (World.ownsRow_nil _ _ _ _) (fun b hb => by cases hb) rfl
        · have h1 : u = false := by rw [HU.out]; simp [hp]
          rw [h1, decR, if_neg hp, ← HLA.out]
          exact conv_own (owns_keep HO.out fun g hg => hb'.block g (HO.out.lt g hg).2) HA.out.2.2.2 HA.out.1
      have hDlen : D.length ≤ l.length := by
        rw [← hDl, decR]
        split
        · simp
        · exact lax_len _ _
      rw [hDl] at hD8
      have RW := hid (rword_is hD8 (by omega) wr)
      obtain ⟨z, hz⟩ : ∃ z, z = ((ofNats (wordL D)).toList == (ofNats l).toList) := ⟨_, rfl⟩
      have HZ : Hid (z = decide (wordL D = l)) := by
        show z = _
        rw [hz, Bool.eq_iff_iff, beq_iff_eq, decide_eq_true_eq]
        constructor
        · intro h
          rw [ByteArray.toList_eq, ByteArray.toList_eq] at h
          have h2 : nums (ofNats (wordL D)) = nums (ofNats l) := by unfold nums; rw [h]
          rw [nums_ofNats (fun b hb => by have := wordL_range hD8 b hb; omega), nums_ofNats H8.out] at h2
          exact h2
        · intro h; rw [h]
      have HF : Hid (unA l = if z then (D, 0) else ([], 120)) := by
        show unA l = _
        rw [decA H8.out, HZ.out, hDl]
        by_cases h2 : wordL D = l
        · simp [h2]
        · simp [h2]
      generalize wordL D = wd at RW hz
      replace hz := hz.symm
      clear hpc hlt hk hDl hD8 hDlen HZ HLA
      cases u with
      | true =>
        have hv : v = .slice none 0 0 := hv
        rw [hv] at hcv
        replace hu := hu.symm
        have HCV := hid hcv
        have hc0 := hcv wr (Below.refl _ _)
        clear hv hcv
        go_wp2_with fail
        refine RW.out.mono ?_
        rintro e w1 ⟨rfl, hb1⟩
        have HB1 : Hid (Below w.heap.size w w1) := Below.on HB.out hb1
        have hc1 := HCV.out w1 hb1
        cases z with
        | true =>
          go_wp2_with fail
          go_ret2
          exact ⟨by rw [HF.out]; rfl, HB1.out⟩
        | false =>
          go_wp2_with fail
          go_ret2
          exact ⟨by rw [HF.out]; rfl, HB1.out⟩
      | false =>
        have hv : v = .slice a n c := hv
        rw [hv] at hcv
        replace hu := hu.symm
        have HCV := hid hcv
        have hc0 := hcv wr (Below.refl _ _)
        clear hv hcv
        go_wp2_with fail
        refine RW.out.mono ?_
        rintro e w1 ⟨rfl, hb1⟩
        have HB1 : Hid (Below w.heap.size w w1) := Below.on HB.out hb1
        have hc1 := HCV.out w1 hb1
        cases z with
        | true =>
          go_wp2_with fail
          go_ret2
          exact ⟨by rw [HF.out]; rfl, HB1.out⟩
        | false =>
          go_wp2_with fail
          go_ret2
          exact ⟨by rw [HF.out]; rfl, HB1.out⟩
end Go.Proofs.YtfafkohghgliaabDoor.Tu
