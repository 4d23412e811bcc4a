import Derived.Test.YthenfioddnkjbaaGreatDoorRdRead
import Derived.Test.YthenfioddnkjbaaGreatDoorRxNum
import Derived.Test.YthenfioddnkjbaaGreatDoorLItoa
import Derived.Test.YthenfioddnkjbaaGreatDoorSnRefW
import Derived.Test.YthenfioddnkjbaaGreatDoorRdSplit
import Derived.Deep.RegionHeld3
import Derived.Test.YthenfioddnkjbaaGreatDoorDOnl
import Derived.Test.YthenfioddnkjbaaGreatDoorRMay
/- The document's lines. -/
namespace Go.Proofs.YthenfioddnkjbaaGreatDoor.Rt
open Go.RowKit Go.Sort
set_option linter.unusedVariables false

/-- the lines up to a place: A is out, the line that stands open begins at f -/
structure Lq (l : List UInt8) (A : List ByteArray) (f k : Nat) : Prop where
  le : f ≤ k
  lk : k ≤ l.length
  no : (10 : UInt8) ∉ (l.take k).drop f
  eq : A.map (·.data.toList) ++ lns (l.drop f) = lns l
  len : A.length ≤ k
theorem Lq.zero (l : List UInt8) : Lq l [] 0 0 := ⟨Nat.le_refl _, Nat.zero_le _, by simp, by simp, Nat.le_refl _⟩
theorem ext_list (t : ByteArray) (i j : Nat) : (t.extract i j).data.toList = (t.data.toList.take j).drop i := by
  rw [ByteArray.data_extract, Array.toList_extract, List.extract_eq_take_drop, List.drop_take]
theorem take_snoc {l : List UInt8} {f k : Nat} {c : UInt8} (hf : f ≤ k) (hc : l[k]? = some c) : (l.take (k + 1)).drop f = (l.take k).drop f ++ [c] := by
  have hk : k < l.length := (List.getElem?_eq_some_iff.1 hc).1
  rw [List.take_add_one, hc, List.drop_append_of_le_length (by rw [List.length_take]; omega)]
  rfl
theorem Lq.skip {l : List UInt8} {A : List ByteArray} {f k : Nat} {c : UInt8} (h : Lq l A f k) (hc : l[k]? = some c) (hn : c ≠ 10) : Lq l A f (k + 1) := by
  have hk : k < l.length := (List.getElem?_eq_some_iff.1 hc).1
  refine ⟨by have := h.le; omega, by omega, ?_, h.eq, by have := h.len; omega⟩
  rw [take_snoc h.le hc]
  intro hm
  rcases List.mem_append.1 hm with hm | hm
  · exact h.no hm
  · simp at hm; exact hn hm.symm
theorem Lq.more {l : List UInt8} {A : List ByteArray} {f k : Nat} {t : ByteArray} (ht : l = t.data.toList) (h : Lq l A f k) (hc : l[k]? = some 10) : Lq l (A ++ [t.extract f k]) (k + 1) (k + 1) := by
  have hk : k < l.length := (List.getElem?_eq_some_iff.1 hc).1
  refine ⟨Nat.le_refl _, by omega, by simp, ?_, by have := h.len; simp; omega⟩
  have e1 : l.drop f = (l.take k).drop f ++ 10 :: l.drop (k + 1) := by
    have e2 : l.drop f = (l.take k).drop f ++ l.drop k := by
      have := List.take_append_drop k l
      conv => lhs; rw [← this]
      rw [List.drop_append_of_le_length (by rw [List.length_take]; have := h.le; omega)]
    rw [e2, List.drop_eq_getElem_cons hk, (List.getElem?_eq_some_iff.1 hc).2]
  have := h.eq
  rw [e1, lns_line h.no] at this
  rw [List.map_append, List.append_assoc, ← this]
  congr 1
  simp only [List.map_cons, List.map_nil, List.cons_append, List.nil_append]
  rw [ext_list, ← ht]
theorem Lq.end {l : List UInt8} {A : List ByteArray} {f : Nat} {t : ByteArray} (ht : l = t.data.toList) (h : Lq l A f l.length) : (A ++ [t.extract f l.length]).map (·.data.toList) = lns l := by
  have h1 := h.no
  rw [List.take_length] at h1
  have h2 := h.eq
  rw [lns_none h1] at h2
  rw [← h2, List.map_append]
  simp only [List.map_cons, List.map_nil]
  rw [ext_list, ← ht, List.take_length]
theorem flatS_snoc (A : List ByteArray) (x : ByteArray) : flatS (A ++ [x]) = flatS A ++ [.string x] := by simp [flatS]
/-- what lines answers: a list of its own -/
def LnP (w : World) (l : List UInt8) (e : Ending) (w' : World) : Prop := (∃ (a : Option Addr) (c : Nat) (A : List ByteArray), e = .returned (.slice a A.length c) ∧ A.map (·.data.toList) = lns l ∧ A.length ≤ 1001 ∧ w'.ownsRow w.heap.size 9 1 (.slice a A.length c) A.length (flatS A)) ∧ Below w.heap.size w w'
set_option maxRecDepth 100000 in
set_option maxHeartbeats 4000000 in
theorem rlines_is {t : ByteArray} {l : List UInt8} (hl : l = t.data.toList) (hs : t.size ≤ 1000) (w : World) :
    Calls Tryz.prog 59 #[.string t] w (LnP w l) := by
  obtain ⟨i0, hi, hz0, hz1, hz2⟩ := info_ofR infoTx
  have hz : t.size = l.length := by rw [hl, Lib.size_eq]
  have HL := hid hl
  clear hl
  go_enter Tryz.func59, Tryz.ntmps59
  go_wp2_with fail
  go_loopg [3, 4, 5] l.length (fun g s2 s3 s4 wr => ∃ (k f : Nat) (a : Option Addr) (n c : Nat) (A : List ByteArray), k ≤ l.length ∧ f ≤ k ∧ g = l.length - k ∧ s2 = .slice a n c ∧ s3 = .int .i64 f ∧ s4 = .int .i64 k ∧ Hid (A.length = n) ∧ Hid (Lq l A f k) ∧ Hid (wr.ownsRow w.heap.size 9 1 (.slice a n c) n (flatS A)) ∧ Hid (Below w.heap.size w wr))
  case atStart => exact ⟨0, 0, none, 0, 0, [], by omega, by omega, by omega, rfl, rfl, rfl, hid rfl, hid (Lq.zero _), hid (World.ownsRow_nil _ _ _ _), hid (Below.refl _ _)⟩
  case round =>
    obtain ⟨k, f, a, n, c, A, hk, hf, rfl, rfl, rfl, rfl, HN, HQ, HO, HB⟩ := hrel
    have HL2 : Hid (n ≤ k) := by have h1 := HQ.out.len; rw [HN.out] at h1; exact h1
    by_cases hlt : k < l.length
    · obtain ⟨ch, hc⟩ : ∃ c, l[k]? = some c := ⟨_, List.getElem?_eq_getElem hlt⟩
      have hix := index_bytes (t := t) (k := k) (c := ch) (by rw [← HL.out]; exact hc)
      have HC := hid hc
      clear hc
      by_cases h10 : ch = 10
      · have HM : Hid (Lq l (A ++ [t.extract f k]) (k + 1) (k + 1)) := HQ.out.more HL.out (by rw [HC.out, h10])
        replace hix : ∀ w, (Instr.index 9 (.string t) (.int .i64 (k : Int))).run Tryz.prog w = .ok (.int .u8 10) w := by subst h10; exact hix
        clear h10
        go_wp2_with (at_builtin; refine wpList_append_own _ rfl _ _ 23 rfl w.heap.size 9 i0 (.string ⟨#[]⟩) 1 16 Tryz.underlying23 hi hz0 hz1 hz2 rfl (by decide) _ _ _ rfl (HO.out.alloc _) ⟨wr.heap.size, 0, none⟩ 1 1 [.string (t.extract f k)] rfl rfl ?c1 ?c2 ?c3 ?c4 ?c5 ?_)
        case c1 =>
          intro j u hj
          match j, hj with
          | 0, hj => simp at hj; subst hj; simp [Addr.add]
        case c2 => intro u hu; simp at hu; subst hu; rfl
        case c3 => have := HL2.out; unfold maxLen; omega
        case c4 => have := HL2.out; omega
        case c5 => have := HB.out.size; simp; omega
        intro v' w2 hown' hgrow _
        obtain ⟨a', c', rfl⟩ := owns_sl hown'
        have HB2 : Hid (Below w.heap.size w w2) := hid ((Below.al HB.out _).grown hgrow (by have := HB.out.size; simp; omega) (fun k hk => (HO.out.lt k hk).1))
        have HO2 : Hid (w2.ownsRow w.heap.size 9 1 (.slice a' (n + 1) c') (n + 1) (flatS (A ++ [t.extract f k]))) := hid (by rw [flatS_snoc]; simpa using hown')
        clear hown' hgrow
        go_wp2_with fail
        go_roundg (l.length - (k + 1))
        case measure => omega
        case rel => exact ⟨k + 1, k + 1, a', n + 1, c', A ++ [t.extract f k], by omega, by omega, rfl, rfl, by go_num, by go_num, hid (by simp [HN.out]), HM, HO2, HB2⟩
      · have HM : Hid (Lq l A f (k + 1)) := HQ.out.skip HC.out h10
        have h10' : ((ch.toNat : Int) == 10) = false := by
          rw [beq_eq_false_iff_ne]; intro h; apply h10; apply UInt8.toNat_inj.1
          have : (10 : UInt8).toNat = 10 := rfl
          omega
        clear h10
        go_wp2_with fail
        go_roundg (l.length - (k + 1))
        case measure => omega
        case rel => exact ⟨k + 1, f, a, n, c, A, by omega, by omega, rfl, rfl, rfl, by go_num, HN, HM, HO, HB⟩
    · obtain rfl : k = l.length := by omega
      have HE : Hid _ := hid (HQ.out.end HL.out)
      go_wp2_with (at_builtin; refine wpList_append_own _ rfl _ _ 23 rfl w.heap.size 9 i0 (.string ⟨#[]⟩) 1 16 Tryz.underlying23 hi hz0 hz1 hz2 rfl (by decide) _ _ _ rfl (HO.out.alloc _) ⟨wr.heap.size, 0, none⟩ 1 1 [.string (t.extract f l.length)] rfl rfl ?c1 ?c2 ?c3 ?c4 ?c5 ?_)
      case c1 =>
        intro j u hj
        match j, hj with
        | 0, hj => simp at hj; subst hj; simp [Addr.add]
      case c2 => intro u hu; simp at hu; subst hu; rfl
      case c3 => have := HL2.out; unfold maxLen; omega
      case c4 => have := HL2.out; omega
      case c5 => have := HB.out.size; simp; omega
      intro v' w2 hown' hgrow _
      obtain ⟨a', c', rfl⟩ := owns_sl hown'
      have HB2 : Hid (Below w.heap.size w w2) := hid ((Below.al HB.out _).grown hgrow (by have := HB.out.size; simp; omega) (fun k hk => (HO.out.lt k hk).1))
      have HO2 : Hid (w2.ownsRow w.heap.size 9 1 (.slice a' (n + 1) c') (n + 1) (flatS (A ++ [t.extract f l.length]))) := hid (by rw [flatS_snoc]; simpa using hown')
      clear hown' hgrow
      go_wp2_with fail
      go_ret
      have hn : (A ++ [t.extract f l.length]).length = n + 1 := by simp [HN.out]
      refine ⟨⟨a', c', A ++ [t.extract f l.length], by rw [hn]; rfl, HE.out, ?_, by rw [hn]; exact HO2.out⟩, HB2.out⟩
      rw [hn]
      have := HL2.out
      omega
end Go.Proofs.YthenfioddnkjbaaGreatDoor.Rt
/- The document's Unword. -/
namespace Go.Proofs.YthenfioddnkjbaaGreatDoor.Rt
open Go.RowKit Go.Sort Go.Shelf
set_option linter.unusedVariables false

set_option maxHeartbeats 1000000 in
theorem rdigit_is {c : Nat} (h : c < 256) (w : World) :
    Calls Tryz.prog 75 #[.int .u8 (c : Int)] w fun e w' => e = .returned (.int .u8 (dgR c : Int)) ∧ w' = w := by
  go_enter Tryz.func75, Tryz.ntmps75
  by_cases h1 : 48 ≤ c ∧ c ≤ 57
  · have d1 : decide ((48 : Int) ≤ (c : Int)) = true := by simp; omega
    have d2 : decide ((c : Int) ≤ 57) = true := by simp; omega
    have e2 : IntKind.u8.wrap ((c : Int) - 48) = (c : Int) - 48 := by rw [IntKind.wrap_u8]; omega
    have HX : Hid ((dgR c : Int) = (c : Int) - 48) := hid (by rw [dgR, hv, if_pos h1]; simp; omega)
    clear h1
    go_wp2_with fail
    go_ret
    exact ⟨by rw [HX.out]; rfl, rfl⟩
  · by_cases h2 : 97 ≤ c ∧ c ≤ 102
    · have d1 : decide ((48 : Int) ≤ (c : Int)) = true := by simp; omega
      have d2 : decide ((c : Int) ≤ 57) = false := by simp; omega
      have d3 : decide ((97 : Int) ≤ (c : Int)) = true := by simp; omega
      have d4 : decide ((c : Int) ≤ 102) = true := by simp; omega
      have e2 : IntKind.u8.wrap ((c : Int) - 97) = (c : Int) - 97 := by rw [IntKind.wrap_u8]; omega
      have e3 : IntKind.u8.wrap ((c : Int) - 97 + 10) = (c : Int) - 97 + 10 := by rw [IntKind.wrap_u8]; omega
      have HX : Hid ((dgR c : Int) = (c : Int) - 97 + 10) := hid (by rw [dgR, hv, if_neg h1, if_pos h2]; simp; omega)
      clear h1 h2
      go_wp2_with fail
      go_ret
      exact ⟨by rw [HX.out]; rfl, rfl⟩
    · have HX : Hid ((dgR c : Int) = 16) := hid (by rw [dgR, hv, if_neg h1, if_neg h2]; rfl)
      cases d1 : decide ((48 : Int) ≤ (c : Int))
      · have d3 : decide ((97 : Int) ≤ (c : Int)) = false := by simp at d1 ⊢; omega
        clear h1 h2
        go_wp2_with fail
        go_ret
        exact ⟨by rw [HX.out]; rfl, rfl⟩
      · have d2 : decide ((c : Int) ≤ 57) = false := by simp at d1 ⊢; omega
        cases d3 : decide ((97 : Int) ≤ (c : Int))
        · clear h1 h2
          go_wp2_with fail
          go_ret
          exact ⟨by rw [HX.out]; rfl, rfl⟩
        · have d4 : decide ((c : Int) ≤ 102) = false := by simp at d3 ⊢; omega
          clear h1 h2
          go_wp2_with fail
          go_ret
          exact ⟨by rw [HX.out]; rfl, rfl⟩
theorem decA {l : List Nat} (h8 : B8 l) : unA l = if wordL (decR l) = l then (decR l, (0 : Int)) else ([], 120) := by
  have h := decR_is h8
  rw [h]
  unfold unA
  cases unword l <;> rfl
theorem drop_at {l : List Nat} {k : Nat} (h : k < l.length) : l.drop k = l[k] :: l.drop (k + 1) := List.drop_eq_getElem_cons h
set_option maxRecDepth 100000 in
set_option maxHeartbeats 4000000 in
theorem runword_is {l : List Nat} (h8 : B8 l) (hl : 3 * l.length + 1 ≤ 140737488355328) (w : World) :
    Calls Tryz.prog 25 #[.string (ofNats l)] w fun e w' => e = .returned (.tuple #[.string (ofNats (unA l).1), .int .i64 (unA l).2]) ∧ Below w.heap.size w w' := by
  obtain ⟨i0, hi, hz0, hz1, hz2⟩ := info_parts infoU8
  have H8 := hid h8
  have hsz : (ofNats l).size = l.length := ofNats_size l
  have hpc := pct_is h8
  clear h8
  go_enter Tryz.func25, Tryz.ntmps25
  go_wp2_with fail
  go_loopg [4, 5] l.length (fun g s3 s4 wr => ∃ (k : Nat) (a : Option Addr) (n c : Nat) (A : List Nat), k ≤ l.length ∧ g = l.length - k ∧ s4 = .int .i64 k ∧ s3 = .slice a n c ∧ Hid (A.length = n ∧ n ≤ k ∧ A ++ laxL (l.drop k) = laxL l ∧ B8 A) ∧ Hid (wr.ownsRow w.heap.size 5 1 (.slice a n c) n (bcs A)) ∧ Hid (Below w.heap.size w wr))
  case atStart => exact ⟨0, none, 0, 0, [], by omega, by omega, rfl, rfl, hid ⟨rfl, Nat.le_refl _, rfl, fun b hb => by cases hb⟩, hid (by simpa [bcs] using World.ownsRow_nil _ _ _ _), hid (Below.refl _ _)⟩
  case round =>
    obtain ⟨k, a, n, c, A, hk, rfl, rfl, rfl, HA, HO, HB⟩ := hrel
    by_cases hlt : k < l.length
    · have hc : l[k]? = some l[k] := List.getElem?_eq_getElem hlt
      obtain ⟨ch, hc'⟩ : ∃ ch, ch = l[k] := ⟨_, rfl⟩
      rw [← hc'] at hc
      have hc8 : ch < 256 := H8.out ch (by rw [hc']; exact List.getElem_mem hlt)
      have hix : ∀ w, (Instr.index 9 (.string (ofNats l)) (.int .i64 (k : Int))).run Tryz.prog w = .ok (.int .u8 (ch : Int)) w := fun w => index_ofNats H8.out hc w
      have HL : Hid (n + 1 ≤ 140737488355328) := hid (by have := HA.out.2.1; omega)
      have hD := drop_at hlt
      rw [← hc'] at hD
      have HD := hid hD
      clear hc hc' hD
      by_cases h37 : ch = 37
      · by_cases hk2 : k + 2 < l.length
        · subst h37
          have hx0 : l[k + 1]? = some l[k + 1] := List.getElem?_eq_getElem (by omega)
          have hy0 : l[k + 2]? = some l[k + 2] := List.getElem?_eq_getElem hk2
          obtain ⟨x, hx1⟩ : ∃ x, x = l[k + 1] := ⟨_, rfl⟩
          obtain ⟨y, hy1⟩ : ∃ y, y = l[k + 2] := ⟨_, rfl⟩
          rw [← hx1] at hx0
          rw [← hy1] at hy0
          have hx8 : x < 256 := H8.out x (by rw [hx1]; exact List.getElem_mem _)
          have hy8 : y < 256 := H8.out y (by rw [hy1]; exact List.getElem_mem _)
          have hxx : ∀ w, (Instr.index 9 (.string (ofNats l)) (.int .i64 ((k : Int) + 1))).run Tryz.prog w = .ok (.int .u8 (x : Int)) w := fun w => by
            have := index_ofNats H8.out hx0 w
            simpa using this
          have hyy : ∀ w, (Instr.index 9 (.string (ofNats l)) (.int .i64 ((k : Int) + 2))).run Tryz.prog w = .ok (.int .u8 (y : Int)) w := fun w => by
            have := index_ofNats H8.out hy0 w
            simpa using this
          have DG : Hid (∀ (c : Nat) (ws : World), c < 256 → Calls Tryz.prog 75 #[.int .u8 (c : Int)] ws fun e w'' => e = .returned (.int .u8 (dgR c : Int)) ∧ Below ws.heap.size ws w'') := fun c ws h => (rdigit_is h ws).mono fun e w' ⟨h1, h2⟩ => ⟨h1, by rw [h2]; exact Below.refl _ _⟩
          have dx := dgR_lt hx8
          have dy := dgR_lt hy8
          obtain ⟨z, hz⟩ : ∃ z, z = (dgR x * 16 + dgR y) % 256 := ⟨_, rfl⟩
          obtain ⟨z1, hz1'⟩ : ∃ z1, z1 = dgR x * 16 % 256 := ⟨_, rfl⟩
          have e1 : IntKind.u8.wrap ((dgR x : Int) * 16) = (z1 : Int) := by rw [IntKind.wrap_u8]; omega
          have e2 : IntKind.u8.wrap ((z1 : Int) + (dgR y : Int)) = (z : Int) := by rw [IntKind.wrap_u8]; omega
          have HD3 : Hid (laxL (l.drop k) = z :: laxL (l.drop (k + 3))) := by
            have h1 := drop_at (l := l) (k := k + 1) (by omega)
            have h2 := drop_at (l := l) (k := k + 2) hk2
            rw [← hx1] at h1
            rw [← hy1] at h2
            show laxL (l.drop k) = _
            rw [HD.out, h1, h2, laxL_three, hz]
          have hz256 : z < 256 := by omega
          have hkI : (k : Int) + 2 < (l.length : Int) := by omega
          have hkJ : (k : Int) + 1 < (l.length : Int) := by omega
          have kw1 : IntKind.i64.wrap ((k : Int) + 1) = (k : Int) + 1 := by rw [IntKind.wrap_i64]; omega
          have kw2 : IntKind.i64.wrap ((k : Int) + 2) = (k : Int) + 2 := by rw [IntKind.wrap_i64]; omega
          clear hx0 hx1 hy0 hy1 dx dy hz hz1'
          go_wp2_with fail
          refine wp_region_quiet_below (by kernel_rfl) (by kernel_rfl) ?_
          repeat (go_big_quiet_step (((go_at_call 75; exact Calls.regrown_of (DG.out _ _ (by assumption))))))
          refine wpQuiet_nil ?_
          intro wq hwq
          replace hwq := below_of_regrown hwq
          have HOq : Hid (wq.ownsRow w.heap.size 5 1 (.slice a n c) n (bcs A)) := owns_keep HO.out fun g hg => hwq.block g (HO.out.lt g hg).2
          have HBq : Hid (Below w.heap.size w wq) := Below.on HB.out hwq
          clear hwq DG
          go_wp2_with (at_builtin; refine wpList_append_own _ rfl _ _ 116 rfl w.heap.size 5 i0 (.int .u8 0) 1 1 Tryz.underlying116 hi hz0 hz1 hz2 rfl (by decide) _ _ _ rfl (HOq.out.alloc _) ⟨wq.heap.size, 0, none⟩ 1 1 [.int .u8 (z : Int)] rfl rfl ?c1 ?c2 ?c3 ?c4 ?c5 ?_)
          case c1 =>
            intro j u hj
            match j, hj with
            | 0, hj => simp at hj; subst hj; simp [Addr.add]
          case c2 => intro u hu; simp at hu; subst hu; rfl
          case c3 => have := HL.out; unfold maxLen; omega
          case c4 => have := HL.out; omega
          case c5 => have := HBq.out.size; simp; omega
          intro v' w2 hown' hgrow _
          obtain ⟨a', c', rfl⟩ := owns_sl hown'
          have HB2 : Hid (Below w.heap.size w w2) := hid ((Below.al HBq.out _).grown hgrow (by have := HBq.out.size; simp; omega) (fun k hk => (HOq.out.lt k hk).1))
          have HO2 : Hid (w2.ownsRow w.heap.size 5 1 (.slice a' (n + 1) c') (n + 1) (bcs (A ++ [z]))) := hid (by simpa [bcs] using hown')
          clear hown' hgrow
          go_wp2_with fail
          go_roundg (l.length - (k + 3))
          case measure => omega
          case rel => exact ⟨k + 3, a', n + 1, c', A ++ [z], by omega, rfl, by go_num, rfl, hid ⟨by simp [HA.out.1], by have := HA.out.2.1; omega, by rw [List.append_assoc, ← HA.out.2.2.1, HD3.out]; rfl, fun b hb => by
              rcases List.mem_append.1 hb with hb | hb
              · exact HA.out.2.2.2 b hb
              · simp at hb; subst hb; exact hz256⟩, HO2, HB2⟩
        · subst h37
          have hkI : decide ((k : Int) + 2 < (l.length : Int)) = false := by simp; omega
          have HN1 : Hid (37 ≠ 37 ∨ (l.drop (k + 1)).length < 2) := .inr (by simp; omega)
          go_wp2_with (at_builtin; refine wpList_append_own _ rfl _ _ 116 rfl w.heap.size 5 i0 (.int .u8 0) 1 1 Tryz.underlying116 hi hz0 hz1 hz2 rfl (by decide) _ _ _ rfl (HO.out.alloc _) ⟨wr.heap.size, 0, none⟩ 1 1 [.int .u8 (37 : Int)] rfl rfl ?c1 ?c2 ?c3 ?c4 ?c5 ?_)
          case c1 =>
            intro j u hj
            match j, hj with
            | 0, hj => simp at hj; subst hj; simp [Addr.add]
          case c2 => intro u hu; simp at hu; subst hu; rfl
          case c3 => have := HL.out; unfold maxLen; omega
          case c4 => have := HL.out; omega
          case c5 => have := HB.out.size; simp; omega
          intro v' w2 hown' hgrow _
          obtain ⟨a', c', rfl⟩ := owns_sl hown'
          have HB2 : Hid (Below w.heap.size w w2) := hid ((Below.al HB.out _).grown hgrow (by have := HB.out.size; simp; omega) (fun k hk => (HO.out.lt k hk).1))
          have HO2 : Hid (w2.ownsRow w.heap.size 5 1 (.slice a' (n + 1) c') (n + 1) (bcs (A ++ [37]))) := hid (by simpa [bcs] using hown')
          clear hown' hgrow
          go_wp2_with fail
          go_roundg (l.length - (k + 1))
          case measure => omega
          case rel => exact ⟨k + 1, a', n + 1, c', A ++ [37], by omega, rfl, by go_num, rfl, hid ⟨by simp [HA.out.1], by have := HA.out.2.1; omega, by rw [List.append_assoc, ← HA.out.2.2.1, HD.out, laxL_one HN1.out]; rfl, fun b hb => by
              rcases List.mem_append.1 hb with hb | hb
              · exact HA.out.2.2.2 b hb
              · simp at hb; subst hb; omega⟩, HO2, HB2⟩
      · have h37' : ((ch : Int) == 37) = false := by simp; omega
        have HN1 : Hid (ch ≠ 37 ∨ (l.drop (k + 1)).length < 2) := .inl h37
        clear h37
        go_wp2_with (at_builtin; refine wpList_append_own _ rfl _ _ 116 rfl w.heap.size 5 i0 (.int .u8 0) 1 1 Tryz.underlying116 hi hz0 hz1 hz2 rfl (by decide) _ _ _ rfl (HO.out.alloc _) ⟨wr.heap.size, 0, none⟩ 1 1 [.int .u8 (ch : Int)] rfl rfl ?c1 ?c2 ?c3 ?c4 ?c5 ?_)
        case c1 =>
          intro j u hj
          match j, hj with
          | 0, hj => simp at hj; subst hj; simp [Addr.add]
        case c2 => intro u hu; simp at hu; subst hu; rfl
        case c3 => have := HL.out; unfold maxLen; omega
        case c4 => have := HL.out; omega
        case c5 => have := HB.out.size; simp; omega
        intro v' w2 hown' hgrow _
        obtain ⟨a', c', rfl⟩ := owns_sl hown'
        have HB2 : Hid (Below w.heap.size w w2) := hid ((Below.al HB.out _).grown hgrow (by have := HB.out.size; simp; omega) (fun k hk => (HO.out.lt k hk).1))
        have HO2 : Hid (w2.ownsRow w.heap.size 5 1 (.slice a' (n + 1) c') (n + 1) (bcs (A ++ [ch]))) := hid (by simpa [bcs] using hown')
        clear hown' hgrow
        go_wp2_with fail
        go_roundg (l.length - (k + 1))
        case measure => omega
        case rel => exact ⟨k + 1, a', n + 1, c', A ++ [ch], by omega, rfl, by go_num, rfl, hid ⟨by simp [HA.out.1], by have := HA.out.2.1; omega, by rw [List.append_assoc, ← HA.out.2.2.1, HD.out, laxL_one HN1.out]; rfl, fun b hb => by
            rcases List.mem_append.1 hb with hb | hb
            · exact HA.out.2.2.2 b hb
            · simp at hb; subst hb; exact hc8⟩, HO2, HB2⟩
    · obtain rfl : k = l.length := by omega
      have HLA : Hid (A = laxL l) := by
        have h1 := HA.out.2.2.1
        have h2 : laxL (l.drop l.length) = [] := by rw [List.drop_length]; rfl
        rw [h2, List.append_nil] at h1
        exact h1
      obtain ⟨u, hu⟩ : ∃ u, u = ((ofNats l).toList == [37]) := ⟨_, rfl⟩
      have HU : Hid (u = decide (l = [37])) := hu.trans hpc
      obtain ⟨v, D, hv, hD8, hDl, hcv⟩ : ∃ v D, v = (if u then .slice none 0 0 else .slice a n c) ∧ B8 (decR l) ∧ decR l = D ∧ ∀ w', Below wr.heap.size wr w' → (convert 116 9 v).run Tryz.prog w' = .ok (.string (ofNats D)) w' := by
        refine ⟨_, _, rfl, decR_b8 H8.out, rfl, fun w' hb' => ?_⟩
        by_cases hp : l = [37]
        · have h1 : u = true := by rw [HU.out]; simp [hp]
          rw [h1, decR, if_pos hp, if_pos rfl]
          exact conv_own (B := 0) (World.ownsRow_nil _ _ _ _) (fun b hb => by cases hb) rfl
        · have h1 : u = false := by rw [HU.out]; simp [hp]
          rw [h1, decR, if_neg hp, ← HLA.out]
          exact conv_own (owns_keep HO.out fun g hg => hb'.block g (HO.out.lt g hg).2) HA.out.2.2.2 HA.out.1
      have hDlen : D.length ≤ l.length := by
        rw [← hDl, decR]
        split
        · simp
        · exact lax_len _ _
      rw [hDl] at hD8
      have RW := hid (rword_is hD8 (by omega) wr)
      obtain ⟨z, hz⟩ : ∃ z, z = ((ofNats (wordL D)).toList == (ofNats l).toList) := ⟨_, rfl⟩
      have HZ : Hid (z = decide (wordL D = l)) := by
        show z = _
        rw [hz, Bool.eq_iff_iff, beq_iff_eq, decide_eq_true_eq]
        constructor
        · intro h
          rw [ByteArray.toList_eq, ByteArray.toList_eq] at h
          have h2 : nums (ofNats (wordL D)) = nums (ofNats l) := by unfold nums; rw [h]
          rw [nums_ofNats (fun b hb => by have := wordL_range hD8 b hb; omega), nums_ofNats H8.out] at h2
          exact h2
        · intro h; rw [h]
      have HF : Hid (unA l = if z then (D, 0) else ([], 120)) := by
        show unA l = _
        rw [decA H8.out, HZ.out, hDl]
        by_cases h2 : wordL D = l
        · simp [h2]
        · simp [h2]
      generalize wordL D = wd at RW hz
      replace hz := hz.symm
      clear hpc hlt hk hDl hD8 hDlen HZ HLA
      cases u with
      | true =>
        have hv : v = .slice none 0 0 := hv
        rw [hv] at hcv
        replace hu := hu.symm
        have HCV := hid hcv
        have hc0 := hcv wr (Below.refl _ _)
        clear hv hcv
        go_wp2_with fail
        refine RW.out.mono ?_
        rintro e w1 ⟨rfl, hb1⟩
        have HB1 : Hid (Below w.heap.size w w1) := Below.on HB.out hb1
        have hc1 := HCV.out w1 hb1
        cases z with
        | true =>
          go_wp2_with fail
          go_ret2
          exact ⟨by rw [HF.out]; rfl, HB1.out⟩
        | false =>
          go_wp2_with fail
          go_ret2
          exact ⟨by rw [HF.out]; rfl, HB1.out⟩
      | false =>
        have hv : v = .slice a n c := hv
        rw [hv] at hcv
        replace hu := hu.symm
        have HCV := hid hcv
        have hc0 := hcv wr (Below.refl _ _)
        clear hv hcv
        go_wp2_with fail
        refine RW.out.mono ?_
        rintro e w1 ⟨rfl, hb1⟩
        have HB1 : Hid (Below w.heap.size w w1) := Below.on HB.out hb1
        have hc1 := HCV.out w1 hb1
        cases z with
        | true =>
          go_wp2_with fail
          go_ret2
          exact ⟨by rw [HF.out]; rfl, HB1.out⟩
        | false =>
          go_wp2_with fail
          go_ret2
          exact ⟨by rw [HF.out]; rfl, HB1.out⟩
end Go.Proofs.YthenfioddnkjbaaGreatDoor.Rt
/- What the lines have said, as the document keeps it, in memory. -/
namespace Go.Proofs.YthenfioddnkjbaaGreatDoor.Rt
open Go.RowKit Go.Sort
set_option linter.unusedVariables false

/-- it lies at p; v: the row of its split keys -/
structure BoxS (w : World) (p : Nat) (s : Sd) (v : Value) : Prop where
  t : ∀ k, k < 5 → w.cell? ⟨p, k, none⟩ = some (.int .i64 (s.t k : Nat))
  vl : ∀ k, k < 5 → w.cell? ⟨p, 5 + k, none⟩ = some (.int .u64 (s.v k : Nat))
  ov : w.cell? ⟨p, 10, none⟩ = some (.bool s.ov)
  sp : w.cell? ⟨p, 11, none⟩ = some v
theorem BoxS.later {w w' : World} {p : Nat} {s : Sd} {v : Value} (h : BoxS w p s v) (hb : Below w.heap.size w w') : BoxS w' p s v :=
  ⟨fun k hk => cell_later hb (h.t k hk), fun k hk => cell_later hb (h.vl k hk), cell_later hb h.ov, cell_later hb h.sp⟩
/-- wg: a world ahead of it; wl: the world ahead of the lines -/
structure StS (wg wl w : World) (p : Nat) (s : Sd) (v : Value) : Prop where
  box : BoxS w p s v
  loose : ∀ o, w.frozen? ⟨p, o, none⟩ = false
  row : w.ownsRow wl.heap.size 9 1 v s.sp.length (s.sp.map fun x => .string (ofNats x))
  onl : Onl (fun k => k = p) wl w
  bel : Below wg.heap.size wg w
  num : ∀ k, s.v k < 18446744073709551616
  lt : p < wl.heap.size
  gp : wg.heap.size ≤ p
section
variable {wg wl w : World} {p : Nat} {s : Sd} {v : Value}
theorem StS.ltw (h : StS wg wl w p s v) : p < w.heap.size := Nat.lt_of_lt_of_le h.lt h.onl.size
theorem StS.own (h : StS wg wl w p s v) : v.ownBlock ≠ some p := fun e => by
  have := (World.ownsRow.lt h.row p e).1
  have := h.lt
  omega
theorem StS.later (h : StS wg wl w p s v) {w' : World} (hb : Below w.heap.size w w') : StS wg wl w' p s v :=
  ⟨h.box.later hb, fun o => (hb.frozen (p := ⟨p, o, none⟩) h.ltw).trans (h.loose o), owns_keep h.row fun g hg => hb.block g (World.ownsRow.lt h.row g hg).2, h.onl.on hb, Below.on h.bel hb, h.num, h.lt, h.gp⟩
/-- a number said -/
theorem StS.put (h : StS wg wl w p s v) {k n : Nat} {o : Bool} (hk : k < 5) (hn : n < 18446744073709551616) :
    StS wg wl (((w.setCell ⟨p, k, none⟩ (.int .i64 ((s.t k : Int) + 1))).setCell ⟨p, 5 + k, none⟩ (.int .u64 (n : Nat))).setCell ⟨p, 10, none⟩ (.bool (s.ov || o))) p (s.num k n o) v := by
  obtain ⟨wz, hwz⟩ : ∃ wz, wz = (((w.setCell ⟨p, k, none⟩ (.int .i64 ((s.t k : Int) + 1))).setCell ⟨p, 5 + k, none⟩ (.int .u64 (n : Nat))).setCell ⟨p, 10, none⟩ (.bool (s.ov || o))) := ⟨_, rfl⟩
  rw [← hwz]
  have key : ∀ (j : Nat) (x : Value), w.cell? ⟨p, j, none⟩ = some x → wz.cell? ⟨p, j, none⟩ = some (if j = 10 then .bool (s.ov || o) else if j = 5 + k then .int .u64 (n : Nat) else if j = k then .int .i64 ((s.t k : Int) + 1) else x) := by
    intro j x hx
    rw [hwz]
    have h1 : (w.setCell ⟨p, k, none⟩ (.int .i64 ((s.t k : Int) + 1))).cell? ⟨p, j, none⟩ = some (if j = k then .int .i64 ((s.t k : Int) + 1) else x) := by
      by_cases e : j = k
      · subst e; rw [if_pos rfl]; exact World.cell?_setCell_same _ _ _ hx
      · rw [if_neg e, World.cell?_setCell_other (h := fun e' => e (congrArg Addr.off e').symm)]; exact hx
    have h2 : ((w.setCell ⟨p, k, none⟩ (.int .i64 ((s.t k : Int) + 1))).setCell ⟨p, 5 + k, none⟩ (.int .u64 (n : Nat))).cell? ⟨p, j, none⟩ = some (if j = 5 + k then .int .u64 (n : Nat) else if j = k then .int .i64 ((s.t k : Int) + 1) else x) := by
      by_cases e : j = 5 + k
      · rw [if_pos e, e]; rw [e] at h1; exact World.cell?_setCell_same _ _ _ h1
      · rw [if_neg e, World.cell?_setCell_other (h := fun e' => e (congrArg Addr.off e').symm)]; exact h1
    by_cases e : j = 10
    · rw [if_pos e, e]; rw [e] at h2; exact World.cell?_setCell_same _ _ _ h2
    · rw [if_neg e, World.cell?_setCell_other (h := fun e' => e (congrArg Addr.off e').symm)]; exact h2
  have o1 : Onl (fun k => k = p) w wz := by
    rw [hwz]
    exact Onl.set (F := fun k => k = p) (Onl.set (F := fun k => k = p) (Onl.set (F := fun k => k = p) (Onl.refl _ _) rfl _ _) rfl _ _) rfl _ _
  have hz : ∀ g, g ≠ p → g < w.heap.size → wz.heap[g]? = w.heap[g]? := fun g hg hl => o1.block g hl hg
  refine ⟨⟨fun j hj => ?_, fun j hj => ?_, ?_, ?_⟩, fun o => ?_, owns_keep h.row fun g hg => hz g (fun e => h.own (e ▸ hg)) (World.ownsRow.lt h.row g hg).2, h.onl.trans o1, ?_, fun j => ?_, h.lt, h.gp⟩
  · rw [key j _ (h.box.t j hj), if_neg (by omega), if_neg (by omega)]
    by_cases e : j = k
    · rw [if_pos e, e]; simp [Sd.num]
    · rw [if_neg e]; simp [Sd.num, e]
  · rw [key (5 + j) _ (h.box.vl j hj), if_neg (by omega)]
    by_cases e : j = k
    · rw [if_pos (by omega), e]; simp [Sd.num]
    · rw [if_neg (by omega), if_neg (by omega)]; simp [Sd.num, e]
  · rw [key 10 _ h.box.ov, if_pos rfl]; rfl
  · rw [key 11 _ h.box.sp, if_neg (by omega), if_neg (by omega), if_neg (by omega)]
  · rw [hwz, World.frozen?_setCell, World.frozen?_setCell, World.frozen?_setCell]
    exact h.loose _
  · exact h.bel.trans (o1.below (fun k hk => by rw [hk]; exact h.gp) h.bel.size)
  · show (if j = k then n else s.v j) < _
    by_cases hj : j = k
    · rw [if_pos hj]; exact hn
    · rw [if_neg hj]; exact h.num j
/-- a split key said -/
theorem StS.add (h : StS wg wl w p s v) {x : List Nat} {v' : Value} {w1 : World} (hr : w1.ownsRow wl.heap.size 9 1 v' (s.sp.length + 1) (s.sp.map (fun s => .string (ofNats s)) ++ [.string (ofNats x)])) (hc : w1.cell? ⟨p, 11, none⟩ = some v) (ho : Onl (fun k => v.ownBlock = some k) w w1) :
    StS wg wl (w1.setCell ⟨p, 11, none⟩ v') p (s.split x) v' := by
  obtain ⟨wz, hwz⟩ : ∃ wz, wz = w1.setCell ⟨p, 11, none⟩ v' := ⟨_, rfl⟩
  rw [← hwz]
  have key : ∀ (j : Nat) (x : Value), j ≠ 11 → w.cell? ⟨p, j, none⟩ = some x → wz.cell? ⟨p, j, none⟩ = some x := by
    intro j x hj hx
    rw [hwz, World.cell?_setCell_other (h := fun e => hj (congrArg Addr.off e).symm)]
    exact ho.cell h.own hx
  have hlo : ∀ k, v.ownBlock = some k → wl.heap.size ≤ k := fun k hk => (World.ownsRow.lt h.row k hk).1
  have hp1 : p ≠ v'.ownBlock.getD (p + 1) := by
    intro e
    cases hb : v'.ownBlock with
    | none => rw [hb] at e; simp at e
    | some g =>
      rw [hb] at e
      have := (World.ownsRow.lt hr g hb).1
      have := h.lt
      simp at e
      omega
  have o1 : Onl (fun k => k = p) wl w1 := h.onl.fresh ho fun i hi => .inr (hlo i hi)
  refine ⟨⟨fun k hk => key k _ (by omega) (h.box.t k hk), fun k hk => key (5 + k) _ (by omega) (h.box.vl k hk), key 10 _ (by decide) h.box.ov, ?_⟩, fun o => ?_, ?_, ?_, ?_, h.num, h.lt, h.gp⟩
  · rw [hwz]; exact World.cell?_setCell_same _ _ _ hc
  · rw [hwz, World.frozen?_setCell]
    exact (ho.loose h.own h.ltw h.loose) o
  · have hl : (s.split x).sp.length = s.sp.length + 1 := by simp [Sd.split]
    have hm : ((s.split x).sp.map fun s => Value.string (ofNats s)) = s.sp.map (fun s => .string (ofNats s)) ++ [.string (ofNats x)] := by simp [Sd.split]
    rw [hl, hm]
    refine owns_keep hr fun g hg => ?_
    rw [hwz]
    exact Below.heap_setCell _ _ _ _ (by show g ≠ p; intro e; rw [hg, e] at hp1; exact hp1 rfl)
  · rw [hwz]; exact Onl.set (F := fun k => k = p) o1 rfl _ _
  · rw [hwz]
    refine Below.setCell (h.bel.trans (ho.below (fun k hk => ?_) h.bel.size)) (p := ⟨p, 11, none⟩) h.gp _
    have := hlo k hk
    have := h.lt
    have := h.gp
    omega
end
/-! a line's two halves -/
theorem head_all {l : List UInt8} (h : ∀ b ∈ l, b ≠ 32) : headB l = l ∧ tailB l = [] := by
  unfold headB tailB
  induction l with
  | nil => exact ⟨rfl, rfl⟩
  | cons b l ih =>
    have hb : b ≠ 32 := h b (by simp)
    have ih := ih fun x hx => h x (by simp [hx])
    constructor
    · rw [List.takeWhile_cons, if_pos (by simpa using hb), ih.1]
    · rw [List.dropWhile_cons, if_pos (by simpa using hb), ih.2]
theorem head_cut : ∀ {l : List UInt8} {k : Nat}, (∀ b ∈ l.take k, b ≠ 32) → l[k]? = some 32 → headB l = l.take k ∧ tailB l = l.drop (k + 1)
  | [], k, _, h => by simp at h
  | b :: l, 0, _, h => by
    simp at h
    subst h
    exact ⟨rfl, rfl⟩
  | b :: l, k + 1, h, hc => by
    have hb : b ≠ 32 := h b (by simp)
    have ih := head_cut (l := l) (k := k) (fun x hx => h x (by simp [hx])) (by simpa using hc)
    unfold headB tailB at ih ⊢
    constructor
    · rw [List.takeWhile_cons, if_pos (by simpa using hb), ih.1, List.take_succ_cons]
    · rw [List.dropWhile_cons, if_pos (by simpa using hb), ih.2, List.drop_succ_cons]
theorem doc_none {s : Sd} {l : List UInt8} (hsk : ¬ (l = [] ∨ l.head? = some 35)) (h : ∀ b ∈ l, b ≠ 32) : docL s l = none := by
  unfold docL
  rw [if_neg hsk, (head_all h).2]
  have e1 : num [] = none := by unfold num; rw [if_pos (.inr (.inr rfl))]
  have e2 : unword (([] : List UInt8).map UInt8.toNat) = none := by decide
  rw [e1, e2]
  split
  · rfl
  · split <;> rfl
end Go.Proofs.YthenfioddnkjbaaGreatDoor.Rt
