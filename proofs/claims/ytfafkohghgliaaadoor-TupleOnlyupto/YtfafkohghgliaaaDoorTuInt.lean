import Derived.Test.YtfafkohghgliaaaDoorTuLay
import Derived.Laws.Bits64
/- An integer's code is appended. -/
namespace Go.Proofs.YtfafkohghgliaaaDoor.Tu
open Go.RowKit Go.Sort Go.Proofs.YtfafkohghgliaaaDoor
set_option linter.unusedVariables false
set_option linter.unusedSectionVars false
variable [DecidableEq Vl]

/-- what an append answers -/
def Ae (B : Nat) (w : World) (l : List Nat) (e : Ending) (w' : World) : Prop := ∃ v, e = .returned v ∧ OwnB w' B v l ∧ Below B w w'
set_option maxHeartbeats 2000000 in
theorem appInt_pos {w : World} {B : Nat} {v : Value} {l : List Nat} {n : Int} (hO : OwnB w B v l) (hB : B ≤ w.heap.size) (h : In64 n) (h0 : 0 ≤ n) (hl : l.length ≤ 70368744177664) :
    Calls Tryd.prog 22 #[v, .int .i64 n] w (Ae B w (l ++ intC n)) := by
  have h8 := (int_len h).1
  obtain ⟨f, rfl⟩ : ∃ f : Nat, n = f := ⟨n.toNat, by omega⟩
  have hf : (f : Int) ≤ 9223372036854775807 := h.2
  rw [show (f : Int).toNat = f by omega] at h8
  have HE : Hid (intC (f : Int) = (24 + (mb f).length) :: mb f) := by show _ = _; unfold intC; rw [if_pos h0, show (f : Int).toNat = f by omega]
  have HL := fun w => hid (lay_is (f := f) (by omega) h8 w)
  have HO := hid hO
  have HB := hid hB
  have n0 : ¬ (f : Int) < 0 := by omega
  clear hO hB h h0
  go_enter Tryd.func22, Tryd.ntmps22
  go_wp2_with (first
    | (go_at_call 31; refine (HL _).out.mono ?_; rintro e w1 ⟨a0, a1, a2, a3, a4, a5, a6, a7, p, hp, hL, rfl, hb1⟩; have HB1 := hid hb1; have HP := hid hL; obtain ⟨q, hsl, hq⟩ := slice_room w1.heap.size hp; have HQ := hid hq; clear hb1 hL hq)
    | (at_builtin; refine append_B rfl _ _ rfl [24 + (mb f).length] rfl (HO.out.later (Below.al (Below.al HB1.out _) _)) (g := w1.heap.size + 1) rfl rfl ?c1 ?c2 ?c3 ?_; (case c1 => intro i hi; obtain rfl : i = 0 := (by simpa using hi); simp [go_sem]; try omega); (case c2 => show l.length + 1 ≤ _; omega); (case c3 => have := HB1.out.size; have := HB.out; simp; omega); intro v2 w2 ho2 hg2; have HO2 := hid ho2; have HR2 := hid (OwnB.keeps (r := w1.heap.size) (HO.out.later (Below.al (Below.al HB1.out _) _)) hg2 ((Below.heap_alloc _ _ _ (by simp)).trans (World.alloc_heap_new _ _)) (by decide)); have HB2 := hid (OwnB.grown (HO.out.later (Below.al (Below.al HB1.out _) _)) hg2 ((Below.al (Below.al HB1.out _) _).mono HB.out) HB.out); clear ho2 hg2)
    | (at_builtin; go_loud (refine append_B rfl _ _ rfl (mb f) rfl HO2.out rfl rfl ?c1 ?c2 ?c3 ?_; (case c1 => exact room_cells (p := p) (l := mb f) (T := 55) (by rw [HP.out]; exact HR2.out) HQ.out hp); (case c2 => simp; omega); (case c3 => have := HB2.out.size; have := HB.out; omega); intro v3 w3 ho3 hg3; have HO3 := hid ho3; have HB3 := hid (OwnB.grown HO2.out hg3 HB2.out HB.out); clear ho3 hg3)))
  go_ret
  exact ⟨v3, rfl, by have := HO3.out; rw [List.append_assoc] at this; rw [HE.out]; exact this, HB3.out⟩
theorem xor_ff {d : Nat} (h : d < 256) : bits .xor .u8 (d : Int) 255 = ((cpl d : Nat) : Int) := by
  have : ∀ e : Fin 256, bits .xor .u8 ((e.val : Nat) : Int) 255 = ((cpl e.val : Nat) : Int) := by decide +kernel
  exact this ⟨d, h⟩
theorem cps_take {l : List Nat} {i : Nat} (h : i < l.length) : cps (l.take (i + 1)) = cps (l.take i) ++ [cpl l[i]] := by
  rw [List.take_succ_eq_append_getElem h]; simp only [cps, List.map_append, List.map_cons, List.map_nil]
set_option maxHeartbeats 4000000 in
theorem appInt_neg {w : World} {B : Nat} {v : Value} {l : List Nat} {n : Int} (hO : OwnB w B v l) (hB : B ≤ w.heap.size) (h : In64 n) (h0 : n < 0) (hl : l.length ≤ 70368744177664) :
    Calls Tryd.prog 22 #[v, .int .i64 n] w (Ae B w (l ++ intC n)) := by
  have h8 := (int_len h).2
  obtain ⟨f, hfn⟩ : ∃ f : Nat, f = (-n).toNat := ⟨_, rfl⟩
  have HN : Hid (n = -(f : Int)) := by show _ = _; omega
  have hf : (f : Int) ≤ 9223372036854775808 := by have := h.1; omega
  rw [← hfn] at h8
  obtain ⟨k, hk⟩ : ∃ k, k = (mb f).length := ⟨_, rfl⟩
  have HE : Hid (intC n = (24 - k) :: cps (mb f)) := by show _ = _; unfold intC; rw [if_neg (by omega), ← hfn, hk]
  have HL := fun w => hid (lay_is (f := f) (by omega) h8 w)
  have HO := hid hO
  have HB := hid hB
  have HK := hid hk
  have HM := hid (mb_b8 f)
  rw [← hk] at h8
  have e1 : IntKind.u64.wrap (-IntKind.u64.wrap n) = (f : Int) := by rw [IntKind.wrap_u64, IntKind.wrap_u64, HN.out]; omega
  clear hO hB h hfn hk
  go_enter Tryd.func22, Tryd.ntmps22
  go_wp2_with (first
    | (go_at_call 31; go_loud (refine (HL _).out.mono ?_; rintro e w1 ⟨a0, a1, a2, a3, a4, a5, a6, a7, p, hp, hL, rfl, hb1⟩; rw [← HK.out] at hp; have HB1 := hid hb1; have HP := hid hL; obtain ⟨q, hsl, hq⟩ := slice_room w1.heap.size hp; have HQ := hid hq; clear hb1 hL hq))
    | (at_builtin; go_loud (refine append_B rfl _ _ rfl [24 - k] rfl (HO.out.later (Below.al (Below.al HB1.out _) _)) (g := w1.heap.size + 1) rfl rfl ?c1 ?c2 ?c3 ?_; (case c1 => intro i hi; obtain rfl : i = 0 := (by simpa using hi); simp [go_sem]; try omega); (case c2 => show l.length + 1 ≤ _; omega); (case c3 => have := HB1.out.size; have := HB.out; simp; omega); intro v2 w2 ho2 hg2; have HO2 := hid ho2; have HR2 := hid (OwnB.keeps (r := w1.heap.size) (HO.out.later (Below.al (Below.al HB1.out _) _)) hg2 ((Below.heap_alloc _ _ _ (by simp)).trans (World.alloc_heap_new _ _)) (by decide)); have HB2 := hid (OwnB.grown (HO.out.later (Below.al (Below.al HB1.out _) _)) hg2 ((Below.al (Below.al HB1.out _) _).mono HB.out) HB.out); clear ho2 hg2)))
  go_loopg [0, 8, 30] k (fun g s0 s8 s30 wr => ∃ (i : Nat) (u : Value), i ≤ k ∧ g = k - i ∧ s30 = .int .i64 i ∧ s0 = u ∧ Hid (OwnB wr B u (l ++ [24 - k] ++ cps ((mb f).take i))) ∧ Hid (wr.heap[w1.heap.size]? = some (.cells (bc (List.replicate p 0 ++ mb f)).toArray 55 (0, 0))) ∧ Hid (Below B w wr))
  case atStart => exact ⟨0, v2, by omega, by omega, rfl, rfl, hid (by simpa [cps] using HO2.out), hid (by rw [HP.out]; exact HR2.out), HB2.out⟩
  case round =>
    obtain ⟨i, u, hi, rfl, rfl, rfl, HOr, HRr, HBr⟩ := hrel
    by_cases hlt : i < k
    · have hlt' : i < (mb f).length := by rw [← HK.out]; exact hlt
      obtain ⟨d, hd⟩ : ∃ d, d = (mb f)[i] := ⟨_, rfl⟩
      have hc := room_cells HRr.out HQ.out (by rw [← HK.out]; exact hp) i hlt'
      rw [← hd] at hc
      have hd8 : d < 256 := by rw [hd]; exact HM.out _ (List.getElem_mem hlt')
      have hx := xor_ff hd8
      have HC : Hid (cps ((mb f).take (i + 1)) = cps ((mb f).take i) ++ [cpl d]) := by show _ = _; rw [cps_take hlt', ← hd]
      have hcl : (cps ((mb f).take i)).length ≤ 8 := by rw [cps_len, List.length_take]; omega
      clear hd hlt'
      go_wp2_with (at_builtin; go_loud (refine append_B rfl _ _ rfl [cpl d] rfl (HOr.out.later (Below.al (Below.refl _ _) _)) (g := wr.heap.size) rfl rfl ?c1 ?c2 ?c3 ?_; (case c1 => intro i hi; obtain rfl : i = 0 := (by simpa using hi); simp [go_sem]; try omega); (case c2 => simp; omega); (case c3 => have := HBr.out.size; have := HB.out; simp; omega); intro v3 w3 ho3 hg3; have HO3 := hid ho3; have HR3 := hid (OwnB.keeps (r := w1.heap.size) (HOr.out.later (Below.al (Below.refl _ _) _)) hg3 ((Below.heap_alloc _ _ _ (Array.getElem?_eq_some_iff.1 HRr.out).1).trans HRr.out) (by decide)); have HB3 := hid (OwnB.grown (HOr.out.later (Below.al (Below.refl _ _) _)) hg3 (HBr.out.alloc (by have := HBr.out.size; have := HB.out; omega) _) HB.out); clear ho3 hg3))
      go_roundg (k - (i + 1))
      case measure => omega
      case rel => exact ⟨i + 1, v3, by omega, rfl, by go_num, rfl, hid (by rw [HC.out, ← List.append_assoc]; exact HO3.out), HR3, HB3.out⟩
    · obtain rfl : i = k := by omega
      go_wp2_with fail
      go_ret
      exact ⟨_, rfl, by have := HOr.out; rw [HK.out, List.take_length, ← HK.out, List.append_assoc] at this; rw [HE.out]; exact this, HBr.out⟩
theorem appInt_is {w : World} {B : Nat} {v : Value} {l : List Nat} {n : Int} (hO : OwnB w B v l) (hB : B ≤ w.heap.size) (h : In64 n) (hl : l.length ≤ 70368744177664) :
    Calls Tryd.prog 22 #[v, .int .i64 n] w (Ae B w (l ++ intC n)) := by
  by_cases h0 : 0 ≤ n
  · exact appInt_pos hO hB h h0 hl
  · exact appInt_neg hO hB h (by omega) hl
end Go.Proofs.YtfafkohghgliaaaDoor.Tu
