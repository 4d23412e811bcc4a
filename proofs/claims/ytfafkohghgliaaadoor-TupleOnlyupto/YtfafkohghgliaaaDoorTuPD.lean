import Derived.Test.YtfafkohghgliaaaDoorTuDe
import Derived.Test.YtfafkohghgliaaaDoorTuFst
/- The program's Decode. -/
namespace Go.Proofs.YtfafkohghgliaaaDoor.Tu
open Go.RowKit Go.Sort Go.Proofs.YtfafkohghgliaaaDoor
set_option linter.unusedVariables false
set_option linter.unusedSectionVars false
variable [DecidableEq Vl]
set_option linter.unusedSimpArgs false

theorem ext_take {r z : List Nat} {v : Vl} (h8 : B8 r) (h : takeV r = some (v, z)) : (ofNats r).extract (r.length - z.length) r.length = ofNats z := by
  obtain ⟨h1, _, e⟩ := take_less h8 h
  rw [ofNats_extract h8, List.take_length]
  congr 1
  have e2 : r.length - z.length = (codeV v).length := by rw [← e, List.length_append]; omega
  rw [e2]
  conv => lhs; rw [← e]
  rw [List.drop_left]
theorem ofNats_nil : ofNats [] = ⟨#[]⟩ := rfl
theorem emptyR_is {r : List Nat} (h : r.length = 0) : ((ofNats r).toList == (⟨#[]⟩ : ByteArray).toList) = true ∧ (ofNats r).toList.isEmpty = true := by
  obtain rfl : r = [] := List.eq_nil_of_length_eq_zero h
  exact ⟨(beq_nats B8.nil B8.nil).trans (by simp), by rw [toL]; rfl⟩
theorem emptyR_no {r : List Nat} (h8 : B8 r) (h : r.length ≠ 0) : ((ofNats r).toList == (⟨#[]⟩ : ByteArray).toList) = false ∧ (ofNats r).toList.isEmpty = false := by
  have e : (⟨#[]⟩ : ByteArray) = ofNats [] := rfl
  have h1 : ((ofNats r).toList == (⟨#[]⟩ : ByteArray).toList) = false := by
    rw [e, beq_nats h8 (by intro x hx; cases hx)]
    exact decide_eq_false fun e => h (by rw [e]; rfl)
  refine ⟨h1, ?_⟩
  cases hl : (ofNats r).toList with
  | nil => rw [hl] at h1; simp at h1
  | cons a b => rfl
set_option maxHeartbeats 4000000 in
theorem decode_is {l : List Nat} (h8 : B8 l) (hl : l.length ≤ 67108864) (w : World) : Calls Tryd.prog 10 #[.string (ofNats l)] w (De l w) := by
  obtain ⟨n, hn⟩ : ∃ n, n = l.length := ⟨_, rfl⟩
  obtain ⟨b, hb⟩ : ∃ b, b = ofNats l := ⟨_, rfl⟩
  have hsz : b.size = n := by rw [hb, hn, ofNats_size]
  have HI0 : Hid (b = ofNats l ∧ B8 l ∧ l.length = n) := hid ⟨hb, h8, hn.symm⟩
  rw [← hb]
  rw [← hn] at hl
  clear hb hn h8
  go_enter Tryd.func10, Tryd.ntmps10
  go_wp2_with fail
  go_loopg [0, 4, 5, 6] n (fun g s0 s4 s5 s6 wr => ∃ (r : List Nat) (bk : ByteArray) (a : Option Addr) (c : Nat) (t : List Vl), s0 = .string bk ∧ s4 = .slice a t.length c ∧ bk.size = g ∧ t.length + g ≤ n ∧ Hid (bk = ofNats r ∧ B8 r ∧ r.length = g) ∧ Hid (OwnV wr w.heap.size (.slice a t.length c) t) ∧ Hid (decT l = (decT r).map (t ++ ·)) ∧ Hid (Below w.heap.size w wr))
  case atStart => exact ⟨l, b, none, 0, [], rfl, rfl, hsz, by simp, HI0, hid (OwnV.nil _ _), hid (by simp), hid (Below.refl _ _)⟩
  case round =>
    obtain ⟨r, bk, a, c, t, rfl, rfl, hsz2, htm, HI, HO, HT, HB⟩ := hrel
    clear HI0
    by_cases h0 : gk = 0
    · have hq := emptyR_is (r := r) (by rw [HI.out.2.2]; exact h0)
      rw [← HI.out.1] at hq
      obtain ⟨hq1, hq2⟩ := hq
      have HD : Hid (decT l = some t) := by
        show _ = _
        have hr : r = [] := List.eq_nil_of_length_eq_zero (by rw [HI.out.2.2]; exact h0)
        rw [HT.out, hr, decT_nil]; simp
      go_wp2_with fail
      refine bodyPost_ret (v := .tuple #[.slice a t.length c, .int .i64 0]) (by simp [results, Tryd.results10, go_sem]) rfl ⟨.slice a t.length c, ?_, ?_, HB.out⟩
      · rw [HD.out]; rfl
      · rw [HD.out]; exact HO.out
    · have hq := emptyR_no HI.out.2.1 (by rw [HI.out.2.2]; exact h0)
      rw [← HI.out.1] at hq
      obtain ⟨hq1, hq2⟩ := hq
      have hr0 : r ≠ [] := by intro e; have := HI.out.2.2; rw [e] at this; simp at this; omega
      have HR0 := hid hr0
      have HF : ∀ w, Hid (Calls Tryd.prog 18 #[.string bk] w (Fe r w)) := fun w => by
        rw [HI.out.1]; exact hid (first_is HI.out.2.1 hr0 (by rw [HI.out.2.2]; omega) w)
      clear hr0
      cases ht : takeV r with
      | none =>
        have HD : Hid (decT l = none) := by show _ = _; rw [HT.out, decT_none HR0.out ht]; rfl
        have HF1 : ∀ w, Hid (Calls Tryd.prog 18 #[.string bk] w fun e w' => e = .returned (.tuple #[vNull.val, .int .i64 0]) ∧ Below w.heap.size w w') := fun w => hid ((HF w).out.mono fun e w' h => by unfold Fe at h; rw [ht] at h; exact h)
        clear ht HF
        go_wp2_with (go_at_call 18; refine (HF1 _).out.mono ?_; rintro e w2 ⟨rfl, hb2⟩; have HB2 := hid hb2; clear hb2)
        refine bodyPost_ret (v := .tuple #[.slice none 0 0, .int .i64 250]) (by simp [results, Tryd.results10, go_sem]) rfl ⟨.slice none 0 0, ?_, ?_, ?_⟩
        · rw [HD.out]; rfl
        · rw [HD.out]; exact OwnV.nil _ _
        · have hbb := Below.on HB.out HB2.out
          (repeat (first | exact Below.refl _ _ | assumption | refine Below.drew ?_ | refine Below.al ?_ _ | refine Below.setCell ?_ (by first | exact Nat.le_refl _ | (simp; omega) | (simp; done)) _ | refine Below.on ?_ (by assumption)))
      | some q =>
        obtain ⟨v, z⟩ := q
        obtain ⟨hz1, hz8, _⟩ := take_less HI.out.2.1 ht
        have hext := ext_take HI.out.2.1 ht
        have HT2 : Hid (decT l = (decT z).map ((t ++ [v]) ++ ·)) := by
          show _ = _
          rw [HT.out, decT_take HI.out.2.1 ht]
          generalize decT z = o
          cases o <;> simp
        have HF1 : ∀ w, Hid (Calls Tryd.prog 18 #[.string bk] w fun e w' => e = .returned (.tuple #[v.val, .int .i64 ((r.length - z.length : Nat) : Int)]) ∧ Below w.heap.size w w') := fun w => hid ((HF w).out.mono fun e w' h => by unfold Fe at h; rw [ht] at h; exact h)
        rw [← HI.out.1, HI.out.2.2] at hext
        rw [HI.out.2.2] at hz1 HF1
        obtain ⟨k, hk⟩ : ∃ k, k = gk - z.length := ⟨_, rfl⟩
        rw [← hk] at hext HF1
        have hk1 : 1 ≤ k := by omega
        have hk2 : k ≤ gk := by omega
        have hzk : z.length = gk - k := by omega
        have hk3 : ((k : Int) == 0) = false := by simp; omega
        have HZ : Hid (bk.extract k gk = ofNats z ∧ B8 z ∧ z.length = gk - k) := hid ⟨hext, hz8, hzk⟩
        have hzs : (bk.extract k gk).size = gk - k := by rw [hext, ofNats_size, hzk]
        clear ht hz1 hz8 hext hk hzk HF
        obtain ⟨xk, xf, xn, xs⟩ := v
        go_wp2_with (first
          | (go_at_call 18; refine (HF1 _).out.mono ?_; rintro e w2 ⟨rfl, hb2⟩; have HB2 := hid hb2; have HO2 := hid (HO.out.later hb2); clear hb2)
          | (at_builtin; refine append_V rfl _ _ rfl (⟨xk, xf, xn, xs⟩ : Vl) rfl (HO2.out.later (Below.al (Below.al (Below.refl _ _) _) _)) (g := w2.heap.size + 1) rfl (by first | exact newV _ ⟨xk, xf, xn, xs⟩ _ | (simpa using newV (w2.alloc _) ⟨xk, xf, xn, xs⟩ _)) (by omega) (by have := HB.out.size; have := HB2.out.size; simp; omega) ?_; intro v3 w3 ho3 hg3; have HB3 := hid (OwnV.grown (HO2.out.later (Below.al (Below.al (Below.refl _ _) _) _)) hg3 (Below.al (Below.al (Below.on HB.out HB2.out) _) _) (Nat.le_refl _)); obtain ⟨a3, c3, hv3⟩ := ho3.slice; rw [List.length_append, List.length_singleton] at hv3; subst hv3; have HO3 := hid ho3; clear hg3 ho3))
        go_roundg (gk - k)
        case measure => omega
        case rel => exact ⟨z, bk.extract k gk, a3, c3, t ++ [⟨xk, xf, xn, xs⟩], rfl, by simp, hzs, by simp; omega, HZ, by simpa using HO3, HT2, HB3⟩
end Go.Proofs.YtfafkohghgliaaaDoor.Tu
