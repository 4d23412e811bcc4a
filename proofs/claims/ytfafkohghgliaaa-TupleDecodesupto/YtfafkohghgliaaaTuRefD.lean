import Derived.Test.YtfafkohghgliaaaTuRefI
import Derived.Test.YtfafkohghgliaaaTuDe
/- The document's Decode. -/
namespace Go.Proofs.Ytfafkohghgliaaa.Tu
open Go.RowKit Go.Sort Go.Proofs.Ytfafkohghgliaaa
set_option linter.unusedVariables false
set_option linter.unusedSectionVars false
variable [DecidableEq Vl]

theorem guess_is {l : List Nat} (h8 : B8 l) (h0 : l ≠ []) (hl : l.length ≤ 4611686018427387904) (w : World) : Calls Try.prog 17 #[.string (ofNats l)] w (Ge l w) := by
  cases l with
  | nil => exact absurd rfl h0
  | cons c r =>
    by_cases h1 : c < 16 ∨ 32 < c
    · exact guess_plain h8 hl h1 w
    · by_cases h2 : 24 ≤ c
      · exact guess_pos h8 hl h2 (by omega) w
      · exact guess_neg h8 hl (by omega) (by omega) w
set_option maxHeartbeats 4000000 in
theorem refdecode_is {l : List Nat} (h8 : B8 l) (hl : 64 * (l.length + 1) ≤ 140737488355328) (w : World) : Calls Try.prog 11 #[.string (ofNats l)] w (De l w) := by
  have hsz : (ofNats l).size = l.length := ofNats_size l
  obtain ⟨n, hn⟩ : ∃ n, n = l.length := ⟨_, rfl⟩
  have HN := hid hn
  have H8 := hid h8
  rw [← hn] at hl hsz
  clear h8 hn
  go_enter Try.func11, Try.ntmps11
  go_wp2_with fail
  go_loopg [4, 5, 6, 7] n (fun g s4 s5 s6 s7 wr => ∃ (p : Nat) (a : Option Addr) (c : Nat) (t : List Vl), p ≤ n ∧ g = n - p ∧ s5 = .int .i64 p ∧ s4 = .slice a t.length c ∧ t.length ≤ p ∧ Hid (OwnV wr w.heap.size (.slice a t.length c) t) ∧ Hid (∀ z, Gs (l.drop p) z → Gs l (t ++ z)) ∧ Hid (Below w.heap.size w wr))
  case atStart => exact ⟨0, none, 0, [], by omega, by omega, rfl, rfl, by simp, OwnV.nil _ _, fun z hz => hz, Below.refl _ _⟩
  case round =>
    obtain ⟨p, a, c, t, hp, rfl, rfl, rfl, htp, HO, HG, HB⟩ := hrel
    by_cases hlt : p < n
    · have hdl : (ofNats l).extract p n = ofNats (l.drop p) := by
        rw [ofNats_extract H8.out, HN.out, List.take_length]
      have hge := guess_is (H8.out.drop p) (by intro e; have := congrArg List.length e; rw [List.length_drop, ← HN.out] at this; simp at this; omega) (by rw [List.length_drop]; have := HN.out; omega)
      have HGE : ∀ w, Hid (Calls Try.prog 17 #[.string ((ofNats l).extract p n)] w (Ge (l.drop p) w)) := fun w => by rw [hdl]; exact hid (hge w)
      clear hge hdl
      go_wp2_with (first
        | (go_at_call 17; refine (HGE _).out.mono ?_; rintro e w2 ⟨x, k, rfl, hg, hb2⟩; obtain ⟨xk, xf, xn, xs⟩ := x; have hk1 := hg.le; rw [List.length_drop, ← HN.out] at hk1; have hk2 := hg.pos; have HGD := hid hg; have HB2 := hid (Below.on HB.out hb2); have HO2 := hid (HO.out.later hb2); clear hg hb2)
        | (at_builtin; refine append_V rfl _ _ rfl (⟨xk, xf, xn, xs⟩ : Vl) rfl (HO2.out.later (Below.al (Below.al (Below.refl _ _) _) _)) (g := w2.heap.size + 1) rfl (by first | exact newV _ ⟨xk, xf, xn, xs⟩ _ | (simpa using newV (w2.alloc _) ⟨xk, xf, xn, xs⟩ _)) (by omega) (by have := HB2.out.size; simp; omega) ?_; intro v3 w3 ho3 hg3; have HB3 := hid (OwnV.grown (HO2.out.later (Below.al (Below.al (Below.refl _ _) _) _)) hg3 (Below.al (Below.al HB2.out _) _) (Nat.le_refl _)); have hv3 := ho3.slice; clear hg3))
      obtain ⟨a3, c3, rfl⟩ := hv3
      go_roundg (n - (p + k))
      case measure => omega
      case rel => exact ⟨p + k, a3, c3, t ++ [⟨xk, xf, xn, xs⟩], by omega, rfl, by go_num, rfl, by simp; omega, hid ho3, hid (Gs.snoc HG.out HGD.out), HB3⟩
    · obtain rfl : p = n := by omega
      have hgs : Gs l t := by
        have := HG.out [] (by rw [HN.out, List.drop_length]; exact .nil)
        simpa using this
      obtain ⟨ok, hlen, hcnt, hsh⟩ := gs_ok hgs
      have hlN := HN.out
      have HE : Hid (Calls Try.prog 18 #[.slice a t.length c] wr fun e w' => e = .returned (.tuple #[.string (encS t), .int .i64 (vE (okT t))]) ∧ Below wr.heap.size wr w') :=
        hid (refencode_is HO.out.row ok (fun v hv => by have := hsh v hv; omega) (by omega) (by omega))
      have HB8 := hid (encL_b8 ok)
      have HGS := hid hgs
      clear hgs ok hlen hcnt hsh
      obtain ⟨u, hu⟩ : ∃ u, okT t = u := ⟨_, rfl⟩
      rw [hu] at HE
      cases u with
      | false =>
        have HD : Hid (decT l = none) := by
          show _ = _
          cases hd : decT l with
          | none => rfl
          | some t' =>
            have e := gs_some HGS.out hd
            subst e
            have := (dec_only H8.out hd).1
            rw [this] at hu; cases hu
        clear hu
        go_wp2_with (go_at_call 18; refine HE.out.mono ?_; rintro e w2 ⟨rfl, hb2⟩; simp only [vE])
        have HB2 := hid (Below.on HB.out hb2)
        clear hb2
        refine bodyPost_ret (v := .tuple #[.slice none 0 0, .int .i64 250]) (by simp [results, Try.results11, go_sem]) rfl ⟨.slice none 0 0, ?_, ?_, HB2.out⟩
        · rw [HD.out]; rfl
        · rw [HD.out]; exact OwnV.nil _ _
      | true =>
        have HS : Hid (encS t = ofNats (encL t)) := by show _ = _; unfold encS; rw [hu]; rfl
        obtain ⟨bk, hbk⟩ : ∃ bk, bk = encS t := ⟨_, rfl⟩
        rw [← hbk] at HE
        have hq : (bk.toList == (ofNats l).toList) = decide (encL t = l) := by rw [hbk, HS.out]; exact beq_nats HB8.out H8.out
        by_cases he : encL t = l
        · have HD : Hid (decT l = some t) := (gs_back H8.out HGS.out).1 ⟨hu, he⟩
          rw [decide_eq_true he] at hq
          clear hu he hbk
          go_wp2_with (go_at_call 18; refine HE.out.mono ?_; rintro e w2 ⟨rfl, hb2⟩; simp only [vE])
          have HB2 := hid (Below.on HB.out hb2)
          have HO2 := hid (HO.out.later hb2)
          clear hb2
          refine bodyPost_ret (v := .tuple #[.slice a t.length c, .int .i64 0]) (by simp [results, Try.results11, go_sem]) rfl ⟨.slice a t.length c, ?_, ?_, HB2.out⟩
          · rw [HD.out]; rfl
          · rw [HD.out]; exact HO2.out
        · have HD : Hid (decT l = none) := by
            show _ = _
            cases hd : decT l with
            | none => rfl
            | some t' =>
              have e := gs_some HGS.out hd
              subst e
              exact absurd (dec_only H8.out hd).2.2 he
          rw [decide_eq_false he] at hq
          clear hu he hbk
          go_wp2_with (go_at_call 18; refine HE.out.mono ?_; rintro e w2 ⟨rfl, hb2⟩; simp only [vE])
          have HB2 := hid (Below.on HB.out hb2)
          clear hb2
          refine bodyPost_ret (v := .tuple #[.slice none 0 0, .int .i64 250]) (by simp [results, Try.results11, go_sem]) rfl ⟨.slice none 0 0, ?_, ?_, HB2.out⟩
          · rw [HD.out]; rfl
          · rw [HD.out]; exact OwnV.nil _ _
end Go.Proofs.Ytfafkohghgliaaa.Tu
