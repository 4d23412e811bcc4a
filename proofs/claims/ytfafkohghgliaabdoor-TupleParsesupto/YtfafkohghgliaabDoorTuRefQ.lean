import Derived.Test.YtfafkohghgliaabDoorTuRefP
/- The document's Parse, whole. -/
namespace Go.Proofs.YtfafkohghgliaabDoor.Tu
open Go.RowKit Go.Sort Go.Proofs.YtfafkohghgliaabDoor Go.Proofs.YtfafkohghgliaabDoor.Rt Go.Proofs.YtfafkohghgliaabDoor.Gt
set_option linter.unusedVariables false
set_option linter.unusedSectionVars false
variable [DecidableEq Vl]

/-- where the loop stands -/
def Qx (l : List Nat) (ws : List (List Nat)) (f i : Nat) : Prop := Fx l ws f i ∨ (i = l.length + 1 ∧ fld l = ws)
set_option maxHeartbeats 1000000 in
theorem refparse_ne {l : List Nat} (h8 : B8 l) (h0 : l ≠ []) (hl : 64 * (l.length + 1) ≤ 140737488355328) (w : World) : Calls Tryd.prog 24 #[.string (ofNats l)] w (Pe l w) := by
  have hsz : (ofNats l).size = l.length := ofNats_size l
  have l4 : (ofNats l).toList.isEmpty = false := by rw [empty_is]; exact decide_eq_false h0
  have l5 : ((ofNats l).toList == []) = false := by
    rw [lit_is h8 B8.nil (by simp [ofNats, ByteArray.toList_eq])]; exact decide_eq_false h0
  obtain ⟨n, hn⟩ : ∃ n, n = l.length := ⟨_, rfl⟩
  have HN := hid hn
  have H8 := hid h8
  have H0 := hid h0
  rw [← hn] at hl hsz
  clear h8 hn h0
  go_enter Tryd.func24, Tryd.ntmps24
  go_wp2_with fail
  go_loopg [4, 5, 6] (n + 1) (fun g s4 s5 s6 wr => ∃ (i f : Nat) (a : Option Addr) (c : Nat) (t : List Vl) (ws : List (List Nat)), i ≤ n + 1 ∧ f ≤ n + 1 ∧ (i ≤ n → f ≤ i) ∧ g = n + 1 - i ∧ s6 = .int .i64 i ∧ s5 = .int .i64 f ∧ s4 = .slice a t.length c ∧ t.length ≤ i ∧ Hid (OwnV wr w.heap.size (.slice a t.length c) t) ∧ Hid (Qx l ws f i) ∧ Hid (Hs ws t) ∧ Hid (Below w.heap.size w wr))
  case atStart => exact ⟨0, 0, none, 0, [], [], by omega, by omega, by omega, by omega, rfl, rfl, rfl, by simp, OwnV.nil _ _, .inl (Fx.zero l), Hs.nil, Below.refl _ _⟩
  case round =>
    obtain ⟨i, f, a, c, t, ws, hi, hf, hfi, rfl, rfl, rfl, rfl, hti, HO, HQ, HS, HB⟩ := hrel
    by_cases hlt : i ≤ n
    · have hfi' := hfi hlt
      have HX : Hid (Fx l ws f i) := HQ.out.elim id fun h => absurd h.1 (by rw [← HN.out]; omega)
      clear HQ hfi
      have hxt : (ofNats l).extract f i = ofNats (wd l f i) := ofNats_extract H8.out _ _
      have HH : ∀ w, Hid (Calls Tryd.prog 37 #[.string ((ofNats l).extract f i)] w (Ghe (wd l f i) w)) := fun w => by
        rw [hxt]
        exact hid (heard_is (wd_b8 H8.out f i) (by have := wd_len l f i; rw [← HN.out] at this; omega) w)
      clear hxt
      have hln : n ≤ 140737488355328 := by omega
      by_cases hend : i = n
      · have HF : Hid (fld l = ws ++ [wd l f i]) := HX.out.end' (by rw [hend]; exact HN.out)
        subst hend
        clear hlt
        go_wp2_with (first
          | (go_at_call 37; refine (HH _).out.mono ?_; rintro e w2 ⟨x, rfl, hg, hb2⟩; obtain ⟨xk, xf, xn, xs⟩ := x; have HGD := hid hg; have HB2 := hid (Below.on HB.out hb2); have HO2 := hid (HO.out.later hb2); clear hg hb2)
          | (at_builtin; refine append_V rfl _ _ rfl (⟨xk, xf, xn, xs⟩ : Vl) rfl (HO2.out.later (Below.al (Below.refl _ _) _)) (g := w2.heap.size) rfl (by first | exact newV _ ⟨xk, xf, xn, xs⟩ _ | (simpa using newV (w2.alloc _) ⟨xk, xf, xn, xs⟩ _)) (by omega) (by have := HB2.out.size; simp; omega) ?_; intro v3 w3 ho3 hg3; have HB3 := hid (OwnV.grown (HO2.out.later (Below.al (Below.refl _ _) _)) hg3 (Below.al HB2.out _) (Nat.le_refl _)); have hv3 := ho3.slice; clear hg3))
        obtain ⟨a3, c3, rfl⟩ := hv3
        go_roundg 0
        case measure => omega
        case rel => exact ⟨i + 1, i + 1, a3, c3, t ++ [⟨xk, xf, xn, xs⟩], ws ++ [wd l f i], by omega, by omega, by omega, by omega, by go_num, by go_num, rfl, by simp; omega, hid ho3, hid (.inr ⟨by rw [HN.out], HF.out⟩), hid (HS.out.snoc HGD.out), HB3⟩
      · have hlt2 : i < n := by omega
        have hlt' : i < l.length := by rw [← HN.out]; exact hlt2
        have hc : l[i]? = some l[i] := List.getElem?_eq_getElem hlt'
        obtain ⟨d, hd⟩ : ∃ d, d = l[i] := ⟨_, rfl⟩
        rw [← hd] at hc
        have hix : ∀ w, (Instr.index 9 (.string (ofNats l)) (.int .i64 (i : Int))).run Tryd.prog w = .ok (.int .u8 (d : Int)) w := fun w => index_at H8.out hc w
        have d1 : ((i : Int) == (n : Int)) = false := by simp; omega
        by_cases h32 : d = 32
        · have HF : Hid (Fx l (ws ++ [wd l f i]) (i + 1) (i + 1)) := HX.out.cut (by rw [hc, h32])
          subst h32
          clear hd hc hlt' hend hlt
          go_wp2_with (first
            | (go_at_call 37; refine (HH _).out.mono ?_; rintro e w2 ⟨x, rfl, hg, hb2⟩; obtain ⟨xk, xf, xn, xs⟩ := x; have HGD := hid hg; have HB2 := hid (Below.on HB.out hb2); have HO2 := hid (HO.out.later hb2); clear hg hb2)
            | (at_builtin; refine append_V rfl _ _ rfl (⟨xk, xf, xn, xs⟩ : Vl) rfl (HO2.out.later (Below.al (Below.refl _ _) _)) (g := w2.heap.size) rfl (by first | exact newV _ ⟨xk, xf, xn, xs⟩ _ | (simpa using newV (w2.alloc _) ⟨xk, xf, xn, xs⟩ _)) (by omega) (by have := HB2.out.size; simp; omega) ?_; intro v3 w3 ho3 hg3; have HB3 := hid (OwnV.grown (HO2.out.later (Below.al (Below.refl _ _) _)) hg3 (Below.al HB2.out _) (Nat.le_refl _)); have hv3 := ho3.slice; clear hg3))
          obtain ⟨a3, c3, rfl⟩ := hv3
          go_roundg (n + 1 - (i + 1))
          case measure => omega
          case rel => exact ⟨i + 1, i + 1, a3, c3, t ++ [⟨xk, xf, xn, xs⟩], ws ++ [wd l f i], by omega, by omega, by omega, rfl, by go_num, by go_num, rfl, by simp; omega, hid ho3, hid (.inl HF.out), hid (HS.out.snoc HGD.out), HB3⟩
        · have d2 : ((d : Int) == 32) = false := by simp; omega
          have HF : Hid (Fx l ws f (i + 1)) := HX.out.one hc h32
          clear hd hc hlt' hend hlt h32
          go_wp2_with fail
          go_roundg (n + 1 - (i + 1))
          case measure => omega
          case rel => exact ⟨i + 1, f, a, c, t, ws, by omega, by omega, by omega, rfl, by go_num, rfl, rfl, by omega, HO, hid (.inl HF.out), HS, HB⟩
    · obtain rfl : i = n + 1 := by omega
      have HF : Hid (fld l = ws) := HQ.out.elim (fun h => absurd h.le2 (by rw [← HN.out]; omega)) fun h => h.2
      have hgs : Hs (fld l) t := by rw [HF.out]; exact HS.out
      have hlN := HN.out
      obtain ⟨s1, s2, s3⟩ := hs_short hgs (by rw [← HN.out]; exact hl)
      have HE : Hid (Calls Tryd.prog 22 #[.slice a t.length c] wr fun e w' => e = .returned (.tuple #[.string (textS t), .int .i64 (vE (okT t))]) ∧ Below wr.heap.size wr w') :=
        hid (refText_is HO.out.row hgs.ok s1 s2 s3)
      have HB8 : Hid (B8 (textL t)) := by
        exact text_b8 HS.out.ok
      have HGS : Hid (if l = [] then t = [] else Hs (fld l) t) := by show ite _ _ _; rw [if_neg H0.out]; exact hgs
      clear hgs s1 s2 s3 hfi HQ HF
      obtain ⟨u, hu⟩ : ∃ u, okT t = u := ⟨_, rfl⟩
      rw [hu] at HE
      cases u with
      | false =>
        have HD : Hid (parT l = none) := par_none H8.out HGS.out (fun h => by rw [hu] at h; cases h.1)
        clear hu
        go_wp2_with (go_at_call 22; refine HE.out.mono ?_; rintro e w2 ⟨rfl, hb2⟩; simp only [vE])
        have HB2 := hid (Below.on HB.out hb2)
        clear hb2
        refine bodyPost_ret (v := .tuple #[.slice none 0 0, .int .i64 250]) (by simp [results, Tryd.results24, go_sem]) rfl ⟨.slice none 0 0, ?_, ?_, HB2.out⟩
        · rw [HD.out]; rfl
        · rw [HD.out]; exact OwnV.nil _ _
      | true =>
        have HS2 : Hid (textS t = ofNats (textL t)) := by show _ = _; unfold textS; rw [hu]; rfl
        obtain ⟨bk, hbk⟩ : ∃ bk, bk = textS t := ⟨_, rfl⟩
        rw [← hbk] at HE
        have hq : (bk.toList == (ofNats l).toList) = decide (textL t = l) := by rw [hbk, HS2.out]; exact beq_nats HB8.out H8.out
        by_cases he : textL t = l
        · have HD : Hid (parT l = some t) := (par_back H8.out HGS.out).1.2 ⟨hu, he⟩
          rw [decide_eq_true he] at hq
          clear hu he hbk
          go_wp2_with (go_at_call 22; refine HE.out.mono ?_; rintro e w2 ⟨rfl, hb2⟩; simp only [vE])
          have HB2 := hid (Below.on HB.out hb2)
          have HO2 := hid (HO.out.later hb2)
          clear hb2
          refine bodyPost_ret (v := .tuple #[.slice a t.length c, .int .i64 0]) (by simp [results, Tryd.results24, go_sem]) rfl ⟨.slice a t.length c, ?_, ?_, HB2.out⟩
          · rw [HD.out]; rfl
          · rw [HD.out]; exact HO2.out
        · have HD : Hid (parT l = none) := par_none H8.out HGS.out (fun h => he h.2)
          rw [decide_eq_false he] at hq
          clear hu he hbk
          go_wp2_with (go_at_call 22; refine HE.out.mono ?_; rintro e w2 ⟨rfl, hb2⟩; simp only [vE])
          have HB2 := hid (Below.on HB.out hb2)
          clear hb2
          refine bodyPost_ret (v := .tuple #[.slice none 0 0, .int .i64 250]) (by simp [results, Tryd.results24, go_sem]) rfl ⟨.slice none 0 0, ?_, ?_, HB2.out⟩
          · rw [HD.out]; rfl
          · rw [HD.out]; exact OwnV.nil _ _
theorem refparse_is {l : List Nat} (h8 : B8 l) (hl : 64 * (l.length + 1) ≤ 140737488355328) (w : World) : Calls Tryd.prog 24 #[.string (ofNats l)] w (Pe l w) := by
  by_cases h0 : l = []
  · subst h0; exact refparse_nil w
  · exact refparse_ne h8 h0 hl w
end Go.Proofs.YtfafkohghgliaabDoor.Tu
