import Derived.Test.YtneojeidpfjpbaaGreatDoorB35
set_option linter.unusedVariables false
namespace Go.Proofs.YtneojeidpfjpbaaGreatDoor.Ig
open Go.Proofs.YtneojeidpfjpbaaGreatDoor Ys
structure RgX (r : Rg) : Prop where
 c : okU 4294967295 r.c
 s : okU 4294967295 r.s
 h : okU 4294967295 r.h
theorem same_self2 (r : Rg) (h : r.k = 2) (hx : r.x = 0) (ho : r.oc = 0) (hm : r.im = ⟨#[]⟩) : sameR r r.named = true := by
 unfold Rg.named; rw [if_neg (by rw [h]; decide), if_pos h]; unfold sameR; simp [hx, ho, hm, sameT, sameB_self]
theorem held_err {r : Rg} (he : r.err = 0) (hk : r.k = 2) : (rgP (hvR r).h).err = 0 := by
 have hr := err_valid he; have h1 : (rgP (hvR r).h).rules = true := by
  unfold Rg.rules at hr ⊢; rw [if_neg (by rw [hk]; decide), if_pos hk] at hr; have h2 : (rgP (hvR r).h).k = 2 := rfl; rw [if_neg (by rw [h2]; decide), if_pos h2]; exact hr
 unfold Rg.err Rg.valid; rw [same_self2 _ rfl rfl rfl rfl, h1]; rfl
theorem same_self3 (r : Rg) (h : r.k = 3) (hx : r.x = 0) (hm : r.im = ⟨#[]⟩) (h1 : r.rs = []) (h2 : r.ws = []) : sameR r r.named = true := by
 unfold Rg.named; rw [if_neg (by rw [h]; decide), if_neg (by rw [h]; decide), if_pos h]; unfold sameR; simp [hx, hm, h1, h2, sameT, sameB_self, Rg.zero]
theorem entry_err {r : Rg} (he : r.err = 0) (hk : r.k = 3) : (rgE (enR r)).err = 0 := by
 have hr := err_valid he; have h1 : (rgE (enR r)).rules = true := by
  unfold Rg.rules at hr ⊢; rw [if_neg (by rw [hk]; decide), if_neg (by rw [hk]; decide), if_pos hk] at hr; have h2 : (rgE (enR r)).k = 3 := rfl; rw [if_neg (by rw [h2]; decide), if_neg (by rw [h2]; decide), if_pos h2]; exact hr
 unfold Rg.err Rg.valid; rw [same_self3 _ rfl rfl rfl rfl rfl, h1]; rfl
theorem span_ok {xs : List T2} (h : readsOk xs = true) : ∀ x ∈ xs, okSpan x := fun x hx => by
 unfold readsOk at h; rw [Bool.and_eq_true] at h; obtain ⟨i, hi⟩ := List.getElem?_of_mem hx; have hlt := (List.getElem?_eq_some_iff.1 hi).1; have h1 : allB (spanAt xs) xs.length = true := h.2; have h2 : spanAt xs i = true := by
  cases hs : spanAt xs i with
  | true => rfl
  | false => rw [allB_no hs _ hlt] at h1; cases h1
 have h3 : nth2 xs i = x := by simp [nth2, hi]
 unfold spanAt spanOk at h2; rw [h3, Bool.and_eq_true, Bool.and_eq_true] at h2; exact ⟨(of_decide_eq_true h2.1.1 : x.1.size ≤ 33), (of_decide_eq_true h2.1.2 : x.2.size ≤ 33)⟩
theorem write_ok {ws : List Wr} (h : writesOk ws = true) : ∀ x ∈ ws, okWrite x := fun x hx => by
 have h1 := Vs.writes_ok h x hx; unfold wOk at h1; rw [Bool.and_eq_true, Bool.and_eq_true, Bool.and_eq_true] at h1; exact ⟨(of_decide_eq_true h1.1.1.2 : x.key.size ≤ 32), (of_decide_eq_true h1.1.2 : x.val.size ≤ 64)⟩
theorem held_ok {r : Rg} (he : r.err = 0) (hk : r.k = 2) (hr : RgR r) (hx : RgX r) : okHeld (hvR r).h := by
 have hru := err_valid he; obtain ⟨h1, h2, _⟩ := rules_2 hru hk; have h3 : readsOk r.rs = true := by
  unfold Rg.rules at hru; rw [if_neg (by rw [hk]; decide), if_pos hk, Bool.and_eq_true, Bool.and_eq_true] at hru; exact hru.1.2
 have h4 := Vs.writes_len h2; exact ⟨⟨hx.c, hx.s, hx.h⟩, oks_iff.1 hr.t, ⟨span_ok h3, by show r.rs.length < _; omega⟩, ⟨write_ok h2, by show r.ws.length < _; omega⟩⟩
theorem entry_ok {r : Rg} (he : r.err = 0) (hk : r.k = 3) (hr : RgR r) (hx : RgX r) : okEntry (enR r) := by
 have hru := err_valid he; refine ⟨⟨hx.c, hx.s, hx.h⟩, ?_, oks_iff.1 hr.t⟩; rcases rules_3 hru hk with h | h
 ·exact ⟨by show 0 ≤ r.oc; omega, by show r.oc < 256; omega⟩
 ·exact ⟨by show 0 ≤ r.oc; omega, by show r.oc < 256; omega⟩
section
variable {s : Ps} {C : List Cm} {R : List Rg}
theorem Tw.set (T : Tw s) {r : Rg} (he : r.err = 0) (hk : r.k = 3) (hr : RgR r) (hx : RgX r) (ho : (Lg.outM s.E (idR r)).isSome = false) (hw : r.oc = 1 → r.w < s.ceil) : Tw (setS s r) := by
 have hn : Lg.outM s.E (enR r).id = none := by
  cases h : Lg.outM s.E (enR r).id with
  | none => rfl
  | some x => rw [show Lg.outM s.E (idR r) = some x from h] at ho; cases ho
 have hee := entry_err he hk; have hdm : Lg.decM s.E (enR r) = s.E ++ [enR r] := by unfold Lg.decM; rw [may_of hee, hn]; rfl
 have hid : (enR r).id ∉ s.E.map Lg.En.id := Lg.outM_none.1 hn; have hS : setS s r = { s with E := s.E ++ [enR r], cm := cmOf (s.E ++ [enR r]), lc := lcOf (s.E ++ [enR r]), H := Lk.dropM s.H (r.c, r.s) } := by
  unfold setS layS; rw [hdm, cmOf_snoc, lcOf_snoc, ← T.lc.1, ← T.lc.2]; by_cases h9 : (enR r).oc = 1
  ·rw [if_pos h9, if_pos h9]; simp [show r.oc = 1 from h9]
  ·rw [if_neg h9, if_neg h9]; have : ((enR r).oc == 1) = false := by simpa using h9
   rw [this]; simp
 rw [hS]; refine ⟨T.ceil, T.node, T.wm, T.vr, fun e h => ?_, fun h hh => ?_, ?_, rfl, rfl⟩
 ·rcases List.mem_append.1 h with h | h
  ·exact T.en e h
  ·rw [List.mem_singleton] at h; subst h; exact ⟨entry_ok he hk hr hx, hee, hw⟩
 ·obtain ⟨h1, h2⟩ := List.mem_filter.1 hh; obtain ⟨q1, q2, q3, q4⟩ := T.hd h h1; refine ⟨q1, q2, q3, ?_⟩; rw [List.map_append, List.mem_append]; rintro (h9 | h9)
  ·exact q4 h9
  ·simp only [List.map_cons, List.map_nil, List.mem_singleton] at h9; rw [h9] at h2; simp at h2
 ·rw [List.map_append, List.nodup_append]; refine ⟨T.nd, by simp, fun a ha b hb => ?_⟩; simp only [List.map_cons, List.map_nil, List.mem_singleton] at hb; subst hb; exact fun e => hid (by rw [e] at ha; exact ha)
theorem Tw.step (T : Tw s) (H : Hist s C R) (hg : Vs.Good s.M) {r : Rg} (hr : RgR r) (hx : RgX r) (hk : r.k ≠ 5) : Tw (apS s r) := by
 by_cases h0 : apE s r = 0
 ·have he : r.err = 0 := by
   by_cases h9 : r.err = 0
   ·exact h9
   ·rw [(ap_bad h9).1] at h0; cases h0
  have hru := err_valid he; rcases rules_k hru hk with h1 | h1 | h1 | h1
  ·rw [(ap_1 he h1).2]; rw [(ap_1 he h1).1] at h0; unfold resE at h0; unfold resS; split
   ·exact T
   ·rename_i hc; refine ⟨⟨by have := T.ceil.1; show 0 < r.x; omega, hr.x.2⟩, T.node, T.wm, fun e h => ?_, fun e h => ?_, fun h hh => ?_, T.nd, T.lc⟩
    ·obtain ⟨q1, q2⟩ := T.vr e h; exact ⟨by show _ < r.x; omega, q2⟩
    ·obtain ⟨q1, q2, q3⟩ := T.en e h; exact ⟨q1, q2, fun h9 => by have := q3 h9; show _ < r.x; omega⟩
    ·obtain ⟨q1, q2, q3, q4⟩ := T.hd h hh; exact ⟨q1, q2, by show _ < r.x; omega, q4⟩
  ·rw [(ap_2 he h1).2]; rw [(ap_2 he h1).1] at h0; obtain ⟨_, _, g3, g4, _, _, g7⟩ := prp_yes h0; rw [g7]; refine ⟨T.ceil, T.node, T.wm, T.vr, T.en, fun h hh => ?_, T.nd, T.lc⟩; rcases List.mem_append.1 hh with hh | hh
   ·exact T.hd h hh
   ·rw [List.mem_singleton] at hh; subst hh; refine ⟨held_ok he h1 hr hx, held_err he h1, g4, Lg.outM_none.1 ?_⟩; cases h9 : Lg.outM s.E (hvR r).h.id with
    | none => rfl
    | some x => rw [show Lg.outM s.E (idR r) = some x from h9] at g3; cases g3
  ·rw [(ap_3 he h1).2]; rw [(ap_3 he h1).1] at h0; unfold dcdE at h0; unfold dcdS; split
   ·exact T
   ·rename_i ho; have ho' : (Lg.outM s.E (idR r)).isSome = false := by simpa using ho
    rw [if_neg ho] at h0; split
    ·rename_i hoc; rw [if_pos hoc] at h0; obtain ⟨h, _, hh, hid, _, ht, hc, es⟩ := cmt_yes h0; rw [es, H.free hg hh ht hc]; have hu : r.w < 18446744073709551615 := by have := H.clt; omega
     have T2 : Tw { s with M := Vs.instM s.M h.ws (at' r) } := by
      refine ⟨T.ceil, T.node, T.wm, fun e h9 => ?_, T.en, T.hd, T.nd, T.lc⟩; rcases inst_dump hg.rising (at' r) h.ws e h9 with ⟨x, hx9, ex⟩ | h9
      ·subst ex; refine ⟨hc, oks_iff.1 hr.t, ?_⟩; unfold Vs.okV; have := Vs.writes_ok (H.hok h hh) x hx9; rw [Bool.and_eq_true]; exact ⟨decide_eq_true hu, this⟩
      ·exact T.vr e h9
     exact T2.set he h1 hr hx ho' (fun _ => hc)
    ·rename_i hoc; exact T.set he h1 hr hx ho' (fun h9 => absurd h9 hoc)
  ·rw [(ap_4 he h1).2]; unfold mrkS; split
   ·rename_i hl; have hl' : s.wm.lt (at' r) = true := hl; have e1 : Vs.prM s.M s.wm (at' r) = Vs.pruneM s.M (at' r) := by unfold Vs.prM; rw [hl']; rfl
    have e2 : Vs.prK s.wm (at' r) = at' r := by unfold Vs.prK; rw [hl']; rfl
    rw [e1, e2]; have h4 := rules_4 hru h1; have h5 := hr.t.a.2; have h6 : r.w < 18446744073709551615 := by
     have h7 : r.w ≤ 18446744073709551615 := h5; omega
    exact ⟨T.ceil, T.node, ⟨oks_iff.1 hr.t, h6⟩, fun e h9 => T.vr e (by obtain ⟨k, v⟩ := e; exact prune_dump h9), T.en, T.hd, T.nd, T.lc⟩
   ·exact T
 ·rw [ap_no h0]; exact T
end
structure Run (n : Int) (i : Nat) (s : Ps) : Prop where
 tw : Tw s
 nd : s.node = n
 hist : ∃ C R, Hist s C R ∧ C.length ≤ i + 1 ∧ R.length ≤ i
 el : s.E.length ≤ i + 1
theorem lay_E (s : Ps) (e : Lg.En) : (layS s e).E.length ≤ s.E.length + 1 := by
 have h : (Lg.decM s.E e).length ≤ s.E.length + 1 := by
  unfold Lg.decM; split
  ·split
   ·simp
   ·omega
  ·omega
 unfold layS; split <;> exact h
theorem ap_E (s : Ps) (r : Rg) : (apS s r).E.length ≤ s.E.length + 1 := by
 have hset : ∀ s' : Ps, (setS s' r).E.length ≤ s'.E.length + 1 := fun s' => lay_E s' (enR r)
 unfold apS; split
 ·split
  ·unfold resS; split <;> simp
  ·split
   ·unfold prpS; split
    ·unfold hldS; split <;> simp
    ·omega
   ·split
    ·unfold dcdS; split
     ·omega
     ·split
      ·unfold cmtS; split
       ·omega
       ·split
        ·exact hset _
        ·omega
      ·exact hset s
    ·unfold mrkS; split <;> simp
 ·omega
theorem ap_node (s : Ps) (r : Rg) : (apS s r).node = s.node := by
 have hset : ∀ s' : Ps, (setS s' r).node = s'.node := fun s' => by
  show (layS s' (enR r)).node = _
  unfold layS; split <;> rfl
 unfold apS; split
 ·split
  ·unfold resS; split <;> rfl
  ·split
   ·unfold prpS; split
    ·unfold hldS; split <;> rfl
    ·rfl
   ·split
    ·unfold dcdS; split
     ·rfl
     ·split
      ·unfold cmtS; split
       ·rfl
       ·split
        ·exact hset _
        ·rfl
      ·exact hset s
    ·unfold mrkS; split <;> rfl
 ·rfl
theorem Run.more {n : Int} {i j : Nat} {s : Ps} (h : Run n i s) (hij : i ≤ j) : Run n j s := by
 obtain ⟨C, R, h1, h2, h3⟩ := h.hist; exact ⟨h.tw, h.nd, ⟨C, R, h1, by omega, by omega⟩, by have := h.el; omega⟩
theorem Run.step {n : Int} {i : Nat} {s : Ps} (h : Run n i s) (hg : Vs.Good s.M) {I : Lk.It} (hk : Lk.Ok s.H I) {r : Rg} (hr : RgR r) (hx : RgX r) : Run n (i + 1) (axS s r) := by
 unfold axS; by_cases h5 : r.k = 5
 ·rw [if_pos h5]; exact h.more (by omega)
 ·rw [if_neg h5]; obtain ⟨C, R, H, hC, hR⟩ := h.hist; by_cases h0 : apE s r = 0
  ·have hE := ap_E s r; have hel := h.el; refine ⟨h.tw.step H hg hr hx h5, by rw [ap_node]; exact h.nd, ?_, by omega⟩; obtain ⟨h1, h2⟩ := H.step hg hk hr h5 h0; by_cases hc : r.k = 3 ∧ r.oc = 1
   ·obtain ⟨g, _, _, H'⟩ := h1 hc; exact ⟨_, R, H', by rw [laid_len H.ord]; omega, by omega⟩
   ·refine ⟨C, nxR R r, h2 hc, by omega, ?_⟩; unfold nxR; split
    ·rw [List.length_append]; simp only [List.length_singleton]; omega
    ·omega
  ·rw [ap_no h0]; exact h.more (by omega)
theorem Run.jb {n : Int} {i : Nat} {s : Ps} (h : Run n i s) {t : Vs.Sp} (ha : acB s t = true) : jbB t = true := by
 obtain ⟨C, R, H, _⟩ := h.hist; exact H.jb ha
theorem Run.cnt {n : Int} {i : Nat} {s : Ps} (h : Run n i s) : Vs.countM s.M ≤ 16 * (i + 1) := by
 obtain ⟨C, R, H, h1, _⟩ := h.hist; have := H.cnt; omega
theorem Run.hl {n : Int} {i : Nat} {s : Ps} (h : Run n i s) : s.H.length ≤ i := by
 obtain ⟨C, R, H, _, h1⟩ := h.hist; have := H.hln; omega
theorem Run.ceil {n : Int} {i : Nat} {s : Ps} (h : Run n i s) : (s.ceil == 0) = false := by
 have := h.tw.ceil.1; simp only [beq_eq_false_iff_ne, ne_eq]; omega
theorem ver_ok {e : Vs.Kv} (h : Vs.okV e = true) : e.1.size ≤ 32 ∧ e.2.val.size ≤ 64 := by
 unfold Vs.okV wOk at h; rw [Bool.and_eq_true, Bool.and_eq_true, Bool.and_eq_true, Bool.and_eq_true] at h; exact ⟨of_decide_eq_true h.2.1.1.2, of_decide_eq_true h.2.1.2⟩
theorem Run.imOk {n : Int} {i : Nat} {s : Ps} (h : Run n i s) (hi : i ≤ 93000) : ImOk s := by
 have h1 := h.cnt; have h2 := h.hl; have h3 := h.el; exact ⟨h.tw.node, ⟨by have := h.tw.ceil.1; omega, h.tw.ceil.2⟩, h.tw.wm.1, fun x hx => (h.tw.hd x hx).1, fun x hx => (h.tw.en x hx).1, fun x hx => by
  obtain ⟨_, q2, q3⟩ := h.tw.vr x hx; exact ⟨(ver_ok q3).1, q2, (ver_ok q3).2⟩, by omega, by omega, by omega⟩
theorem vb10 {v : Nat} (h : v < 18446744073709551616) : (vb v).length ≤ 10 := by
 have := vb_len v 0 (by decide) (by unfold lim; omega); omega
theorem eU_le {m : Nat} (hm : m ≤ 18446744073709551615) {v : Int} (h : okU m v) : (eU v).length ≤ 10 := vb10 (by have := h.1; have := h.2; omega)
theorem eX_le {s : ByteArray} {m : Nat} (hm : m ≤ 1000) (h : okX m s) : (eX s).length ≤ m + 10 := by
 have h1 : s.size ≤ m := h; have h2 : (nums s).length = s.size := nums_length s; have h3 := vb10 (v := (nums s).length) (by omega); unfold eX eText; rw [List.length_append]; omega
theorem flat_le {α : Type} {e : α → List Nat} {K : Nat} : ∀ {l : List α}, (∀ x ∈ l, (e x).length ≤ K) → (l.flatMap e).length ≤ K * l.length
 | [], _ => by simp
 | x :: l, h => by
  have h1 := flat_le (l := l) (e := e) (K := K) fun y hy => h y (by simp [hy])
  have h2 := h x (by simp); rw [List.flatMap_cons, List.length_append, List.length_cons, Nat.mul_add, Nat.mul_one]; omega
theorem eL_le {α : Type} {e : α → List Nat} {K : Nat} {l : List α} (h : ∀ x ∈ l, (e x).length ≤ K) (hl : l.length < 18446744073709551616) : (eL e l).length ≤ 10 + K * l.length := by
 have h1 := flat_le h; have h2 := vb10 hl; unfold eL; rw [List.length_append]; omega
theorem eTxn_le {i : Lk.Ix × Int} (h : okTxn i) : (eTxn i).length ≤ 30 := by
 have h1 := eU_le (by decide) h.1; have h2 := eU_le (by decide) h.2.1; have h3 := eU_le (by decide) h.2.2; show (eU i.1.1 ++ (eU i.1.2 ++ eU i.2)).length ≤ 30
 simp only [List.length_append]; omega
theorem eHeld_le {h : Lk.Hd} (ho : okHeld h) (h1 : h.rs.length ≤ 16) (h2 : h.ws.length ≤ 16) : (eHeld h).length ≤ 4000 := by
 have q1 := eTxn_le ho.1; have q2 := eS_len (atHd h); have q3 := eL_le (e := eSpan) (K := 86) (l := h.rs) (fun x hx => by
  have := ho.2.2.1.1 x hx; have a1 := eX_le (by decide) this.1; have a2 := eX_le (by decide) this.2; show (eX x.1 ++ eX x.2).length ≤ 86
  rw [List.length_append]; omega) (by omega)
 have q4 := eL_le (e := eWrite) (K := 120) (l := h.ws) (fun x hx => by
  have := ho.2.2.2.1 x hx; have a1 := eX_le (by decide) this.1; have a2 := eX_le (by decide) this.2; have a3 : (eFlag x.del).length = 1 := rfl; show (eX x.key ++ (eFlag x.del ++ eX x.val)).length ≤ 120
  simp only [List.length_append]; omega) (by omega)
 show (eTxn (h.id, h.home) ++ (eS (atHd h) ++ (eL eSpan h.rs ++ eL eWrite h.ws))).length ≤ 4000
 simp only [List.length_append]; omega
theorem eEntry_le {e : Lg.En} (ho : okEntry e) : (eEntry e).length ≤ 100 := by
 have q1 := eTxn_le ho.1; have q2 := eS_len (atEn e); have q3 : (eB e.oc).length = 1 := rfl; show (eTxn (e.id, e.home) ++ (eB e.oc ++ eS (atEn e))).length ≤ 100
 simp only [List.length_append]; omega
theorem eVersion_le {e : Vs.Kv} (ho : okVersion e) : (eVersion e).length ≤ 200 := by
 have q1 := eX_le (by decide) ho.1; have q2 := eS_len e.2.s; have q3 : (eFlag e.2.del).length = 1 := rfl; have q4 := eX_le (by decide) ho.2.2; show (eX e.1 ++ (eS e.2.s ++ (eFlag e.2.del ++ eX e.2.val))).length ≤ 200
 simp only [List.length_append]; omega
theorem held_short {h : Lk.Hd} (he : (rgP h).err = 0) : h.rs.length ≤ 16 ∧ h.ws.length ≤ 16 := by
 obtain ⟨h1, h2, _⟩ := rules_2 (err_valid he) rfl; exact ⟨h1, Vs.writes_len h2⟩
theorem Run.len {n : Int} {i : Nat} {s : Ps} (h : Run n i s) (hi : i ≤ 93000) : (imgB s).length ≤ 1099511627776 := by
 have ho := h.imOk hi; have h1 := h.cnt; have h2 := h.hl; have h3 := h.el; have h4 := Vs.dump_len s.M; have q0 := eU_le (by decide) ho.node; have q1 := eU_le (by decide) ho.ceil; have q2 := eS_len s.wm; have l1 := srt_len (f := Lk.Hd.id) s.H; have l2 := srt_len (f := Lg.En.id) s.E; have q3 := eL_le (e := eHeld) (K := 4000) (l := srt Lk.Hd.id s.H) (fun x hx => by
  have hx' := h.tw.hd x (srt_mem.1 hx); obtain ⟨g1, g2⟩ := held_short hx'.2.1; exact eHeld_le hx'.1 g1 g2) (by omega)
 have q4 := eL_le (e := eEntry) (K := 100) (l := srt Lg.En.id s.E) (fun x hx => eEntry_le (ho.E x (srt_mem.1 hx))) (by omega); have q5 := eL_le (e := eVersion) (K := 200) (l := Vs.dumpM s.M) (fun x hx => eVersion_le (ho.D x hx)) (by omega); show (eU s.node ++ (eU s.ceil ++ (eS s.wm ++ (eL eHeld (srt Lk.Hd.id s.H) ++ (eL eEntry (srt Lg.En.id s.E) ++ eL eVersion (Vs.dumpM s.M)))))).length ≤ _
 simp only [List.length_append]; omega
theorem hd_dump (n : Int) : Vs.dumpM (hdS n 3).M = [(⟨#[107]⟩, ⟨⟨2, 0, 0⟩, false, ⟨#[118]⟩⟩)] := rfl
theorem okS_2 : okS ⟨2, 0, 0⟩ := ⟨⟨by decide, by decide⟩, ⟨by decide, by decide⟩, by decide, by decide⟩
theorem okS_0 : okS ⟨0, 0, 0⟩ := ⟨⟨by decide, by decide⟩, ⟨by decide, by decide⟩, by decide, by decide⟩
theorem hd_okV : Vs.okV (⟨#[107]⟩, ⟨⟨2, 0, 0⟩, false, ⟨#[118]⟩⟩) = true := by
 have h1 : ltS ⟨#[]⟩ ⟨#[107]⟩ = true := by unfold ltS; rw [toList_empty, list_k]; rfl
 have h2 : (⟨#[107]⟩ : ByteArray).size = 1 := rfl; have h3 : (⟨#[118]⟩ : ByteArray).size = 1 := rfl; have h4 : emS ⟨#[107]⟩ = false := by unfold emS; rw [list_k]; rfl
 unfold Vs.okV wOk; simp [h2, h3, h4]
theorem hd_rgE : (rgE ⟨(4294967295, 1), 0, 1, 2, 0, 0⟩).err = 0 := by
 simp [Rg.err, Rg.valid, Rg.named, Rg.rules, sameR, rgE, sameT, sameB, Rg.zero, topW]
theorem hd_lc : (⟨2, 0, 0⟩ : Vs.Sp) = lcOf [⟨(4294967295, 1), 0, 1, 2, 0, 0⟩] := by
 have h := lcOf_snoc [] ⟨(4294967295, 1), 0, 1, 2, 0, 0⟩; rw [if_pos rfl, mxS_is (lc_ok [] (fun _ h => by simp at h))] at h; exact h.symm
theorem tw_hd {n : Int} (hn : okU 4294967295 n) : Tw (hdS n 3) := by
 refine ⟨⟨?_, ?_⟩, hn, ⟨okS_0, ?_⟩, ?_, ?_, ?_, ?_, ?_⟩
 ·show (0 : Int) < 8; decide
 ·show (8 : Int) ≤ 18446744073709551615; decide
 ·show (0 : Int) < 18446744073709551615; decide
 ·rw [hd_dump]; intro e he; rw [List.mem_singleton] at he; subst he; refine ⟨?_, okS_2, hd_okV⟩; show (2 : Int) < 8; decide
 ·intro e he; have he' : e = ⟨(4294967295, 1), 0, 1, 2, 0, 0⟩ := List.mem_singleton.1 he; subst he'; refine ⟨⟨⟨⟨?_, ?_⟩, ⟨?_, ?_⟩, ?_, ?_⟩, ?_, okS_2⟩, hd_rgE, fun _ => ?_⟩
  ·show (0 : Int) ≤ 4294967295; decide
  ·show (4294967295 : Int) ≤ 4294967295; decide
  ·show (0 : Int) ≤ 1; decide
  ·show (1 : Int) ≤ 4294967295; decide
  ·show (0 : Int) ≤ 0; decide
  ·show (0 : Int) ≤ 4294967295; decide
  ·show okB 1; unfold okB; decide
  ·show (2 : Int) < 8; decide
 ·intro h hh; exact absurd hh (by simp [hdS])
 ·simp [hdS]
 ·exact ⟨rfl, hd_lc⟩
theorem run_hd {n : Int} (hn : okU 4294967295 n) : Run n 0 (hdS n 3) :=
 ⟨tw_hd hn, rfl, ⟨_, _, hist_hd n, by simp, by simp⟩, by simp [hdS]⟩
end Go.Proofs.YtneojeidpfjpbaaGreatDoor.Ig
