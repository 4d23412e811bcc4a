import Derived.Test.YtneojeidpfjpbaaGreatDoorB25
set_option linter.unusedVariables false
set_option maxHeartbeats 1000000
namespace Go.Proofs.YtneojeidpfjpbaaGreatDoor.Ys
open Go.RowKit Go.Sort
abbrev idR (r : Rg) : Lk.Ix := (r.c, r.s)
structure RgR (r : Rg) : Prop where
 x : 0 ≤ r.x ∧ r.x ≤ 18446744073709551615
 t : OkS (at' r)
def apE (s : Ps) (r : Rg) : Int := if r.err = 0 then (if r.k = 1 then resE s r else if r.k = 2 then prpE s r else if r.k = 3 then dcdE s r else mrkE s r) else 70
def apS (s : Ps) (r : Rg) : Ps := if r.err = 0 then (if r.k = 1 then resS s r else if r.k = 2 then prpS s r else if r.k = 3 then dcdS s r else mrkS s r) else s
theorem pw_mem {α : Type} {R : α → α → Prop} (hs : ∀ a b, R a b → R b a) : ∀ {l : List α}, l.Pairwise R → ∀ a ∈ l, ∀ b ∈ l, a ≠ b → R a b
 | [], _, a, ha, _, _, _ => by cases ha
 | x :: l, h, a, ha, b, hb, hne => by
  have h' := List.pairwise_cons.1 h; rcases List.mem_cons.1 ha with ea | ha'
  ·rcases List.mem_cons.1 hb with eb | hb'
   ·exact absurd (ea.trans eb.symm) hne
   ·rw [ea]; exact h'.1 b hb'
  ·rcases List.mem_cons.1 hb with eb | hb'
   ·rw [eb]; exact hs _ _ (h'.1 a ha')
   ·exact pw_mem hs h'.2 a ha' b hb' hne
theorem getLast_mid {α : Type} (A : List α) (b : α) (D : List α) : (A ++ b :: D).getLast? = (b :: D).getLast? := by
 rw [List.getLast?_append]; cases h : (b :: D).getLast? with
 | none => simp at h
 | some v => rfl
theorem mxS_is {x y : Vs.Sp} (hx : OkS x) : mxS x y = if x.lt y then y else x := by
 have hz : (if zst.less (toSt x) then toSt x else zst) = toSt x := by
  cases hl : zst.less (toSt x) with
  | true => rfl
  | false =>
   have hl' := lessB_iff_false.1 hl; obtain ⟨⟨h1, h2⟩, ⟨h3, h4⟩, h5, h6⟩ := hx; obtain ⟨x, y, z⟩ := x; simp only [zst] at hl' h1 h2 h3 h4 h5 h6; obtain rfl : x = 0 := by omega
   obtain rfl : y = 0 := by omega
   obtain rfl : z = 0 := by omega
   rfl
 show ofSt (if (if zst.less (toSt x) then toSt x else zst).less (toSt y) then toSt y else (if zst.less (toSt x) then toSt x else zst)) = _
 rw [hz]; show ofSt (if x.lt y then toSt y else toSt x) = _
 split <;> rfl
structure Hist (s : Ps) (C : List Cm) (R : List Rg) : Prop where
 cm : s.cm = true
 ord : Ord C
 last : ∃ c, C.getLast? = some c ∧ c.t = s.lc
 low : 2 ≤ s.lc.a
 wmu : s.wm.a < 18446744073709551615
 clt : s.ceil ≤ 18446744073709551615
 cok : ∀ c ∈ C, OkS c.t ∧ c.t.a < 18446744073709551615 ∧ writesOk c.ws = true
 ver : ∀ k v, (k, v) ∈ Vs.dumpM s.M → ∃ c ∈ C, c.t = v.s ∧ ∃ x ∈ c.ws, x.key = k
 held : ∀ h ∈ s.H, ∀ c ∈ C, ∀ x ∈ c.ws, ∀ y ∈ h.ws, x.key = y.key → c.t.lt (atH h) = true
 hok : ∀ h ∈ s.H, writesOk h.ws = true
 rdy : ∀ h ∈ s.H, ∃ (j : Nat) (q : Rg), R[j]? = some q ∧ idR q = h.id ∧ q.ws = h.ws ∧ ∀ (i : Nat) (q' : Rg), j < i → R[i]? = some q' → idR q' ≠ h.id
 read : ∀ t, t.lt s.wm = false → Vs.readAll s.M t = ser C t
 cnt : Vs.countM s.M ≤ 16 * C.length
 hln : s.H.length ≤ R.length
section
variable {s : Ps} {C : List Cm} {R : List Rg}
theorem ord_last : ∀ {C : List Cm}, Ord C → ∀ {c : Cm}, C.getLast? = some c → ∀ b ∈ C, c.t.lt b.t = false
 | [], _, c, h, _, _ => by cases h
 | x :: C, ho, c, h, b, hb => by
  have h' := List.pairwise_cons.1 ho; cases hC : C with
  | nil =>
   rw [hC] at h hb; simp at h hb; subst h; subst hb
   exact Vs.Sp.irr _
  | cons y D =>
   have hl : C.getLast? = some c := by rw [hC] at h ⊢; rw [List.getLast?_cons_cons] at h; exact h
   rcases List.mem_cons.1 hb with rfl | hb
   ·exact h'.1 c (List.mem_of_getLast? hl)
   ·exact ord_last h'.2 hl b hb
theorem Hist.le (H : Hist s C R) {c : Cm} (hc : c ∈ C) : s.lc.lt c.t = false := by
 obtain ⟨d, hd, e⟩ := H.last; rw [← e]; exact ord_last H.ord hd c hc
theorem Hist.lcok (H : Hist s C R) : OkS s.lc ∧ s.lc.a < 18446744073709551615 := by
 obtain ⟨d, hd, e⟩ := H.last; have := H.cok d (List.mem_of_getLast? hd); rw [e] at this; exact ⟨this.1, this.2.1⟩
theorem Hist.reserve (H : Hist s C R) {r : Rg} (hr : RgR r) : Hist (resS s r) C R := by
 unfold resS; split
 ·exact H
 ·exact ⟨H.cm, H.ord, H.last, H.low, H.wmu, hr.x.2, H.cok, H.ver, H.held, H.hok, H.rdy, H.read, H.cnt, H.hln⟩
theorem Hist.mark (H : Hist s C R) (hg : Vs.Good s.M) {r : Rg} (hu : r.w < 18446744073709551615) : Hist (mrkS s r) C R := by
 unfold mrkS; split
 ·rename_i hl; have hl' : s.wm.lt (at' r) = true := hl; have e1 : Vs.prM s.M s.wm (at' r) = Vs.pruneM s.M (at' r) := by unfold Vs.prM; rw [hl']; rfl
  have e2 : Vs.prK s.wm (at' r) = at' r := by unfold Vs.prK; rw [hl']; rfl
  rw [e1, e2]; refine ⟨H.cm, H.ord, H.last, H.low, hu, H.clt, H.cok, fun k v hv => H.ver k v (prune_dump hv), H.held, H.hok, H.rdy, fun t ht => ?_, ?_, H.hln⟩
  ·show Vs.readAll (Vs.pruneM s.M (at' r)) t = _
   rw [Vs.pruneM_read hg ht]; exact H.read t (Vs.Sp.le_trans (Vs.Sp.lt_asymm hl') ht)
  ·have := Vs.countM_prune s.M (at' r); have := H.cnt; show Vs.countM (Vs.pruneM s.M (at' r)) ≤ _
   omega
 ·exact H
theorem prp_yes {r : Rg} (he : prpE s r = 0) : acB s (at' r) = true ∧ ovA s r = false ∧ (Lg.outM s.E (idR r)).isSome = false ∧ r.w < s.ceil ∧ idR r ∉ s.H.map Lk.Hd.id ∧ Lk.confl s.H (idR r) r.rs r.ws = false ∧ prpS s r = { s with H := s.H ++ [(hvR r).h] } := by
 unfold prpE at he; split at he
 ·rename_i h; rw [Bool.and_eq_true, Bool.and_eq_true] at h; obtain ⟨⟨h1, h2⟩, h3⟩ := h; have h2' : ovA s r = false := by simpa using h2
  unfold hldB at h3; rw [Bool.and_eq_true] at h3; have hG : hldG s (hvR r).h = false := by simpa using h3.1
  have hC : Lk.holdC s.H (hvR r).h = 0 := by simpa using h3.2
  have hg' := hG; unfold hldG at hg'; rw [Bool.or_eq_false_iff] at hg'; unfold Lk.holdC at hC; split at hC
  ·cases hC
  ·rename_i hi; split at hC
   ·cases hC
   ·rename_i hc; refine ⟨h1, h2', hg'.1, by simpa using hg'.2, hi, by simpa using hc, ?_⟩; unfold prpS; rw [h1, h2', if_pos (by rfl)]; unfold hldS; rw [hG, if_neg (by decide)]; unfold Lk.holdM; rw [if_neg hi, if_neg hc]
 ·cases he
theorem Hist.prepare (H : Hist s C R) {r : Rg} (he : prpE s r = 0) (hw : writesOk r.ws = true) : Hist (prpS s r) C (R ++ [r]) := by
 obtain ⟨h1, _, _, _, h5, _, h7⟩ := prp_yes he; rw [h7]; have hlt : s.lc.lt (at' r) = true := by
  unfold acB at h1; rw [H.cm] at h1; have h1' : lsS s.lc (at' r) = true := by simpa using h1
  exact h1'
 refine ⟨H.cm, H.ord, H.last, H.low, H.wmu, H.clt, H.cok, H.ver, fun h hh c hc x hx y hy e => ?_, fun h hh => ?_, fun h hh => ?_, H.read, H.cnt, ?_⟩
 ·rcases List.mem_append.1 hh with hh | hh
  ·exact H.held h hh c hc x hx y hy e
  ·rw [List.mem_singleton] at hh; subst hh; exact Vs.Sp.le_lt (H.le hc) hlt
 ·rcases List.mem_append.1 hh with hh | hh
  ·exact H.hok h hh
  ·rw [List.mem_singleton] at hh; subst hh; exact hw
 ·rcases List.mem_append.1 hh with hq | hq
  ·obtain ⟨j, q, hj, e1, e2, e3⟩ := H.rdy h hq; have hjl : j < R.length := (List.getElem?_eq_some_iff.1 hj).1; refine ⟨j, q, by rw [List.getElem?_append_left hjl]; exact hj, e1, e2, fun i q' hi hq' => ?_⟩; by_cases hil : i < R.length
   ·rw [List.getElem?_append_left hil] at hq'; exact e3 i q' hi hq'
   ·rw [List.getElem?_append_right (by omega)] at hq'; have eq : q' = r := by
     cases hz : i - R.length with
     | zero => rw [hz] at hq'; simp at hq'; exact hq'.symm
     | succ n => rw [hz] at hq'; simp at hq'
    rw [eq]; exact fun e => h5 (List.mem_map.2 ⟨h, hq, e.symm⟩)
  ·rw [List.mem_singleton] at hq; subst hq; refine ⟨R.length, r, by simp, rfl, rfl, fun i q' hi hq => ?_⟩; rw [List.getElem?_eq_none (by rw [List.length_append, List.length_singleton]; omega)] at hq; cases hq
 ·have := H.hln; rw [List.length_append, List.length_append]; simp only [List.length_singleton]; omega
theorem drop_len (M : List Lk.Hd) (i : Lk.Ix) : (Lk.dropM M i).length ≤ M.length := List.length_filter_le _ _
theorem Hist.abort (H : Hist s C R) {r : Rg} (ho : r.oc ≠ 1) : Hist (setS s r) C R := by
 have e : setS s r = { s with E := Lg.decM s.E (enR r), H := Lk.dropM s.H (idR r) } := by
  unfold setS layS; rw [if_neg (show ¬ (enR r).oc = 1 from ho)]
 rw [e]; have hm : ∀ h, h ∈ Lk.dropM s.H (idR r) → h ∈ s.H := fun h hh => (List.mem_filter.1 hh).1
 exact ⟨H.cm, H.ord, H.last, H.low, H.wmu, H.clt, H.cok, H.ver, fun h hh => H.held h (hm h hh), fun h hh => H.hok h (hm h hh), fun h hh => H.rdy h (hm h hh), H.read, H.cnt, Nat.le_trans (drop_len _ _) H.hln⟩
theorem cmt_yes {r : Rg} (he : cmtE s r = 0) : ∃ h, getH s.H (idR r) = some h ∧ h ∈ s.H ∧ h.id = idR r ∧ h.home = r.h ∧ (at' r).lt (atH h) = false ∧ r.w < s.ceil ∧ cmtS s r = setS { s with M := Vs.instR s.M h.ws (at' r) } r := by
 unfold cmtE at he; cases hg : getH s.H (idR r) with
 | none => rw [show getH s.H (r.c, r.s) = none from hg] at he; cases he
 | some h =>
  rw [show getH s.H (r.c, r.s) = some h from hg] at he; simp only at he; have h1 := List.find?_some hg; have h2 := List.mem_of_find?_eq_some hg; split at he
  ·rename_i hb; have hb' := hb; unfold cmtB at hb'; rw [Bool.and_eq_true, Bool.and_eq_true] at hb'; refine ⟨h, rfl, h2, by simpa using h1, by simpa using hb'.1.1, (show lsS (at' r) (atH h) = false by simpa using hb'.1.2), by simpa using hb'.2, ?_⟩; unfold cmtS; rw [show getH s.H (r.c, r.s) = some h from hg]; simp only; rw [if_pos hb]
  ·cases he
theorem Hist.free (H : Hist s C R) (hg : Vs.Good s.M) {r : Rg} {h : Lk.Hd} (hh : h ∈ s.H) (ht : (at' r).lt (atH h) = false) (hc : r.w < s.ceil) : Vs.instR s.M h.ws (at' r) = Vs.instM s.M h.ws (at' r) := by
 refine (Vs.inst_ok (H.hok h hh) (by have := H.clt; simp only [decide_eq_true_eq]; omega) (List.all_eq_true.2 fun x hx => Vs.free_over.2 fun cs hcs u hu => ?_)).2; obtain ⟨c, hC, e, y, hy, ek⟩ := H.ver x.key u (Vs.dump_mem.2 ⟨cs, (Vs.getX_some hg.rising).1 hcs, hu⟩); rw [← e]; exact Vs.Sp.lt_le (H.held h hh c hC y hy x hx ek) ht
theorem Hist.commit (H : Hist s C R) (hg : Vs.Good s.M) {I : Lk.It} (hk : Lk.Ok s.H I) {r : Rg} (hr : RgR r) (ho : r.oc = 1) (he : cmtE s r = 0) : ∃ h, h ∈ s.H ∧ h.id = idR r ∧ Hist (cmtS s r) (laidC C ⟨at' r, h.ws⟩) R := by
 obtain ⟨h, _, hh, hid, _, ht, hc, es⟩ := cmt_yes he; have hu : r.w < 18446744073709551615 := by have := H.clt; omega
 have hin := H.free hg hh ht hc; refine ⟨h, hh, hid, ?_⟩; rw [es, hin]; have e : setS { s with M := Vs.instM s.M h.ws (at' r) } r = { s with M := Vs.instM s.M h.ws (at' r), E := Lg.decM s.E (enR r), cm := true, lc := mxS s.lc (at' r), H := Lk.dropM s.H (idR r) } := by
  unfold setS layS; rw [if_pos (show (enR r).oc = 1 from ho)]
 rw [e]; have hm : ∀ g, g ∈ Lk.dropM s.H (idR r) → g ∈ s.H ∧ g ≠ h := fun g hg' => by
  obtain ⟨h1, h2⟩ := List.mem_filter.1 hg'; refine ⟨h1, fun e' => ?_⟩; subst e'; simp [hid] at h2
 have hmx := mxS_is (y := at' r) H.lcok.1; refine ⟨rfl, laid_ord H.ord _, ?_, ?_, H.wmu, H.clt, fun c hc' => ?_, fun k v hv => ?_, fun g hg' c hc' x hx y hy ek => ?_, fun g hg' => H.hok g (hm g hg').1, fun g hg' => H.rdy g (hm g hg').1, fun t htw => ?_, ?_, Nat.le_trans (drop_len _ _) H.hln⟩
 ·obtain ⟨d, hd, ed⟩ := H.last; rw [hmx]; cases hC2 : C.filter (fun b => (at' r).lt b.t) with
  | nil =>
   have hno : (at' r).lt s.lc = false := by
    rw [← ed]; have := List.filter_eq_nil_iff.1 hC2 d (List.mem_of_getLast? hd); simpa using this
   refine ⟨⟨at' r, h.ws⟩, by unfold laidC; rw [hC2]; simp, ?_⟩; show at' r = _
   split
   ·rfl
   ·rename_i hn; exact sp_eq hno (by simpa using hn)
  | cons b D =>
   have hsp := ord_split (a := at' r) H.ord; rw [hC2] at hsp; have hbd : (b :: D).getLast? = some d := by rw [← getLast_mid (C.filter (fun b => !(at' r).lt b.t)) b D, hsp]; exact hd
   have hl : (laidC C ⟨at' r, h.ws⟩).getLast? = some d := by
    unfold laidC; show (C.filter (fun b => !(at' r).lt b.t) ++ _ :: C.filter (fun b => (at' r).lt b.t)).getLast? = _
    rw [hC2, getLast_mid, List.getLast?_cons_cons]; exact hbd
   refine ⟨d, hl, ?_⟩; have hdm : d ∈ C.filter (fun b => (at' r).lt b.t) := by rw [hC2]; exact List.mem_of_getLast? hbd
   have hgt : (at' r).lt s.lc = true := by rw [← ed]; exact (List.mem_filter.1 hdm).2
   rw [Vs.Sp.lt_asymm hgt, ed]; rfl
 ·rw [hmx]; show 2 ≤ (if s.lc.lt (at' r) = true then at' r else s.lc).a
  have := H.low; split
  ·rename_i hl; have := lessB_iff.1 (show lessB s.lc.a s.lc.b s.lc.c r.w r.l r.n = true from hl); show 2 ≤ r.w
   omega
  ·exact this
 ·rcases laid_mem.1 hc' with rfl | hc'
  ·exact ⟨hr.t, hu, H.hok h hh⟩
  ·exact H.cok c hc'
 ·rcases inst_dump hg.rising (at' r) h.ws _ hv with ⟨x, hx, ex⟩ | hv
  ·injection ex with e1 e2
   subst e1 e2; exact ⟨⟨at' r, h.ws⟩, laid_mem.2 (.inl rfl), rfl, x, hx, rfl⟩
  ·obtain ⟨c, hC, e1, e2⟩ := H.ver k v hv; exact ⟨c, laid_mem.2 (.inr hC), e1, e2⟩
 ·obtain ⟨hg1, hg2⟩ := hm g hg'; rcases laid_mem.1 hc' with rfl | hc'
  ·exfalso
   have := pw_mem (R := fun a b => Lk.meetB a.rs a.ws b = false) (fun a b h => by rw [Lk.meet_symm]; exact h) hk.apart g hg1 h hh hg2; have h2 : Lk.meetB g.rs g.ws h = true := Lk.meet_iff.2 (.inl ⟨y, hy, x, hx, ek.symm⟩); rw [this] at h2; cases h2
  ·exact H.held g hg1 c hc' x hx y hy ek
 ·have hrd := H.read t htw; show Vs.readAll (Vs.instM s.M h.ws (at' r)) t = _
  cases hl : t.lt (at' r) with
  | true => rw [read_above hg.rising hl, ser_low hl]; exact hrd
  | false =>
   rw [read_from hg.rising hl, hrd]; refine (ser_high (c := ⟨at' r, h.ws⟩) H.ord hl fun d hd hgt x hx y hy ek => ?_).symm; have h1 := Vs.Sp.lt_le (H.held h hh d hd x hx y hy ek) ht; rw [Vs.Sp.lt_asymm hgt] at h1; cases h1
 ·have h1 := (Vs.instM_count hg.rising h.ws (at' r)).1; have h2 := Vs.writes_len (H.hok h hh); have h3 := laid_len H.ord ⟨at' r, h.ws⟩; have := H.cnt; show Vs.countM (Vs.instM s.M h.ws (at' r)) ≤ _
  omega
end
section
variable {F : Nat → Prop} {w w' : World} {p : Nat} {m1 m2 m : Option Nat} {V : List Lk.Hv} {I : Lk.It} {s : Ps}
theorem St.own (T : St F w p m1 m2 m V I s) {b : Nat} (h : F b ∨ Bm p m1 m2 m b) : (∃ cs t z, w.heap[b]? = some (.cells cs t z) ∧ (t = SS ∨ t = 97)) ∨ ∀ cs t z, w.heap[b]? ≠ some (.cells cs t z) := by
 rcases h with h | rfl | h | h | h
 ·obtain ⟨x, hx, _⟩ := T.st; obtain ⟨cs, u, z, hc, hu⟩ := hx.own b h; exact .inl ⟨cs, u, z, hc, hu⟩
 ·obtain ⟨r, hr⟩ := T.obj; exact .inl ⟨_, _, _, hr, .inl rfl⟩
 ·subst h; obtain ⟨es, clock, hb, _⟩ := T.tb.held.at; exact .inr fun cs t z h => by rw [hb] at h; cases h
 ·subst h; obtain ⟨es, clock, hb, _⟩ := T.tb.ints.at; exact .inr fun cs t z h => by rw [hb] at h; cases h
 ·subst h; obtain ⟨es, clock, hb, _⟩ := T.lg.ents.at; exact .inr fun cs t z h => by rw [hb] at h; cases h
theorem St.good (T : St F w p m1 m2 m V I s) : Vs.Good s.M := by
 obtain ⟨x, hx, ex⟩ := T.st; rw [← ex]; exact hx.good
theorem St.okI (T : St F w p m1 m2 m V I s) : Lk.Ok s.H I := by have := T.tb.ok; rw [T.h] at this; exact this
theorem err_valid {r : Rg} (h : r.err = 0) : r.rules = true := by
 unfold Rg.err at h; split at h
 ·rename_i hv; unfold Rg.valid at hv; rw [Bool.and_eq_true] at hv; exact hv.2
 ·cases h
theorem rules_2 {r : Rg} (h : r.rules = true) (hk : r.k = 2) : r.rs.length ≤ 16 ∧ writesOk r.ws = true ∧ r.w ≠ 18446744073709551615 := by
 unfold Rg.rules at h; rw [if_neg (by omega), if_pos hk] at h; simp only [Bool.and_eq_true] at h; obtain ⟨⟨⟨⟨_, h2⟩, _⟩, h4⟩, h5⟩ := h; unfold readsOk at h4; rw [Bool.and_eq_true] at h4; exact ⟨by simpa using h4.1, h5, by simpa [topW] using h2⟩
theorem rules_3 {r : Rg} (h : r.rules = true) (hk : r.k = 3) : r.oc = 1 ∨ r.oc = 2 := by
 unfold Rg.rules at h; rw [if_neg (by omega), if_neg (by omega), if_pos hk] at h; simp only [Bool.and_eq_true, Bool.or_eq_true, beq_iff_eq] at h; rcases h.2 with h | h
 ·exact .inl h.1
 ·exact .inr h.1
theorem rules_4 {r : Rg} (h : r.rules = true) (hk : r.k = 4) : r.w ≠ 18446744073709551615 := by
 unfold Rg.rules at h; rw [if_neg (by omega), if_neg (by omega), if_neg (by omega), if_pos hk] at h; simpa [topW] using h
theorem rules_k {r : Rg} (h : r.rules = true) (hk : r.k ≠ 5) : r.k = 1 ∨ r.k = 2 ∨ r.k = 3 ∨ r.k = 4 := by
 unfold Rg.rules at h; by_cases h1 : r.k = 1
 ·exact .inl h1
 by_cases h2 : r.k = 2
 ·exact .inr (.inl h2)
 by_cases h3 : r.k = 3
 ·exact .inr (.inr (.inl h3))
 by_cases h4 : r.k = 4
 ·exact .inr (.inr (.inr h4))
 rw [if_neg h1, if_neg h2, if_neg h3, if_neg h4, if_neg hk] at h; cases h
theorem keys_ok {ws : List Wr} (h : writesOk ws = true) : ∀ x ∈ ws, KeyOk x := fun x hx => by
 have := Vs.writes_ok h x hx; unfold wOk at this; simp only [Bool.and_eq_true, decide_eq_true_eq] at this; show x.key.size + 1 ≤ _
 omega
theorem ap_1 {r : Rg} (he : r.err = 0) (h : r.k = 1) : apE s r = resE s r ∧ apS s r = resS s r := by simp [apE, apS, he, h]
theorem ap_2 {r : Rg} (he : r.err = 0) (h : r.k = 2) : apE s r = prpE s r ∧ apS s r = prpS s r := by simp [apE, apS, he, h]
theorem ap_3 {r : Rg} (he : r.err = 0) (h : r.k = 3) : apE s r = dcdE s r ∧ apS s r = dcdS s r := by simp [apE, apS, he, h]
theorem ap_4 {r : Rg} (he : r.err = 0) (h : r.k = 4) : apE s r = mrkE s r ∧ apS s r = mrkS s r := by simp [apE, apS, he, h]
theorem ap_bad {r : Rg} (he : r.err ≠ 0) : apE s r = 70 ∧ apS s r = s := by simp [apE, apS, he]
theorem apply_any (T : St F w p m1 m2 m V I s) (r : Rg) (hr : r.ok w) (hR : RgR r) (hk : r.k ≠ 5) (hn : Vs.countM s.M ≤ 268435456) (hj : r.k = 2 → acB s (at' r) = true → jbB (at' r) = true) :
  Calls Tryz.prog 6 #[sp p, r.val] w fun e w' => e = .returned (.int .i64 (apE s r)) ∧ Aft2 F w p m1 m2 m (apS s r) w' := by
 by_cases he : r.err = 0
 ·have hru := err_valid he; rcases rules_k hru hk with h1 | h1 | h1 | h1
  ·rw [(ap_1 he h1).1, (ap_1 he h1).2]; exact apply_1 T r hr he h1
  ·rw [(ap_2 he h1).1, (ap_2 he h1).2]; obtain ⟨h2, h3, _⟩ := rules_2 hru h1; have h4 := Vs.writes_len h3; exact apply_2 T r hr he h1 hn ⟨hr.r, hr.w, by show r.rs.length + 1 ≤ _; omega, by show r.ws.length + 1 ≤ _; omega⟩ hR.t (hj h1) (keys_ok h3)
  ·rw [(ap_3 he h1).1, (ap_3 he h1).2]; exact apply_3 T r hr he h1 (by omega)
  ·rw [(ap_4 he h1).1, (ap_4 he h1).2]; exact apply_4 T r hr he h1 hn
 ·rw [(ap_bad he).1, (ap_bad he).2]; refine (apply_bad T r hr he).mono ?_; rintro e w' ⟨h1, h2⟩; exact ⟨h1, F, m1, m2, m, V, I, T.later h2, fun b h => .inl h, Onl.of_below h2⟩
end
section
variable {s : Ps} {C : List Cm} {R : List Rg}
theorem ap_no {r : Rg} (h : apE s r ≠ 0) : apS s r = s := by
 unfold apE at h; unfold apS; split
 ·rename_i he; rw [if_pos he] at h; split
  ·rename_i h1; rw [if_pos h1] at h; unfold resE at h; unfold resS; split
   ·rfl
   ·rename_i h2; rw [if_neg h2] at h; exact absurd rfl h
  ·rename_i h1; rw [if_neg h1] at h; split
   ·rename_i h2; rw [if_pos h2] at h; unfold prpE at h; unfold prpS; split at h
    ·exact absurd rfl h
    ·rename_i hb; split
     ·rename_i hc; rw [hc, Bool.true_and] at hb; unfold hldS; split
      ·rfl
      ·rename_i hg; have hg' : hldG s (hvR r).h = false := by simpa using hg
       unfold hldB at hb; rw [hg'] at hb; have hC : ¬ Lk.holdC s.H (hvR r).h = 0 := fun e => hb (by rw [e]; rfl)
       unfold Lk.holdC at hC; have : Lk.holdM s.H (hvR r).h = s.H := by
        unfold Lk.holdM; split
        ·rfl
        ·rename_i hi; rw [if_neg hi] at hC; split
         ·rfl
         ·rename_i hcf; rw [if_neg hcf] at hC; exact absurd rfl hC
       rw [this]
     ·rfl
   ·rename_i h2; rw [if_neg h2] at h; split
    ·rename_i h3; rw [if_pos h3] at h; unfold dcdE at h; unfold dcdS; split
     ·rfl
     ·rename_i h4; rw [if_neg h4] at h; split
      ·rename_i h5; rw [if_pos h5] at h; unfold cmtE at h; unfold cmtS; cases hg : getH s.H (r.c, r.s) with
       | none => rfl
       | some hd =>
        rw [hg] at h; simp only at h ⊢; split
        ·rename_i h6; rw [if_pos h6] at h; exact absurd rfl h
        ·rfl
      ·rename_i h5; rw [if_neg h5] at h; exact absurd rfl h
    ·rename_i h3; rw [if_neg h3] at h; unfold mrkE at h; unfold mrkS; split
     ·rename_i h4; rw [if_pos h4] at h; exact absurd rfl h
     ·rfl
 ·rfl
def nxR (R : List Rg) (r : Rg) : List Rg := if r.k = 2 then R ++ [r] else R
theorem Hist.step (H : Hist s C R) (hg : Vs.Good s.M) {I : Lk.It} (ho : Lk.Ok s.H I) {r : Rg} (hr : RgR r) (hk : r.k ≠ 5) (he : apE s r = 0) :
  (r.k = 3 ∧ r.oc = 1 → ∃ h, h ∈ s.H ∧ h.id = idR r ∧ Hist (apS s r) (laidC C ⟨at' r, h.ws⟩) R) ∧ (¬ (r.k = 3 ∧ r.oc = 1) → Hist (apS s r) C (nxR R r)) := by
 have herr : r.err = 0 := by
  by_cases e : r.err = 0
  ·exact e
  ·unfold apE at he; rw [if_neg e] at he; cases he
 have hru := err_valid herr; constructor
 ·rintro ⟨h1, h2⟩; rw [(ap_3 herr h1).1] at he; rw [(ap_3 herr h1).2]; cases h3 : (Lg.outM s.E (r.c, r.s)).isSome with
  | true => simp [dcdE, h3] at he
  | false =>
   have he' : cmtE s r = 0 := by simpa [dcdE, h3, h2] using he
   have es : dcdS s r = cmtS s r := by simp [dcdS, h3, h2]
   rw [es]; exact H.commit hg ho hr h2 he'
 ·intro hn; rcases rules_k hru hk with h1 | h1 | h1 | h1
  ·rw [(ap_1 herr h1).2, show nxR R r = R by simp [nxR, h1]]; exact H.reserve hr
  ·rw [(ap_2 herr h1).1] at he; rw [(ap_2 herr h1).2, show nxR R r = R ++ [r] by simp [nxR, h1]]; exact H.prepare he (rules_2 hru h1).2.1
  ·rw [(ap_3 herr h1).2, show nxR R r = R by simp [nxR, h1]]; have h2 : r.oc ≠ 1 := fun e => hn ⟨h1, e⟩
   cases h3 : (Lg.outM s.E (r.c, r.s)).isSome with
   | true => rw [show dcdS s r = s by simp [dcdS, h3]]; exact H
   | false => rw [show dcdS s r = setS s r by simp [dcdS, h3, h2]]; exact H.abort h2
  ·rw [(ap_4 herr h1).2, show nxR R r = R by simp [nxR, h1]]; exact H.mark hg (by have h2 := rules_4 hru h1; have h3 : 0 ≤ r.w ∧ r.w ≤ 18446744073709551615 := hr.t.a; omega)
theorem Hist.jb (H : Hist s C R) {t : Vs.Sp} (h : acB s t = true) : jbB t = true := by
 unfold acB at h; rw [H.cm] at h; have h' : lsS s.lc t = true := by simpa using h
 have := lessB_iff.1 h'; have := H.low; unfold jbB; have : 0 < t.a := by omega
 simp [this]
theorem own_apE (s : Ps) (m : Rg) (a b : Option Addr) (i j : Nat) (he : ({ m with ra := a, rc := i, wa := b, wc := j } : Rg).err = m.err) : apE s { m with ra := a, rc := i, wa := b, wc := j } = apE s m ∧ apS s { m with ra := a, rc := i, wa := b, wc := j } = apS s m := by
 unfold apE apS; rw [he]; exact ⟨rfl, rfl⟩
end
theorem empty_no {F : Nat → Prop} {w : World} {p : Nat} {m1 m2 m : Option Nat} {V : List Lk.Hv} {I : Lk.It} {s : Ps} (T : St F w p m1 m2 m V I s) (hc : (s.ceil == 0) = false) :
  Calls Tryz.prog 61 #[.pointer (some ⟨p, 1, none⟩)] w fun e w' => e = .returned (.bool false) ∧ Below w.heap.size w w' := by
 have c1 : w.cell? ⟨p, 1, none⟩ = some (.int .u64 s.ceil) := T.cell fun _ => rfl
 clear T; go_enter Tryz.func61, Tryz.ntmps61
 go_wp2_with fail
 go_ret
 exact ⟨rfl, by (repeat (first | exact Below.refl _ _ | assumption | refine Below.drew ?_ | refine Below.al ?_ _ | refine Below.setCell ?_ (by first | exact Nat.le_refl _ | (simp; omega) | (simp; done)) _ | refine Below.on ?_ (by assumption)))⟩
theorem replace_no {F : Nat → Prop} {w : World} {p : Nat} {m1 m2 m : Option Nat} {V : List Lk.Hv} {I : Lk.It} {s : Ps} (T : St F w p m1 m2 m V I s) (r : Rg) (hc : (s.ceil == 0) = false) :
  Calls Tryz.prog 23 #[sp p, r.val] w fun e w' => e = .returned (.int .i64 130) ∧ Below w.heap.size w w' := by
 obtain ⟨wx, hwx⟩ : ∃ wx, wx = w.alloc (.cells r.cells 43) := ⟨_, rfl⟩; have hbx : Below w.heap.size w wx := by rw [hwx]; exact Below.al (Below.refl _ _) _
 have EM := hid (empty_no (T.later hbx) hc); have HBX := hid hbx; clear T hbx hc; go_enter Tryz.func23, Tryz.ntmps23
 go_wp2_with fail
 rw [← hwx]; clear hwx; refine EM.out.mono ?_; rintro e w2 ⟨rfl, hb2⟩; have HB2 := hid (Below.on HBX.out hb2); clear hb2 EM; go_wp2_with fail
 go_ret
 exact ⟨rfl, HB2.out⟩
theorem apply_5 {F : Nat → Prop} {w : World} {p : Nat} {m1 m2 m : Option Nat} {V : List Lk.Hv} {I : Lk.It} {s : Ps} (T : St F w p m1 m2 m V I s) (r : Rg) (hr : r.ok w) (he : r.err = 0) (hk : r.k = 5) (hc : (s.ceil == 0) = false) :
  Calls Tryz.prog 6 #[sp p, r.val] w fun e w' => e = .returned (.int .i64 (130)) ∧ Aft2 F w p m1 m2 m (s) w' := by
 obtain ⟨wx, hwx⟩ : ∃ wx, wx = w.alloc (.cells r.cells 43) := ⟨_, rfl⟩; have hbx : Below w.heap.size w wx := by rw [hwx]; exact Below.al (Below.refl _ _) _
 have BX : BoxG wx w.heap.size r := by rw [hwx]; exact boxG w r _
 have VA := hid (walvalid_is wx r (hr.later hbx)); rw [he] at VA; have HX := hid BX; have HT := hid (T.later hbx); have HBX := hid hbx; have HK := hid hk; have HNI : Hid (¬ (fun b => F b ∨ Bm p m1 m2 m b) w.heap.size) := hid fun h => by have := T.all h; omega
 have RU : Hid (∀ W, Below wx.heap.size wx W → Calls Tryz.prog 23 #[.pointer (some ⟨p, 0, none⟩), .agg #[.int .i64 5, .int .u64 r.x, .int .u32 r.c, .int .u32 r.s, .int .u32 r.h, .int .i64 r.oc, .int .u64 r.w, .int .u32 r.l, .int .u32 r.n, .slice r.ra r.rs.length r.rc, .slice r.wa r.ws.length r.wc, .string r.im]] W fun e w' => e = .returned (.int .i64 (130)) ∧ Hid ((Aft2 F w p m1 m2 m (s) w') ∧ Onl (fun b => F b ∨ Bm p m1 m2 m b) W w')) := hid fun W hb => by
  have hBW := Below.on hbx hb; have := replace_no (HT.out.later hb) r hc; rw [show r.val = .agg #[.int .i64 5, .int .u64 r.x, .int .u32 r.c, .int .u32 r.s, .int .u32 r.h, .int .i64 r.oc, .int .u64 r.w, .int .u32 r.l, .int .u32 r.n, .slice r.ra r.rs.length r.rc, .slice r.wa r.ws.length r.wc, .string r.im] from by simp [hk]] at this; refine this.mono ?_; rintro e w' ⟨he, h2⟩; have h9 := (Onl.of_below h2 : Onl (fun b => F b ∨ Bm p m1 m2 m b) W w'); exact ⟨he, hid ⟨⟨F, m1, m2, m, V, I, (HT.out.later hb).later h2, fun b h => .inl h, (Onl.of_below hBW).trans h9⟩, h9⟩⟩
 clear T hr he hbx BX hk; go_enter Tryz.func6, Tryz.ntmps6
 go_wp2_with fail
 rw [← hwx]; clear hwx; refine VA.out.mono ?_; rintro e w2 ⟨rfl, hb2⟩; obtain ⟨w3, hw3⟩ : ∃ w3, w3 = w2.alloc (.cells #[.nilFunc, .func (.func 19) #[] #[], .func (.func 20) #[] #[], .func (.func 21) #[] #[], .func (.func 22) #[] #[], .func (.func 23) #[] #[]] 60) := ⟨_, rfl⟩; have hb3 : Below wx.heap.size wx w3 := by rw [hw3]; exact Below.al hb2 _
 have t1 : w3.cell? ⟨w2.heap.size, 5, none⟩ = some (.func (.func 23) #[] #[]) := by rw [hw3]; exact Vs.cell_of_obj (World.alloc_heap_new w2 _) rfl
 have hnt : ¬ (fun b => F b ∨ Bm p m1 m2 m b) w2.heap.size := fun h => by have := HT.out.all h; have := hb2.size; omega
 have hni := HNI.out; have BG := HX.out.later hb3; have d0 : w3.cell? ⟨w.heap.size, 0, none⟩ = some (.int .i64 5) := by rw [BG.c0, HK.out]
 have d1 := BG.c1; have d2 := BG.c2; have d3 := BG.c3; have d4 := BG.c4; have d5 := BG.c5; have d6 := BG.c6; have d7 := BG.c7; have d8 := BG.c8; have d9 := BG.c9; have d10 := BG.c10; have d11 := BG.c11; have HB3 := hid hb3; clear hb2 VA BG; go_wp2_with fail
 rw [← hw3]; clear hw3; go_region_held3 (fun w' => w'.cell? ⟨w.heap.size, 0, none⟩ = some (.int .i64 5) ∧ w'.cell? ⟨w.heap.size, 1, none⟩ = some (.int .u64 r.x) ∧ w'.cell? ⟨w.heap.size, 2, none⟩ = some (.int .u32 r.c) ∧ w'.cell? ⟨w.heap.size, 3, none⟩ = some (.int .u32 r.s) ∧ w'.cell? ⟨w.heap.size, 4, none⟩ = some (.int .u32 r.h) ∧ w'.cell? ⟨w.heap.size, 5, none⟩ = some (.int .i64 r.oc) ∧ w'.cell? ⟨w.heap.size, 6, none⟩ = some (.int .u64 r.w) ∧ w'.cell? ⟨w.heap.size, 7, none⟩ = some (.int .u32 r.l) ∧ w'.cell? ⟨w.heap.size, 8, none⟩ = some (.int .u32 r.n) ∧ w'.cell? ⟨w.heap.size, 9, none⟩ = some (.slice r.ra r.rs.length r.rc) ∧ w'.cell? ⟨w.heap.size, 10, none⟩ = some (.slice r.wa r.ws.length r.wc) ∧ w'.cell? ⟨w.heap.size, 11, none⟩ = some (.string r.im) ∧ w'.cell? ⟨w2.heap.size, 5, none⟩ = some (.func (.func 23) #[] #[]) ∧ Onl (fun b => F b ∨ Bm p m1 m2 m b) w3 w')
  ((refine (fun (hO : Onl (fun b => F b ∨ Bm p m1 m2 m b) w3 _) => ⟨hO.cell hni d0, hO.cell hni d1, hO.cell hni d2, hO.cell hni d3, hO.cell hni d4, hO.cell hni d5, hO.cell hni d6, hO.cell hni d7, hO.cell hni d8, hO.cell hni d9, hO.cell hni d10, hO.cell hni d11, hO.cell hnt t1, hO⟩) ?_; (repeat (first | with_reducible exact Onl.refl _ _ | with_reducible assumption | with_reducible refine Onl.drew ?_ | with_reducible refine Onl.al ?_ _))))
  (first | (go_at_call 23; refine (RU.out _ (by refine Below.on HB3.out ?_; (repeat (first | with_reducible exact Below.refl _ _ | with_reducible assumption | with_reducible refine Below.drew ?_ | with_reducible refine Below.al ?_ _ | with_reducible refine Below.setCell ?_ (by first | exact Nat.le_refl _ | (simp; omega) | (simp; done)) _ | with_reducible refine Below.on ?_ (by assumption))))).mono ?_; rintro e w4 ⟨rfl, HP⟩; have hO2 : Onl (fun b => F b ∨ Bm p m1 m2 m b) w3 w4 := (by refine Onl.trans ?_ HP.out.2; (repeat (first | with_reducible exact Onl.refl _ _ | with_reducible assumption | with_reducible refine Onl.drew ?_ | with_reducible refine Onl.al ?_ _)))))
 all_goals (try go_wp2_with fail)
 all_goals go_ret
 all_goals exact ⟨rfl, HP.out.1⟩
def axE (s : Ps) (r : Rg) : Int := if r.k = 5 then (if r.err = 0 then 130 else 70) else apE s r
def axS (s : Ps) (r : Rg) : Ps := if r.k = 5 then s else apS s r
theorem apply_all {F : Nat → Prop} {w : World} {p : Nat} {m1 m2 m : Option Nat} {V : List Lk.Hv} {I : Lk.It} {s : Ps} (T : St F w p m1 m2 m V I s) (r : Rg) (hr : r.ok w) (hR : RgR r) (hc : (s.ceil == 0) = false) (hn : Vs.countM s.M ≤ 268435456) (hj : r.k = 2 → acB s (at' r) = true → jbB (at' r) = true) :
  Calls Tryz.prog 6 #[sp p, r.val] w fun e w' => e = .returned (.int .i64 (axE s r)) ∧ Aft2 F w p m1 m2 m (axS s r) w' := by
 unfold axE axS; by_cases hk : r.k = 5
 ·rw [if_pos hk, if_pos hk]; by_cases he : r.err = 0
  ·rw [if_pos he]; exact apply_5 T r hr he hk hc
  ·rw [if_neg he]; refine (apply_bad T r hr he).mono ?_; rintro e w' ⟨h1, h2⟩; exact ⟨h1, F, m1, m2, m, V, I, T.later h2, fun b h => .inl h, Onl.of_below h2⟩
 ·rw [if_neg hk, if_neg hk]; exact apply_any T r hr hR hk hn hj
end Go.Proofs.YtneojeidpfjpbaaGreatDoor.Ys
