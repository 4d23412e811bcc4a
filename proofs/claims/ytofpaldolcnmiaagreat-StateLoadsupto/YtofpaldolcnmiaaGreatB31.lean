import Derived.Test.YtofpaldolcnmiaaGreatB30
set_option linter.unusedVariables false
namespace Go.Proofs.YtofpaldolcnmiaaGreat.Ig
open Go.Proofs.YtofpaldolcnmiaaGreat Ys
def cmOf (E : List Lg.En) : Bool := E.any fun e => e.oc == 1
def lcOf (E : List Lg.En) : Vs.Sp := E.foldl (fun a e => if e.oc = 1 then mxS a (atE e) else a) ⟨0, 0, 0⟩
theorem lcOf_snoc (E : List Lg.En) (e : Lg.En) : lcOf (E ++ [e]) = if e.oc = 1 then mxS (lcOf E) (atE e) else lcOf E := by simp [lcOf]
theorem cmOf_snoc (E : List Lg.En) (e : Lg.En) : cmOf (E ++ [e]) = (cmOf E || e.oc == 1) := by simp [cmOf]
theorem may_of {e : Lg.En} (h : (rgE e).err = 0) : Lg.mayB e = true := by
 have hr := err_valid h; have h3 : (rgE e).k = 3 := rfl; unfold Rg.rules at hr; rw [if_neg (by rw [h3]; decide), if_neg (by rw [h3]; decide), if_pos h3, Bool.and_eq_true, Bool.or_eq_true] at hr; unfold Lg.mayB; rcases hr.2 with h1 | h1
 ·rw [Bool.and_eq_true] at h1; rw [show (e.oc == 1) = true from h1.1]; rfl
 ·rw [Bool.and_eq_true, Bool.and_eq_true, Bool.and_eq_true] at h1; have q1 : e.w = 0 := by simpa [rgE] using h1.2.1.1
  have q2 : e.l = 0 := by simpa [rgE] using h1.2.1.2
  have q3 : e.n = 0 := by simpa [rgE] using h1.2.2
  rw [show (e.oc == 2) = true from h1.1, q1, q2, q3, sameB_self]; simp
theorem feS_all (c : Int) : ∀ (l pre : List Lg.En) (s : Ps), s.ceil = c → s.E = pre → s.cm = cmOf pre → s.lc = lcOf pre → ((pre ++ l).map Lg.En.id).Nodup → (∀ e ∈ l, (rgE e).err = 0 ∧ (e.oc = 1 → e.w < c)) →
  feS s l = some { s with E := pre ++ l, cm := cmOf (pre ++ l), lc := lcOf (pre ++ l) }
 | [], pre, s, hc, hE, h1, h2, hn, hl => by
  rw [List.append_nil, ← h1, ← h2, ← hE]; rfl
 | e :: l, pre, s, hc, hE, h1, h2, hn, hl => by
  obtain ⟨he, hw⟩ := hl e (by simp); have hid : e.id ∉ pre.map Lg.En.id := by
   rw [List.map_append, List.map_cons, List.nodup_append] at hn; exact fun hm => hn.2.2 _ hm _ (by simp) rfl
  have ho : Lg.outM s.E e.id = none := by rw [hE]; exact Lg.outM_none.2 hid
  have hb : feB s e = true := by
   unfold feB; rw [he, ho, hc]; by_cases h9 : e.oc = 1
   ·simp [h9, hw h9]
   ·simp [h9]
  have hdm : Lg.decM s.E e = pre ++ [e] := by unfold Lg.decM; rw [may_of he, ho, hE]; rfl
  have hS : layS s e = { s with E := pre ++ [e], cm := cmOf (pre ++ [e]), lc := lcOf (pre ++ [e]) } := by
   unfold layS; rw [hdm, cmOf_snoc, lcOf_snoc, ← h1, ← h2]; by_cases h9 : e.oc = 1
   ·rw [if_pos h9, if_pos h9]; simp [h9]
   ·rw [if_neg h9, if_neg h9]; simp [h9]
  rw [feS, if_pos hb, hS, feS_all c l (pre ++ [e]) { s with E := pre ++ [e], cm := cmOf (pre ++ [e]), lc := lcOf (pre ++ [e]) } hc rfl rfl rfl (by simpa using hn) (fun x hx => hl x (by simp [hx]))]; simp
theorem fhS_all (c : Int) (E : List Lg.En) : ∀ (l pre : List Lk.Hd) (s : Ps), s.ceil = c → s.E = E → s.H = pre → ((pre ++ l).map Lk.Hd.id).Nodup → (pre ++ l).Pairwise (fun a b => Lk.meetB a.rs a.ws b = false) → (∀ h ∈ l, (rgP h).err = 0 ∧ h.w < c ∧ h.id ∉ E.map Lg.En.id) →
  fhS s l = some { s with H := pre ++ l }
 | [], pre, s, hc, hE, h1, hn, hp, hl => by rw [List.append_nil, ← h1]; rfl
 | h :: l, pre, s, hc, hE, h1, hn, hp, hl => by
  obtain ⟨he, hw, hi⟩ := hl h (by simp); have hid : h.id ∉ pre.map Lk.Hd.id := by
   rw [List.map_append, List.map_cons, List.nodup_append] at hn; exact fun hm => hn.2.2 _ hm _ (by simp) rfl
  have hcf : Lk.confl s.H h.id h.rs h.ws = false := by
   unfold Lk.confl; rw [List.any_eq_false]; intro x hx; rw [h1] at hx; have := (List.pairwise_append.1 hp).2.2 x hx h (by simp); rw [Lk.meet_symm, this]; simp
  have hg : hldG s h = false := by
   unfold hldG; rw [hE, Lg.outM_none.2 hi, hc]; simp [hw]
  have hC : Lk.holdC s.H h = 0 := by unfold Lk.holdC; rw [if_neg (by rw [h1]; exact hid), if_neg (by rw [hcf]; decide)]
  have hM : Lk.holdM s.H h = pre ++ [h] := by unfold Lk.holdM; rw [if_neg (by rw [h1]; exact hid), if_neg (by rw [hcf]; decide), h1]
  have hb : fhB s h = true := by unfold fhB hldB; rw [he, hg, hC]; rfl
  have hS : hldS s h = { s with H := pre ++ [h] } := by unfold hldS; rw [hg, if_neg (by decide), hM]
  rw [fhS, if_pos hb, hS, fhS_all c E l (pre ++ [h]) { s with H := pre ++ [h] } hc hE rfl (by simpa using hn) (by simpa using hp) (fun x hx => hl x (by simp [hx]))]; simp
theorem ovW_mem (t : Vs.Sp) : ∀ (ws : List Wr) (J : Jt) (k : ByteArray) (u : Vs.Sp), (k, u) ∈ ovW J t ws → ((∃ x ∈ ws, x.key = k) ∧ u = t) ∨ (k, u) ∈ J
 | [], J, k, u, h => .inr h
 | x :: ws, J, k, u, h => by
  rcases ovW_mem t ws (Lk.putA J x.key t) k u h with ⟨⟨y, hy, e⟩, e2⟩ | h
  ·exact .inl ⟨⟨y, by simp [hy], e⟩, e2⟩
  ·rcases (Lk.putA_mem x.key t k u).1 h with ⟨e1, e2⟩ | ⟨_, h⟩
   ·exact .inl ⟨⟨x, by simp, e1.symm⟩, e2⟩
   ·exact .inr h
theorem ovJ_mem : ∀ (l : List Lk.Hd) (J : Jt) (k : ByteArray) (u : Vs.Sp), (k, u) ∈ l.foldl (fun J h => ovW J (atHd h) h.ws) J → (∃ h ∈ l, (∃ x ∈ h.ws, x.key = k) ∧ u = atHd h) ∨ (k, u) ∈ J
 | [], J, k, u, h => .inr h
 | g :: l, J, k, u, h => by
  rcases ovJ_mem l (ovW J (atHd g) g.ws) k u h with ⟨h', hh, e⟩ | h
  ·exact .inl ⟨h', by simp [hh], e⟩
  ·rcases ovW_mem _ _ _ _ _ h with ⟨e1, e2⟩ | h
   ·exact .inl ⟨g, by simp, e1, e2⟩
   ·exact .inr h
theorem getJ_mem {J : Jt} {k : ByteArray} {u : Vs.Sp} (h : getJ J k = some u) : (k, u) ∈ J := by
 unfold getJ at h; obtain ⟨q, hq, e⟩ := Option.map_eq_some_iff.1 h; have h1 := List.find?_some hq; have h2 := List.mem_of_find?_eq_some hq; have h3 : q.1 = k := by simpa using h1
 rw [← h3, ← e]; exact h2
def aboveB (V : List Vs.Kv) (k : ByteArray) (t : Vs.Sp) : Bool := V.any fun v => decide (v.1 = k) && !v.2.s.lt t
structure Snd (top : Int) (wm : Vs.Sp) (H : List Lk.Hd) (E : List Lg.En) (V : List Vs.Kv) : Prop where
 wm : wm.a ≠ 18446744073709551615
 hd : ∀ h ∈ H, (rgP h).err = 0 ∧ h.w < top ∧ ∀ x ∈ h.ws, aboveB V x.key (atHd h) = false
 hp : H.Pairwise fun g h => ltX g.id h.id = true ∧ Lk.meetB h.rs h.ws g = false
 en : ∀ e ∈ E, (rgE e).err = 0 ∧ (∀ h ∈ H, h.id ≠ e.id) ∧ (e.oc = 1 → e.w < top)
 ep : E.Pairwise fun d e => ltX d.id e.id = true
 vs : ∀ v ∈ V, wOk ⟨v.1, v.2.del, v.2.val⟩ = true ∧ v.2.s.a < top
 vp : V.Pairwise fun x y => Vs.folB x y = true
theorem lt_tri {s t : Vs.Sp} (h : t.lt s = false) (hne : s ≠ t) : s.lt t = true := by
 obtain ⟨a, b, c⟩ := s; obtain ⟨x, y, z⟩ := t; have hn : ¬ (a = x ∧ b = y ∧ c = z) := fun ⟨e1, e2, e3⟩ => hne (by rw [e1, e2, e3])
 unfold Vs.Sp.lt lessB at h ⊢; simp only at h ⊢; split
 ·rename_i e1; rw [if_pos e1.symm] at h; split
  ·rename_i e2; rw [if_pos e2.symm] at h; simp at h ⊢; omega
  ·rename_i e2; rw [if_neg (fun e => e2 e.symm)] at h; simp at h ⊢; omega
 ·rename_i e1; rw [if_neg (fun e => e1 e.symm)] at h; simp at h ⊢; omega
theorem above_no {V : List Vs.Kv} {k : ByteArray} {t : Vs.Sp} : aboveB V k t = false ↔ ∀ v ∈ V, v.1 = k → v.2.s.lt t = true := by
 unfold aboveB; rw [List.any_eq_false]; constructor
 ·intro h v hv e; have := h v hv; simpa [e] using this
 ·intro h v hv; by_cases e : v.1 = k
  ·simp [e, h v hv e]
  ·simp [e]
theorem up_nd {α : Type} {f : α → Ix} {l : List α} (h : l.Pairwise fun x y => ltX (f x) (f y) = true) : (l.map f).Nodup := by
 rw [List.Nodup, List.pairwise_map]; exact h.imp fun {x y} k e => by rw [e, ltX_irr] at k; cases k
def sndS (n top : Int) (wm : Vs.Sp) (H : List Lk.Hd) (E : List Lg.En) (V : List Vs.Kv) : Ps := ⟨n, top, H, E, Vs.loadM V, wm, cmOf E, lcOf E⟩
theorem fill_yes {n top : Int} {wm : Vs.Sp} {H : List Lk.Hd} {E : List Lg.En} {V : List Vs.Kv} (S : Snd top wm H E V) (ht : top ≤ 18446744073709551615) (hw : wm.a ≤ 18446744073709551615) : fillP n top wm H E V = some (sndS n top wm H E V) := by
 have hV : ∀ v ∈ V, Vs.okV v = true := fun v hv => by
  have := S.vs v hv; unfold Vs.okV; rw [this.1]; simp; omega
 have hfv : fvB top V wm = true := by
  unfold fvB; rw [List.all_eq_true.2 (fun v hv => by simpa using (S.vs v hv).2), Vs.ld_ok S.vp hV]; have := S.wm; simp; omega
 have hfe := feS_all top E [] ⟨n, top, [], [], Vs.loadM V, wm, false, ⟨0, 0, 0⟩⟩ rfl rfl rfl rfl (by simpa using up_nd S.ep) (fun e he => ⟨(S.en e he).1, (S.en e he).2.2⟩); rw [List.nil_append] at hfe; have hap : H.Pairwise (fun a b => Lk.meetB a.rs a.ws b = false) := S.hp.imp fun {a b} h => by rw [Lk.meet_symm]; exact h.2
 have hfh := fhS_all top E H [] ⟨n, top, [], E, Vs.loadM V, wm, cmOf E, lcOf E⟩ rfl rfl rfl (by simpa using up_nd (S.hp.imp fun {a b} h => h.1)) (by simpa using hap) (fun h hh => ⟨(S.hd h hh).1, (S.hd h hh).2.1, fun hm => by
  obtain ⟨e, he, e2⟩ := List.mem_map.1 hm; exact (S.en e he).2.1 h hh e2.symm⟩)
 rw [List.nil_append] at hfh; have hov : ovT V H = false := by
  unfold ovT; rw [List.any_eq_false]; intro v hv; unfold ovV; cases hj : getJ (ovJ H) v.1 with
  | none => simp
  | some t =>
   rcases ovJ_mem _ _ _ _ (getJ_mem hj) with ⟨h, hh, ⟨x, hx, ek⟩, e2⟩ | h9
   ·have := above_no.1 ((S.hd h hh).2.2 x hx) v hv ek.symm; rw [e2]; simp [this]
   ·cases h9
 unfold fillP; rw [hfv, if_pos rfl, hfe]; simp only; rw [hfh]; simp only; rw [hov]; rfl
theorem snd_img {n top : Int} {wm : Vs.Sp} {H : List Lk.Hd} {E : List Lg.En} {V : List Vs.Kv} (S : Snd top wm H E V) : imgOf (sndS n top wm H E V) = (n, top, wm, H, E, V) := by
 unfold imgOf sndS; rw [srt_of (S.hp.imp fun {a b} h => h.1), srt_of S.ep, (Vs.load_is V S.vp).2]
theorem nd_snoc {α β : Type} {f : α → β} {l : List α} {x : α} (h : (l.map f).Nodup) (hx : f x ∉ l.map f) : ((l ++ [x]).map f).Nodup := by
 rw [List.map_append, List.nodup_append]; refine ⟨h, by simp, fun a ha b hb => ?_⟩; simp at hb; intro e; rw [hb] at e; exact hx (e ▸ ha)
theorem feS_some : ∀ (l pre : List Lg.En) (s s' : Ps), s.E = pre → feS s l = some s' →
  (s'.E = pre ++ l ∧ s'.H = s.H ∧ s'.M = s.M ∧ s'.node = s.node ∧ s'.ceil = s.ceil ∧ s'.wm = s.wm) ∧ (∀ e ∈ l, (rgE e).err = 0 ∧ (e.oc = 1 → e.w < s.ceil)) ∧ ((pre.map Lg.En.id).Nodup → ((pre ++ l).map Lg.En.id).Nodup)
 | [], pre, s, s', hE, h => by
  injection h with h
  subst h; exact ⟨⟨by rw [List.append_nil]; exact hE, rfl, rfl, rfl, rfl, rfl⟩, (fun e he => by cases he), fun hn => by rw [List.append_nil]; exact hn⟩
 | e :: l, pre, s, s', hE, h => by
  rw [feS] at h; split at h
  ·rename_i hb; unfold feB at hb; simp only [Bool.and_eq_true, decide_eq_true_eq, Bool.not_eq_true', Option.isSome_eq_false_iff, Option.isNone_iff_eq_none] at hb; obtain ⟨he, ho, hw⟩ := hb; have hdm : Lg.decM s.E e = pre ++ [e] := by unfold Lg.decM; rw [may_of he, ho, hE]; rfl
   have hS : (layS s e).E = pre ++ [e] ∧ (layS s e).H = s.H ∧ (layS s e).M = s.M ∧ (layS s e).node = s.node ∧ (layS s e).ceil = s.ceil ∧ (layS s e).wm = s.wm := by
    unfold layS; rw [hdm]; split <;> exact ⟨rfl, rfl, rfl, rfl, rfl, rfl⟩
   obtain ⟨q1, q2, q3, q4, q5, q6⟩ := hS; obtain ⟨⟨r1, r2, r3, r4, r5, r6⟩, r7, r8⟩ := feS_some l (pre ++ [e]) (layS s e) s' q1 h; refine ⟨⟨by rw [r1]; simp, r2.trans q2, r3.trans q3, r4.trans q4, r5.trans q5, r6.trans q6⟩, fun x hx => ?_, fun hn => by
    have := r8 (nd_snoc hn (by rw [hE] at ho; exact Lg.outM_none.1 ho)); simpa using this⟩
   rcases List.mem_cons.1 hx with rfl | hx
   ·refine ⟨he, fun h1 => ?_⟩; simpa [h1] using hw
   ·have := r7 x hx; rw [q5] at this; exact this
  ·cases h
theorem fhS_some : ∀ (l pre : List Lk.Hd) (s s' : Ps), s.H = pre → pre.Pairwise (fun a b => Lk.meetB a.rs a.ws b = false) → fhS s l = some s' →
  (s'.H = pre ++ l ∧ s'.E = s.E ∧ s'.M = s.M ∧ s'.node = s.node ∧ s'.ceil = s.ceil ∧ s'.wm = s.wm) ∧ (pre ++ l).Pairwise (fun a b => Lk.meetB a.rs a.ws b = false) ∧ (∀ h ∈ l, (rgP h).err = 0 ∧ h.w < s.ceil ∧ h.id ∉ s.E.map Lg.En.id) ∧ ((pre.map Lk.Hd.id).Nodup → ((pre ++ l).map Lk.Hd.id).Nodup)
 | [], pre, s, s', hE, hp, h => by
  injection h with h
  subst h; exact ⟨⟨by rw [List.append_nil]; exact hE, rfl, rfl, rfl, rfl, rfl⟩, by rw [List.append_nil]; exact hp, (fun e he => by cases he), fun hn => by rw [List.append_nil]; exact hn⟩
 | g :: l, pre, s, s', hE, hp, h => by
  rw [fhS] at h; split at h
  ·rename_i hb; unfold fhB hldB at hb; simp only [Bool.and_eq_true, decide_eq_true_eq, Bool.not_eq_true', beq_iff_eq] at hb; obtain ⟨he, hg, hc⟩ := hb; have hg2 := hg; unfold hldG at hg2; simp only [Bool.or_eq_false_iff, Option.isSome_eq_false_iff, Option.isNone_iff_eq_none, Bool.not_eq_false', decide_eq_true_eq] at hg2; have hC : g.id ∉ pre.map Lk.Hd.id ∧ Lk.confl pre g.id g.rs g.ws = false := by
    unfold Lk.holdC at hc; rw [hE] at hc; split at hc
    ·cases hc
    ·split at hc
     ·cases hc
     ·rename_i n1 n2; exact ⟨n1, by simpa using n2⟩
   have hM : Lk.holdM s.H g = pre ++ [g] := by unfold Lk.holdM; rw [hE, if_neg hC.1, if_neg (by rw [hC.2]; decide)]
   have hS : hldS s g = { s with H := pre ++ [g] } := by unfold hldS; rw [hg, if_neg (by decide), hM]
   rw [hS] at h; have hp2 : (pre ++ [g]).Pairwise (fun a b => Lk.meetB a.rs a.ws b = false) := List.pairwise_append.2 ⟨hp, List.pairwise_singleton _ _, fun a ha b hb => by
    simp only [List.mem_singleton] at hb; subst hb; have h2 := hC.2; unfold Lk.confl at h2; rw [List.any_eq_false] at h2; have h3 := h2 a ha; have h4 : a.id ≠ b.id := fun e => hC.1 (e ▸ List.mem_map.2 ⟨a, ha, rfl⟩)
    rw [Lk.meet_symm]; simpa [h4] using h3⟩
   obtain ⟨⟨r1, r2, r3, r4, r5, r6⟩, r7, r8, r9⟩ := fhS_some l (pre ++ [g]) { s with H := pre ++ [g] } s' rfl hp2 h; refine ⟨⟨by rw [r1]; simp, r2, r3, r4, r5, r6⟩, by simpa using r7, fun x hx => ?_, fun hn => by
    have := r9 (nd_snoc hn hC.1); simpa using this⟩
   rcases List.mem_cons.1 hx with rfl | hx
   ·exact ⟨he, hg2.2, Lg.outM_none.1 hg2.1⟩
   ·exact r8 x hx
  ·cases h
theorem ldF_ok {l : List Vs.Kv} : ∀ k, Vs.ldF l k = 0 → ∀ i, i < k → Vs.okV (Vs.nthK l i) = true
 | 0, _, i, hi => by omega
 | k + 1, h, i, hi => by
  have h0 : Vs.ldF l k = 0 := by
   rw [Vs.ldF] at h; by_cases e : Vs.ldF l k = 0
   ·exact e
   ·rw [if_neg e] at h; exact h
  rw [Vs.ldF, if_pos h0] at h; by_cases e : i = k
  ·rw [e]; exact (Vs.ldS_ok h).1
  ·exact ldF_ok k h0 i (by omega)
theorem ovW_keep (t : Vs.Sp) : ∀ (ws : List Wr) (J : Jt) (k : ByteArray) (u : Vs.Sp), (k, u) ∈ J → (∀ x ∈ ws, x.key = k → t = u) → (k, u) ∈ ovW J t ws
 | [], J, k, u, h, _ => h
 | x :: ws, J, k, u, h, hn => by
  refine ovW_keep t ws (Lk.putA J x.key t) k u ?_ (fun y hy => hn y (by simp [hy])); by_cases e : x.key = k
  ·exact (Lk.putA_mem _ _ _ _).2 (.inl ⟨e.symm, (hn x (by simp) e).symm⟩)
  ·exact (Lk.putA_mem _ _ _ _).2 (.inr ⟨fun e2 => e e2.symm, h⟩)
theorem ovW_lay (t : Vs.Sp) : ∀ (ws : List Wr) (J : Jt) (x : Wr), x ∈ ws → (x.key, t) ∈ ovW J t ws
 | [], J, x, h => by cases h
 | y :: ws, J, x, h => by
  rcases List.mem_cons.1 h with rfl | h
  ·exact ovW_keep t ws _ _ _ ((Lk.putA_mem _ _ _ _).2 (.inl ⟨rfl, rfl⟩)) (fun _ _ _ => rfl)
  ·exact ovW_lay t ws _ x h
theorem ovJ_keep : ∀ (l : List Lk.Hd) (J : Jt) (k : ByteArray) (u : Vs.Sp), (k, u) ∈ J → (∀ h ∈ l, ∀ x ∈ h.ws, x.key ≠ k) → (k, u) ∈ l.foldl (fun J h => ovW J (atHd h) h.ws) J
 | [], J, k, u, h, _ => h
 | g :: l, J, k, u, h, hn => ovJ_keep l _ k u (ovW_keep _ _ _ _ _ h (fun x hx e => absurd e (hn g (by simp) x hx))) (fun h' hh => hn h' (by simp [hh]))
theorem ovJ_lay : ∀ (l : List Lk.Hd) (J : Jt) (h : Lk.Hd) (x : Wr), l.Pairwise (fun a b => Lk.meetB a.rs a.ws b = false) → h ∈ l → x ∈ h.ws → (x.key, atHd h) ∈ l.foldl (fun J h => ovW J (atHd h) h.ws) J
 | [], J, h, x, _, hh, _ => by cases hh
 | g :: l, J, h, x, hp, hh, hx => by
  have hp' := List.pairwise_cons.1 hp; rcases List.mem_cons.1 hh with rfl | hh
  ·refine ovJ_keep l _ _ _ (ovW_lay _ _ _ x hx) (fun h' hh' y hy e => ?_); have := hp'.1 h' hh'; rw [← Bool.not_eq_true, Lk.meet_iff] at this; exact this (.inl ⟨x, hx, y, hy, e.symm⟩)
  ·exact ovJ_lay l _ h x hp'.2 hh hx
theorem ovW_nd (t : Vs.Sp) : ∀ (ws : List Wr) (J : Jt), (J.map (·.1)).Nodup → ((ovW J t ws).map (·.1)).Nodup
 | [], J, h => h
 | x :: ws, J, h => ovW_nd t ws _ (Lk.putA_keys h _ _)
theorem ovJ_nd : ∀ (l : List Lk.Hd) (J : Jt), (J.map (·.1)).Nodup → ((l.foldl (fun J h => ovW J (atHd h) h.ws) J).map (·.1)).Nodup
 | [], J, h => h
 | g :: l, J, h => ovJ_nd l _ (ovW_nd _ _ _ h)
theorem snd_of {n top : Int} {wm : Vs.Sp} {H : List Lk.Hd} {E : List Lg.En} {V : List Vs.Kv} {s : Ps} (h : fillP n top wm H E V = some s) (hi : imgOf s = (n, top, wm, H, E, V)) : Snd top wm H E V := by
 unfold fillP at h; split at h
 ·rename_i hfv; split at h
  ·cases h
  ·rename_i s1 hfe; split at h
   ·cases h
   ·rename_i s2 hfh; split at h
    ·cases h
    ·rename_i hov; injection h with h
     subst h; obtain ⟨⟨a1, a2, a3, a4, a5, a6⟩, a7, a8⟩ := feS_some E [] _ s1 rfl hfe; rw [List.nil_append] at a1; obtain ⟨⟨b1, b2, b3, b4, b5, b6⟩, b7, b8, b9⟩ := fhS_some H [] s1 s2 a2 List.Pairwise.nil hfh; rw [List.nil_append] at b1 b7; unfold fvB at hfv; simp only [Bool.and_eq_true, List.all_eq_true, decide_eq_true_eq] at hfv; obtain ⟨v1, v2, v3⟩ := hfv; unfold imgOf at hi; simp only [Prod.mk.injEq] at hi; obtain ⟨-, -, -, i4, i5, i6⟩ := hi; have hHn : (H.map Lk.Hd.id).Nodup := by simpa using b9 List.nodup_nil
     have hEn : (E.map Lg.En.id).Nodup := by simpa using a8 List.nodup_nil
     have hHu : Up Lk.Hd.id H := by rw [← i4, b1]; exact srt_up hHn
     have hEu : Up Lg.En.id E := by rw [← i5, b2, a1]; exact srt_up hEn
     have hVs := Vs.ld_sorted V.length (Nat.le_refl _) v2; rw [List.take_length] at hVs; refine ⟨by omega, fun g hg => ⟨(b8 g hg).1, by have := (b8 g hg).2.1; rw [a5] at this; exact this, fun x hx => above_no.2 fun v hv e => ?_⟩, ?_, fun e he => ⟨(a7 e he).1, fun g hg e2 => ?_, (a7 e he).2⟩, hEu, fun v hv => ⟨?_, v1 v hv⟩, hVs⟩
     ·have hj := getJ_some (ovJ_nd H [] List.nodup_nil) (ovJ_lay H [] g x b7 hg hx); have := hov; unfold ovT at this; rw [Bool.not_eq_true, List.any_eq_false] at this; have h9 := this v hv; unfold ovV at h9; rw [e] at h9; have hj' : getJ (ovJ H) x.key = some (atHd g) := hj; rw [hj'] at h9; simpa using h9
     ·exact (List.Pairwise.and hHu b7).imp fun {a b} k => ⟨k.1, by rw [Lk.meet_symm]; exact k.2⟩
     ·exact (b8 g hg).2.2 (by rw [a1, e2]; exact List.mem_map.2 ⟨e, he, rfl⟩)
     ·obtain ⟨i, hi, rfl⟩ := List.getElem_of_mem hv; have := ldF_ok V.length v2 i hi; rw [Vs.nthK_get hi] at this; unfold Vs.okV at this; rw [Bool.and_eq_true] at this; exact this.2
 ·cases h
end Go.Proofs.YtofpaldolcnmiaaGreat.Ig
