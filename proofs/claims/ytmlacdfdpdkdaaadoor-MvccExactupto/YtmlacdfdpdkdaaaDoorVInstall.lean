import Derived.Test.YtmlacdfdpdkdaaaDoorVAdd
/- Install. -/
namespace Go.Proofs.YtmlacdfdpdkdaaaDoor.Vs
open Go.RowKit Go.Sort
set_option linter.unusedVariables false

/-- the write as a version at t -/
def Wr.ver (x : Wr) (t : Sp) : Ver := ⟨t, x.del, x.val⟩
/-- may the writes be installed at t? -/
def freeB (M : Mst) (t : Sp) (x : Wr) : Bool := ((getX M x.key).getD []).all fun u => u.s.lt t
def instM (M : Mst) (ws : List Wr) (t : Sp) : Mst := ws.foldl (fun M x => addM M x.key (Wr.ver x t)) M
theorem instM_snoc (M : Mst) (ws : List Wr) (x : Wr) (t : Sp) : instM M (ws ++ [x]) t = addM (instM M ws t) x.key (Wr.ver x t) := by simp [instM]
/-- what Install answers -/
def instE (M : Mst) (ws : List Wr) (t : Sp) : Int := if decide (t.a < 18446744073709551615) then (if writesOk ws then (if ws.all (freeB M t) then 0 else 91) else 1) else 11
/-- the store behind it -/
def instR (M : Mst) (ws : List Wr) (t : Sp) : Mst := if instE M ws t = 0 then instM M ws t else M
theorem free_over {M : Mst} {t : Sp} {x : Wr} : freeB M t x = true ↔ Over M x.key t := by
  unfold freeB Over
  cases hg : getX M x.key with
  | none => simp
  | some cs => simp [List.all_eq_true]
/-- keys that were not written yet are as they were -/
theorem inst_get {M : Mst} (h : Rising M) : ∀ (ws : List Wr) (t : Sp) (k : ByteArray), (∀ x ∈ ws, x.key ≠ k) → getX (instM M ws t) k = getX M k ∧ Rising (instM M ws t) := by
  intro ws t k
  induction ws using snoc_ind with
  | nil => intro _; exact ⟨rfl, h⟩
  | snoc ws x ih =>
    intro hk
    obtain ⟨ih1, ih2⟩ := ih fun y hy => hk y (by simp [hy])
    rw [instM_snoc]
    refine ⟨?_, addM_rising ih2 _ _⟩
    rw [← ih1]
    have hmem : ∀ cs, (k, cs) ∈ addM (instM M ws t) x.key (Wr.ver x t) ↔ (k, cs) ∈ instM M ws t := fun cs => by
      unfold addM
      rw [setX_mem ih2]
      constructor
      · rintro (e | ⟨h, _⟩)
        · injection e with e _; exact absurd e.symm (hk x (by simp))
        · exact h
      · intro h; exact .inr ⟨h, fun e => hk x (by simp) e.symm⟩
    cases hg : getX (instM M ws t) k with
    | none => exact getX_none.2 fun cs hc => getX_none.1 hg cs ((hmem cs).1 hc)
    | some cs => exact (getX_some (addM_rising ih2 _ _)).2 ((hmem cs).2 ((getX_some ih2).1 hg))
/-- valid writes: the keys rise -/
theorem writes_rise {ws : List Wr} (h : writesOk ws = true) : ws.Pairwise fun x y => lt x.key y.key = true := by
  have hall : ∀ n, n ≤ ws.length → allB (writeAt ws) n = true → (ws.take n).Pairwise fun x y => lt x.key y.key = true := by
    intro n
    induction n with
    | zero => intro _ _; simp
    | succ n ih =>
      intro hn ha
      rw [allB, Bool.and_eq_true] at ha
      have h1 := ih (by omega) ha.1
      rw [nthW_take (by omega : n < ws.length)]
      refine List.pairwise_append.2 ⟨h1, List.pairwise_singleton _ _, fun a ha' b hb => ?_⟩
      simp at hb; subst hb
      have h2 : lt (prevW ws n) (nthW ws n).key = true := by
        have := ha.2; rw [writeAt_eq, Bool.and_eq_true] at this; exact this.2
      cases n with
      | zero => simp at ha'
      | succ n =>
        rw [prevW_succ] at h2
        rw [nthW_take (by omega : n < ws.length)] at ha' h1
        rcases List.mem_append.1 ha' with h3 | h3
        · exact lt_trans ((List.pairwise_append.1 h1).2.2 a h3 _ (by simp)) h2
        · simp at h3; subst h3; exact h2
  have := hall ws.length (Nat.le_refl _) (by unfold writesOk at h; rw [Bool.and_eq_true] at h; exact h.2)
  rwa [List.take_of_length_le (Nat.le_refl _)] at this
theorem writes_len {ws : List Wr} (h : writesOk ws = true) : ws.length ≤ 16 := by
  unfold writesOk at h; rw [Bool.and_eq_true] at h; simpa using h.1
/-- the next one may be laid too -/
theorem inst_over {M : Mst} (hM : Rising M) {ws : List Wr} (h : writesOk ws = true) {t : Sp} (ha : ws.all (freeB M t) = true) {i : Nat} (hi : i < ws.length) : Over (instM M (ws.take i) t) (nthW ws i).key t := by
  have hr := writes_rise h
  have hm : nthW ws i ∈ ws := by simp [nthW, hi]
  have h1 := free_over.1 (List.all_eq_true.1 ha _ hm)
  have h2 := (inst_get hM (ws.take i) t (nthW ws i).key (fun x hx => by
    have hsp : ws.take (i + 1) = ws.take i ++ [nthW ws i] := nthW_take hi
    have hp := List.Pairwise.sublist (List.take_sublist (i + 1) ws) hr
    rw [hsp] at hp
    exact lt_ne ((List.pairwise_append.1 hp).2.2 x hx _ (by simp)))).1
  unfold Over at h1 ⊢
  rw [h2]; exact h1
theorem instM_count {M : Mst} (h : Rising M) (ws : List Wr) (t : Sp) : countM (instM M ws t) = countM M + ws.length ∧ Rising (instM M ws t) := by
  induction ws using snoc_ind with
  | nil => exact ⟨by simp [instM], h⟩
  | snoc ws x ih => rw [instM_snoc]; exact ⟨by rw [countM_add ih.2, ih.1, List.length_append]; rfl, addM_rising ih.2 _ _⟩

theorem RowW.onl {w w' : World} {F : Nat → Prop} {a : Option Addr} {xs : List Wr} (h : RowW w a xs) (ho : Onl F w w') (hF : ∀ b off, a = some ⟨b, off, none⟩ → ¬ F b) : RowW w' a xs := fun i hi => by
  obtain ⟨b, off, e, h0, h1, h2⟩ := h i hi
  exact ⟨b, off, e, ho.cell (hF b off e) h0, ho.cell (hF b off e) h1, ho.cell (hF b off e) h2⟩
end Go.Proofs.YtmlacdfdpdkdaaaDoor.Vs
/- Plain: all versions, by key and stamp. -/
namespace Go.Proofs.YtmlacdfdpdkdaaaDoor.Vs
set_option linter.unusedVariables false

abbrev Kv := ByteArray × Ver
/-- may e stand behind d? -/
def folB (d e : Kv) : Bool := if d.1 = e.1 then d.2.s.lt e.2.s else lt d.1 e.1
theorem fol_irr (d : Kv) : folB d d = false := by unfold folB; rw [if_pos rfl]; exact Sp.irr _
theorem fol_trans {c d e : Kv} (h : folB c d = true) (k : folB d e = true) : folB c e = true := by
  unfold folB at *
  split at h
  · rename_i e1
    split at k
    · rename_i e2; rw [if_pos (e1.trans e2)]; exact Sp.trans h k
    · rename_i e2; rw [if_neg (by rw [e1]; exact e2), e1]; exact k
  · rename_i e1
    split at k
    · rename_i e2; rw [if_neg (by rw [← e2]; exact e1), ← e2]; exact h
    · have := lt_trans h k
      rw [if_neg (lt_ne this)]; exact this
theorem fol_ext : ∀ {l m : List Kv}, l.Pairwise (fun x y => folB x y = true) → m.Pairwise (fun x y => folB x y = true) → (∀ e, e ∈ l ↔ e ∈ m) → l = m
  | [], [], _, _, _ => rfl
  | [], y :: m, _, _, h => absurd ((h y).2 (List.mem_cons_self ..)) (by simp)
  | x :: l, [], _, _, h => absurd ((h x).1 (List.mem_cons_self ..)) (by simp)
  | x :: l, y :: m, hl, hm, h => by
    have hl' := List.pairwise_cons.1 hl
    have hm' := List.pairwise_cons.1 hm
    have hxy : x = y := by
      rcases List.mem_cons.1 ((h x).1 (List.mem_cons_self ..)) with e | e
      · exact e
      · rcases List.mem_cons.1 ((h y).2 (List.mem_cons_self ..)) with e' | e'
        · exact e'.symm
        · exact absurd (fol_trans (hm'.1 x e) (hl'.1 y e')) (by rw [fol_irr]; decide)
    subst hxy
    congr 1
    refine fol_ext hl'.2 hm'.2 fun e => ⟨fun he => ?_, fun he => ?_⟩
    · rcases List.mem_cons.1 ((h e).1 (List.mem_cons_of_mem _ he)) with e1 | e1
      · subst e1; exact absurd (hl'.1 _ he) (by rw [fol_irr]; decide)
      · exact e1
    · rcases List.mem_cons.1 ((h e).2 (List.mem_cons_of_mem _ he)) with e1 | e1
      · subst e1; exact absurd (hm'.1 _ he) (by rw [fol_irr]; decide)
      · exact e1
/-- all versions of a store -/
def dumpM (M : Mst) : List Kv := M.flatMap fun e => e.2.map fun v => (e.1, v)
theorem dump_len (M : Mst) : (dumpM M).length = countM M := by
  induction M with
  | nil => rfl
  | cons x M ih => simp only [dumpM, List.flatMap_cons, List.length_append, List.length_map, countM, List.map_cons, List.sum_cons] at ih ⊢; omega
theorem dump_mem {M : Mst} {k : ByteArray} {v : Ver} : (k, v) ∈ dumpM M ↔ ∃ cs, (k, cs) ∈ M ∧ v ∈ cs := by
  unfold dumpM
  rw [List.mem_flatMap]
  constructor
  · rintro ⟨⟨k', cs⟩, h, e⟩
    obtain ⟨u, hu, e⟩ := List.mem_map.1 e
    injection e with e1 e2
    subst e1 e2
    exact ⟨cs, h, hu⟩
  · rintro ⟨cs, h, hv⟩
    exact ⟨(k, cs), h, List.mem_map.2 ⟨v, hv, rfl⟩⟩
theorem dump_sorted {M : Mst} (h : Good M) : (dumpM M).Pairwise fun x y => folB x y = true := by
  obtain ⟨hr, hc⟩ := h
  induction M with
  | nil => exact List.Pairwise.nil
  | cons x M ih =>
    have h' := List.pairwise_cons.1 hr
    show (x.2.map (fun v => (x.1, v)) ++ dumpM M).Pairwise _
    refine List.pairwise_append.2 ⟨?_, ih h'.2 (fun e he => hc e (by simp [he])), ?_⟩
    · rw [List.pairwise_map]
      refine (hc x (by simp)).2.imp fun {a b} hab => ?_
      unfold folB; rw [if_pos rfl]; exact hab
    · intro a ha b hb
      obtain ⟨u, _, rfl⟩ := List.mem_map.1 ha
      obtain ⟨k, v⟩ := b
      obtain ⟨cs, hcs, _⟩ := dump_mem.1 hb
      have := h'.1 _ hcs
      unfold folB; rw [if_neg (lt_ne this)]; exact this
/-- the versions of one key -/
def chainOf (l : List Kv) (k : ByteArray) : Chain := (l.filter fun e => decide (e.1 = k)).map (·.2)
theorem chainOf_append (l m : List Kv) (k : ByteArray) : chainOf (l ++ m) k = chainOf l k ++ chainOf m k := by simp [chainOf]
theorem chainOf_same (cs : Chain) (k : ByteArray) : chainOf (cs.map fun v => (k, v)) k = cs := by
  unfold chainOf
  rw [List.filter_eq_self.2 (fun e he => by obtain ⟨u, _, rfl⟩ := List.mem_map.1 he; simp), List.map_map]
  exact List.map_id _
theorem chainOf_none {l : List Kv} {k : ByteArray} (h : ∀ e ∈ l, e.1 ≠ k) : chainOf l k = [] := by
  unfold chainOf
  rw [List.filter_eq_nil_iff.2 (fun e he => by simpa using h e he)]; rfl
theorem dump_chain {M : Mst} (h : Good M) (k : ByteArray) (cs : Chain) : (k, cs) ∈ M ↔ cs ≠ [] ∧ chainOf (dumpM M) k = cs := by
  obtain ⟨hr, hc⟩ := h
  induction M with
  | nil =>
    constructor
    · intro h; cases h
    · rintro ⟨h1, h2⟩; exact absurd h2.symm h1
  | cons x M ih =>
    have h' := List.pairwise_cons.1 hr
    have hc' : ∀ e ∈ M, e.2 ≠ [] ∧ Ris e.2 := fun e he => hc e (by simp [he])
    have hd : chainOf (dumpM (x :: M)) k = chainOf (x.2.map fun v => (x.1, v)) k ++ chainOf (dumpM M) k := by
      show chainOf (x.2.map (fun v => (x.1, v)) ++ dumpM M) k = _
      rw [chainOf_append]
    rw [hd, List.mem_cons]
    by_cases hk : k = x.1
    · subst hk
      have h0 : chainOf (dumpM M) x.1 = [] := chainOf_none fun e he e1 => by
        obtain ⟨k', v⟩ := e
        obtain ⟨cs', hcs, _⟩ := dump_mem.1 he
        exact lt_ne (h'.1 _ hcs) e1.symm
      rw [chainOf_same, h0, List.append_nil]
      constructor
      · rintro (e | e)
        · rw [← e]; exact ⟨by have := (hc x (by simp)).1; rw [← e] at this; exact this, rfl⟩
        · exact absurd (h'.1 _ e) (by rw [lt_irrefl]; decide)
      · rintro ⟨_, rfl⟩; exact .inl rfl
    · have h0 : chainOf (x.2.map fun v => (x.1, v)) k = [] := chainOf_none fun e he e1 => by
        obtain ⟨u, _, rfl⟩ := List.mem_map.1 he
        exact hk e1.symm
      rw [h0, List.nil_append, ← ih h'.2 hc']
      constructor
      · rintro (e | e)
        · exact absurd (by rw [← e]) hk
        · exact e
      · exact .inr
theorem dump_inj {M N : Mst} (h : Good M) (k : Good N) (e : dumpM M = dumpM N) : M = N :=
  rising_ext h.rising k.rising fun x => by
    obtain ⟨a, cs⟩ := x
    rw [dump_chain h, dump_chain k, e]
theorem add_dump_mem {M : Mst} (h : Rising M) {k : ByteArray} {v : Ver} (e : Kv) : e ∈ dumpM (addM M k v) ↔ e = (k, v) ∨ e ∈ dumpM M := by
  obtain ⟨k', u⟩ := e
  rw [dump_mem, dump_mem]
  have hmem : ∀ cs, (k', cs) ∈ addM M k v ↔ (k', cs) = (k, (getX M k).getD [] ++ [v]) ∨ ((k', cs) ∈ M ∧ k' ≠ k) := fun cs => setX_mem h _ _ _
  constructor
  · rintro ⟨cs, hc, hu⟩
    rcases (hmem cs).1 hc with e | ⟨hc, _⟩
    · injection e with e1 e2
      subst e1 e2
      rcases List.mem_append.1 hu with hu | hu
      · cases hg : getX M k' with
        | none => rw [hg] at hu; cases hu
        | some cs => rw [hg] at hu; exact .inr ⟨cs, (getX_some h).1 hg, hu⟩
      · simp at hu; subst hu; exact .inl rfl
    · exact .inr ⟨cs, hc, hu⟩
  · rintro (e | ⟨cs, hc, hu⟩)
    · injection e with e1 e2
      subst e1 e2
      exact ⟨_, (hmem _).2 (.inl rfl), by simp⟩
    · by_cases hk : k' = k
      · subst hk
        refine ⟨_, (hmem _).2 (.inl rfl), ?_⟩
        rw [(getX_some h).2 hc]; simp [hu]
      · exact ⟨cs, (hmem cs).2 (.inr ⟨hc, hk⟩), hu⟩
/-- one more behind all others -/
theorem over_fol {M : Mst} (h : Rising M) {e : Kv} (ha : ∀ d ∈ dumpM M, folB d e = true) : Over M e.1 e.2.s := fun cs hg u hu => by
  have := ha (e.1, u) (dump_mem.2 ⟨cs, (getX_some h).1 hg, hu⟩)
  unfold folB at this; rw [if_pos rfl] at this; exact this
theorem add_last {M : Mst} (h : Good M) {e : Kv} (ha : ∀ d ∈ dumpM M, folB d e = true) : dumpM (addM M e.1 e.2) = dumpM M ++ [e] := by
  have ho := over_fol h.rising ha
  refine fol_ext (dump_sorted (h.add ho)) ?_ fun x => ?_
  · exact List.pairwise_append.2 ⟨dump_sorted h, List.pairwise_singleton _ _, fun a ha' b hb => by simp at hb; subst hb; exact ha a ha'⟩
  · rw [add_dump_mem h.rising, List.mem_append, List.mem_singleton]; exact ⟨fun h => h.elim .inr .inl, fun h => h.elim .inr .inl⟩

/-! ### what joins a list -/
/-- what stands in the list ahead of place k of l, once e came -/
def amD (l : List Kv) (e : Kv) : Bool := l.any fun d => folB e d
def amL (l : List Kv) (e : Kv) : List Kv := l.filter (fun d => !folB e d) ++ (if amD l e then [e] else []) ++ l.filter (fun d => folB e d)
def amX (l : List Kv) (e : Kv) : List Kv := l.filter (fun d => !folB e d) ++ [e] ++ l.filter (fun d => folB e d)
theorem amX_mem (l : List Kv) (e x : Kv) : x ∈ amX l e ↔ x = e ∨ x ∈ l := by
  unfold amX
  simp only [List.mem_append, List.mem_filter, List.mem_singleton]
  cases folB e x <;> simp [or_comm]
theorem amX_sorted {l : List Kv} (h : l.Pairwise fun x y => folB x y = true) {e : Kv} (ht : ∀ d ∈ l, folB e d = false → folB d e = true) : (amX l e).Pairwise fun x y => folB x y = true := by
  unfold amX
  refine List.pairwise_append.2 ⟨List.pairwise_append.2 ⟨h.filter _, List.pairwise_singleton _ _, ?_⟩, h.filter _, ?_⟩
  · intro a ha b hb
    simp at hb; subst hb
    have := List.mem_filter.1 ha
    exact ht a this.1 (by simpa using this.2)
  · intro a ha b hb
    have hb' := (List.mem_filter.1 hb).2
    rcases List.mem_append.1 ha with ha | ha
    · have := List.mem_filter.1 ha
      exact fol_trans (ht a this.1 (by simpa using this.2)) hb'
    · simp at ha; subst ha; exact hb'
theorem fol_total (d e : Kv) (h : d.1 = e.1 → d.2.s.lt e.2.s = true) : folB e d = false → folB d e = true := by
  intro he
  by_cases hk : d.1 = e.1
  · unfold folB; rw [if_pos hk]; exact h hk
  · unfold folB at he ⊢
    rw [if_neg (fun e' => hk e'.symm)] at he
    rw [if_neg hk]
    rcases lt_tri d.1 e.1 with h | h | h
    · exact absurd h hk
    · exact h
    · rw [h] at he; cases he
theorem add_among {M : Mst} (h : Good M) {e : Kv} (ho : Over M e.1 e.2.s) : dumpM (addM M e.1 e.2) = amX (dumpM M) e := by
  refine fol_ext (dump_sorted (h.add ho)) (amX_sorted (dump_sorted h) fun d hd => fol_total d e fun hk => ?_) fun x => ?_
  · obtain ⟨k, u⟩ := d
    obtain ⟨cs, hc, hu⟩ := dump_mem.1 hd
    simp only at hk
    subst hk
    exact ho cs ((getX_some h.rising).2 hc) u hu
  · rw [add_dump_mem h.rising, amX_mem]
/-- the list that among has made of the first ones (they are in order) -/
theorem amL_nil (e : Kv) : amL [] e = [] := rfl
theorem amD_snoc (l : List Kv) (d e : Kv) : amD (l ++ [d]) e = (amD l e || folB e d) := by simp [amD]
theorem amL_before {l : List Kv} {d e : Kv} (h : amD l e = false) (hd : folB e d = false) : amL (l ++ [d]) e = amL l e ++ [d] := by
  have hn : l.filter (fun d => folB e d) = [] := List.filter_eq_nil_iff.2 fun x hx => by
    unfold amD at h; have := List.any_eq_false.1 h x hx; simpa using this
  unfold amL
  rw [amD_snoc, h, hd, List.filter_append, List.filter_append, hn]
  simp [hd]
theorem amL_here {l : List Kv} {d e : Kv} (h : amD l e = false) (hd : folB e d = true) : amL (l ++ [d]) e = amL l e ++ [e] ++ [d] := by
  have hn : l.filter (fun d => folB e d) = [] := List.filter_eq_nil_iff.2 fun x hx => by
    unfold amD at h; have := List.any_eq_false.1 h x hx; simpa using this
  unfold amL
  rw [amD_snoc, h, hd, List.filter_append, List.filter_append, hn]
  simp [hd]
theorem amL_behind {l : List Kv} {d e : Kv} (h : amD l e = true) (hd : folB e d = true) : amL (l ++ [d]) e = amL l e ++ [d] := by
  unfold amL
  rw [amD_snoc, h, List.filter_append, List.filter_append]
  simp [hd]
theorem amL_end {l : List Kv} {e : Kv} : amX l e = if amD l e then amL l e else amL l e ++ [e] := by
  cases h : amD l e with
  | true => unfold amL amX; rw [h]; rfl
  | false =>
    have hn : l.filter (fun d => folB e d) = [] := List.filter_eq_nil_iff.2 fun x hx => by
      unfold amD at h; have := List.any_eq_false.1 h x hx; simpa using this
    unfold amL amX
    rw [h, hn]; simp
/-- once it came, all that follow are behind it -/
theorem amD_behind {l : List Kv} {d e : Kv} (hs : (l ++ [d]).Pairwise fun x y => folB x y = true) (h : amD l e = true) : folB e d = true := by
  obtain ⟨x, hx, hxe⟩ := List.any_eq_true.1 h
  exact fol_trans hxe ((List.pairwise_append.1 hs).2.2 x hx d (by simp))
theorem amL_len (l : List Kv) (e : Kv) : (amL l e).length ≤ l.length + 1 := by
  have h1 : (l.filter (fun d => !folB e d)).length + (l.filter (fun d => folB e d)).length = l.length := by
    induction l with
    | nil => rfl
    | cons x l ih => simp only [List.filter_cons]; cases folB e x <;> simp at ih ⊢ <;> omega
  unfold amL
  rw [List.length_append, List.length_append]
  split <;> simp <;> omega
theorem amX_len (l : List Kv) (e : Kv) : (amX l e).length = l.length + 1 := by
  have h1 : (l.filter (fun d => !folB e d)).length + (l.filter (fun d => folB e d)).length = l.length := by
    induction l with
    | nil => rfl
    | cons x l ih => simp only [List.filter_cons]; cases folB e x <;> simp at ih ⊢ <;> omega
  unfold amX
  rw [List.length_append, List.length_append, List.length_singleton]; omega

/-! ### Load -/
def okV (e : Kv) : Bool := decide (e.2.s.a < 18446744073709551615) && wOk ⟨e.1, e.2.del, e.2.val⟩
def nthK (l : List Kv) (i : Nat) : Kv := (l[i]?).getD (⟨#[]⟩, ⟨⟨0, 0, 0⟩, false, ⟨#[]⟩⟩)
theorem nthK_get {l : List Kv} {i : Nat} (h : i < l.length) : nthK l i = l[i] := by simp [nthK, h]
theorem nthK_mem {l : List Kv} {i : Nat} (h : i < l.length) : nthK l i ∈ l := by rw [nthK_get h]; exact List.getElem_mem h
theorem nthK_take {l : List Kv} {i : Nat} (h : i < l.length) : l.take (i + 1) = l.take i ++ [nthK l i] := by rw [List.take_succ_eq_append_getElem h, nthK_get h]
/-- what is found at place i -/
def ldS (l : List Kv) (i : Nat) : Int := if okV (nthK l i) then (if i = 0 ∨ folB (nthK l (i - 1)) (nthK l i) = true then 0 else 91) else 1
def ldF (l : List Kv) : Nat → Int
  | 0 => 0
  | k + 1 => if ldF l k = 0 then ldS l k else ldF l k
def ldE (l : List Kv) : Int := ldF l l.length
def loadM (l : List Kv) : Mst := l.foldl (fun M e => addM M e.1 e.2) []
theorem loadM_snoc (l : List Kv) (e : Kv) : loadM (l ++ [e]) = addM (loadM l) e.1 e.2 := by simp [loadM]
theorem ldS_ok {l : List Kv} {i : Nat} (h : ldS l i = 0) : okV (nthK l i) = true ∧ (i = 0 ∨ folB (nthK l (i - 1)) (nthK l i) = true) := by
  unfold ldS at h
  split at h
  · split at h
    · exact ⟨by assumption, by assumption⟩
    · cases h
  · cases h
theorem ld_stay {l : List Kv} {k : Nat} (h : ldF l k ≠ 0) : ∀ n, k ≤ n → ldF l n = ldF l k := by
  intro n hn
  induction n with
  | zero => obtain rfl : k = 0 := by omega
            rfl
  | succ n ih =>
    by_cases e : k = n + 1
    · rw [e]
    · have := ih (by omega)
      rw [ldF, this, if_neg h]
theorem ld_last {l : List Kv} {k : Nat} (h0 : ldF l k = 0) (h : ldS l k ≠ 0) (hk : k < l.length) : ldE l = ldS l k := by
  have e : ldF l (k + 1) = ldS l k := by rw [ldF, if_pos h0]
  unfold ldE
  rw [ld_stay (by rw [e]; exact h) _ (by omega : k + 1 ≤ l.length), e]
theorem sorted_snoc {l : List Kv} {d e : Kv} (h : (l ++ [d]).Pairwise fun x y => folB x y = true) (k : folB d e = true) : (l ++ [d] ++ [e]).Pairwise fun x y => folB x y = true :=
  List.pairwise_append.2 ⟨h, List.pairwise_singleton _ _, fun a ha b hb => by
    simp only [List.mem_singleton] at hb
    subst hb
    rcases List.mem_append.1 ha with ha | ha
    · exact fol_trans ((List.pairwise_append.1 h).2.2 a ha d (by simp)) k
    · simp only [List.mem_singleton] at ha; subst ha; exact k⟩
theorem ld_sorted {l : List Kv} : ∀ k, k ≤ l.length → ldF l k = 0 → (l.take k).Pairwise fun x y => folB x y = true
  | 0, _, _ => by simp
  | k + 1, hk, h => by
    have h0 : ldF l k = 0 := by
      rw [ldF] at h
      by_cases e : ldF l k = 0
      · exact e
      · rw [if_neg e] at h; exact h
    rw [ldF, if_pos h0] at h
    have ih := ld_sorted k (by omega) h0
    rw [nthK_take (by omega : k < l.length)]
    rcases (ldS_ok h).2 with rfl | hf
    · simp
    · cases k with
      | zero => simp
      | succ k =>
        rw [nthK_take (by omega : k < l.length)] at ih ⊢
        exact sorted_snoc ih hf
theorem load_is (l : List Kv) (h : l.Pairwise fun x y => folB x y = true) : Good (loadM l) ∧ dumpM (loadM l) = l := by
  induction l using snoc_ind with
  | nil => exact ⟨Good.nil, rfl⟩
  | snoc l e ih =>
    have h' := List.pairwise_append.1 h
    obtain ⟨ih1, ih2⟩ := ih h'.1
    have ha : ∀ d ∈ dumpM (loadM l), folB d e = true := fun d hd => by rw [ih2] at hd; exact h'.2.2 d hd e (by simp)
    rw [loadM_snoc]
    exact ⟨ih1.add (over_fol ih1.rising ha), by rw [add_last ih1 ha, ih2]⟩
theorem load_over {l : List Kv} {e : Kv} (h : (l ++ [e]).Pairwise fun x y => folB x y = true) : Over (loadM l) e.1 e.2.s := by
  have h' := List.pairwise_append.1 h
  obtain ⟨ih1, ih2⟩ := load_is l h'.1
  exact over_fol ih1.rising fun d hd => by rw [ih2] at hd; exact h'.2.2 d hd e (by simp)
theorem load_count {l : List Kv} (h : l.Pairwise fun x y => folB x y = true) : countM (loadM l) = l.length := by rw [← dump_len, (load_is l h).2]
theorem load_dump {M : Mst} (h : Good M) : loadM (dumpM M) = M := by
  obtain ⟨h1, h2⟩ := load_is (dumpM M) (dump_sorted h)
  exact dump_inj h1 h h2
theorem sorted_at {l : List Kv} (h : l.Pairwise fun x y => folB x y = true) {i j : Nat} (hij : i < j) (hj : j < l.length) : folB (nthK l i) (nthK l j) = true := by
  rw [nthK_get hj, nthK_get (by omega)]
  exact List.pairwise_iff_getElem.1 h i j (by omega) hj hij
theorem ld_ok {l : List Kv} (h : l.Pairwise fun x y => folB x y = true) (hk : ∀ e ∈ l, okV e = true) : ldE l = 0 := by
  have : ∀ k, k ≤ l.length → ldF l k = 0 := by
    intro k
    induction k with
    | zero => intro _; rfl
    | succ k ih =>
      intro hk'
      rw [ldF, if_pos (ih (by omega)), ldS, if_pos (hk _ (nthK_mem (by omega))), if_pos]
      by_cases e : k = 0
      · exact .inl e
      · exact .inr (sorted_at h (by omega) (by omega))
  exact this _ (Nat.le_refl _)
theorem fol_asymm {d e : Kv} (h : folB d e = true) : folB e d = false := by
  cases hb : folB e d with
  | false => rfl
  | true => exact absurd (fol_trans h hb) (by rw [fol_irr]; decide)
theorem ld_round {l : List Kv} (h : l.Pairwise fun x y => folB x y = true) (hk : ∀ e ∈ l, okV e = true) (h2 : 2 ≤ l.length) : ldE l.reverse = 91 := by
  have hl : l.reverse.length = l.length := List.length_reverse
  have hok : ∀ i, i < l.length → okV (nthK l.reverse i) = true := fun i hi => hk _ (by have := nthK_mem (l := l.reverse) (i := i) (by omega); simpa using this)
  have e0 : nthK l.reverse 0 = nthK l (l.length - 1) := by
    rw [nthK_get (by omega), nthK_get (by omega), List.getElem_reverse]; congr 1
  have e1 : nthK l.reverse 1 = nthK l (l.length - 2) := by
    rw [nthK_get (by omega), nthK_get (by omega), List.getElem_reverse]; congr 1
  have f0 : ldF l.reverse 1 = 0 := by
    show (if (0 : Int) = 0 then ldS l.reverse 0 else 0) = 0
    rw [if_pos rfl, ldS, if_pos (hok 0 (by omega)), if_pos (.inl rfl)]
  have hs : ldS l.reverse 1 = 91 := by
    rw [ldS, if_pos (hok 1 (by omega)), if_neg]
    rintro (e | e)
    · cases e
    · rw [show 1 - 1 = 0 from rfl, e0, e1] at e
      rw [fol_asymm (sorted_at h (i := l.length - 2) (j := l.length - 1) (by omega) (by omega))] at e
      cases e
  rw [ld_last f0 (by rw [hs]; decide) (by omega), hs]
/-- all versions of a store may stand -/
def OkM (M : Mst) : Prop := ∀ e ∈ dumpM M, okV e = true
theorem OkM.add {M : Mst} (h : OkM M) (hr : Rising M) {k : ByteArray} {v : Ver} (hv : okV (k, v) = true) : OkM (addM M k v) := fun e he => by
  rcases (add_dump_mem hr e).1 he with rfl | he
  · exact hv
  · exact h e he
end Go.Proofs.YtmlacdfdpdkdaaaDoor.Vs
namespace Go.Proofs.YtmlacdfdpdkdaaaDoor.Vs
open Go.RowKit Go.Sort
set_option linter.unusedVariables false

theorem free_none {M : Mst} {t : Sp} {x : Wr} (h : getX M x.key = none) : freeB M t x = true := by unfold freeB; rw [h]; rfl
theorem free_some {M : Mst} {t : Sp} {x : Wr} {cs : Chain} {m : Nat} (h : getX M x.key = some cs) (hr : Ris cs) (hl : cs.length = m + 1) : freeB M t x = (nthV cs m).s.lt t := by
  unfold freeB; rw [h]
  have hsp : cs = cs.take m ++ [nthV cs m] := by
    rw [← nthV_take (by omega : m < cs.length), List.take_of_length_le (by omega)]
  rw [Bool.eq_iff_iff]
  show (cs.all fun u => u.s.lt t) = true ↔ _
  rw [List.all_eq_true]
  constructor
  · intro hall; exact hall _ (by simp [nthV, hl])
  · intro hlt
    rw [hsp] at hr ⊢
    have : nthV (cs.take m ++ [nthV cs m]) m = nthV cs m := by rw [← hsp]
    exact over_last hr hlt
theorem hdv_none : hdv none = .slice none 0 0 := rfl
theorem all_snoc {ws : List Wr} {f : Wr → Bool} {i : Nat} (h : i < ws.length) : (ws.take (i + 1)).all f = ((ws.take i).all f && f (nthW ws i)) := by rw [nthW_take h]; simp
theorem all_false {ws : List Wr} {f : Wr → Bool} {i : Nat} (h : i < ws.length) (hf : f (nthW ws i) = false) : ws.all f = false := by
  rw [List.all_eq_false]; exact ⟨nthW ws i, by simp [nthW, h], by simp [hf]⟩

theorem usable_at {t : Sp} {u : Bool} (hu : decide (t.a < 18446744073709551615) = u) (W : World) : Calls Tryd.prog 12 #[sv t] W fun e w' => e = .returned (.bool u) ∧ Below W.heap.size W w' := by
  have h := usable_is (a := t.a) (b := t.b) (c := t.c) W
  rw [hu] at h; exact h

set_option maxHeartbeats 2000000 in
set_option maxRecDepth 16000 in
theorem installG_is {F : Nat → Prop} {w : World} {p o : Nat} {ty : TypeId} {M : Mst} {mk : Sp} {a : Option Addr} {c : Nat} {ws : List Wr} (t : Sp) (h : StoG F w p o ty M mk) (hr : RowW w a ws) (hF : ∀ b off, a = some ⟨b, off, none⟩ → ¬ F b)
    (hl : ws.length ≤ 1152921504606846976) (hn : (countM M + 17) * 64 ≤ 140737488355328) :
    Calls Tryd.prog 5 #[.pointer (some ⟨p, o, none⟩), .slice a ws.length c, sv t] w fun e w' => e = .returned (.int .i64 (instE M ws t)) ∧ ∃ F', StoG F' w' p o ty (instR M ws t) mk ∧ (∀ b, F' b → F b ∨ w.heap.size ≤ b) ∧ Onl F w w' ∧ Part p o 1 w w' := by
  have hb0 : Below w.heap.size w (w.alloc (.cells #[.int .u64 t.a, .int .u32 t.b, .int .u32 t.c] 33)) := Below.al (Below.refl _ _) _
  have ka : (w.alloc (.cells #[.int .u64 t.a, .int .u32 t.b, .int .u32 t.c] 33)).heap[w.heap.size]? = some (.cells #[.int .u64 t.a, .int .u32 t.b, .int .u32 t.c] 33 (0, 0)) := World.alloc_heap_new _ _
  obtain ⟨wa, hwa⟩ : ∃ wa, wa = w.alloc (.cells #[.int .u64 t.a, .int .u32 t.b, .int .u32 t.c] 33) := ⟨_, rfl⟩
  rw [← hwa] at hb0 ka
  have a0 : wa.cell? ⟨w.heap.size, 0, none⟩ = some (.int .u64 t.a) := cell_of_obj ka rfl
  have a1 : wa.cell? ⟨w.heap.size, 1, none⟩ = some (.int .u32 t.b) := cell_of_obj ka rfl
  have a2 : wa.cell? ⟨w.heap.size, 2, none⟩ = some (.int .u32 t.c) := cell_of_obj ka rfl
  have hA := h.later hb0
  have hrA := hr.later hb0
  have hnb : ¬ F w.heap.size := fun hf => Nat.lt_irrefl _ (h.lt hf)
  have H0 := hid (show StoG F wa p o ty M mk ∧ RowW wa a ws ∧ Below w.heap.size w wa ∧ ¬ F w.heap.size from ⟨hA, hrA, hb0, hnb⟩)
  have HF := hid hF
  have HN := hid hn
  have hq : ∀ w', Below wa.heap.size wa w' → instE M ws t ≠ 0 → ∃ F', StoG F' w' p o ty (instR M ws t) mk ∧ (∀ b, F' b → F b ∨ w.heap.size ≤ b) ∧ Onl F w w' ∧ Part p o 1 w w' := fun w' hb hne => by
    unfold instR; rw [if_neg hne]
    exact ⟨F, hA.later hb, fun b hb => .inl hb, Onl.of_below (Below.on hb0 hb), Part.below (Below.on hb0 hb)⟩
  have HQ := hid hq
  clear hA hrA hb0 ka h hr hnb hF hn hq
  cases hu : decide (t.a < 18446744073709551615) with
  | false =>
    have HE : Hid (instE M ws t = 11) := by show _ = _; unfold instE; rw [hu]; rfl
    have U := hid (fun W => usable_at (t := t) hu W)
    clear hu
    go_enter Tryd.func5, Tryd.ntmps5
    go_wp2_with (first | (go_at_call 12; rw [← hwa]; refine (U.out _).mono ?_; rintro e w1 ⟨rfl, hb1⟩; clear hwa))
    go_ret
    exact ⟨by rw [HE.out]; rfl, HQ.out _ hb1 (by rw [HE.out]; decide)⟩
  | true =>
    have U := hid (fun W => usable_at (t := t) hu W)
    cases hv : writesOk ws with
    | false =>
      have HE : Hid (instE M ws t = 1) := by show _ = _; unfold instE; rw [hu, hv]; rfl
      have V := hid (fun W (hb : Below wa.heap.size wa W) => validWrites_is (c := c) hv (H0.out.2.1.later hb) (by omega))
      clear hu hv
      go_enter Tryd.func5, Tryd.ntmps5
      go_wp2_with (first
        | (go_at_call 12; rw [← hwa]; refine (U.out _).mono ?_; rintro e w1 ⟨rfl, hb1⟩; clear hwa)
        | (go_at_call 13; refine (V.out _ hb1).mono ?_; rintro e w2 ⟨rfl, hb2⟩))
      go_ret
      exact ⟨by rw [HE.out]; rfl, HQ.out _ (Below.on hb1 hb2) (by rw [HE.out]; decide)⟩
    | true =>
      have HEE : Hid (instE M ws t = if ws.all (freeB M t) then 0 else 91) := by show _ = _; unfold instE; rw [hu, hv]; rfl
      have V := hid (fun W (hb : Below wa.heap.size wa W) => validWrites_is (c := c) hv (H0.out.2.1.later hb) (by omega))
      have HV := hid hv
      clear hu hv
      go_enter Tryd.func5, Tryd.ntmps5
      go_wp2_with (first
        | (go_at_call 12; rw [← hwa]; refine (U.out _).mono ?_; rintro e w1 ⟨rfl, hb1⟩; clear hwa)
        | (go_at_call 13; refine (V.out _ hb1).mono ?_; rintro e w2 ⟨rfl, hb2⟩))
      have hb2' := hid (Below.on hb1 hb2)
      clear hb1 hb2 U V
      go_loopg [21] ws.length (fun g s21 wr => ∃ i : Nat, i ≤ ws.length ∧ g = ws.length - i ∧ s21 = .int .i64 i ∧ Hid (Below wa.heap.size wa wr) ∧ Hid ((ws.take i).all (freeB M t) = true))
      case atStart => exact ⟨0, by omega, by omega, rfl, hb2', rfl⟩
      case round =>
        obtain ⟨i, hi, rfl, rfl, HB, HA⟩ := hrel
        by_cases hlt : i < ws.length
        · obtain ⟨b, off, rfl, c0, c1, c2⟩ := (H0.out.2.1.later HB.out) i hlt
          obtain ⟨x, hx⟩ : ∃ x, x = nthW ws i := ⟨_, rfl⟩
          rw [← hx] at c0 c1 c2
          obtain ⟨m, hX, hm⟩ := H0.out.1
          have HS := hid (all_snoc (f := freeB M t) hlt)
          rw [← hx] at HS
          have HNO := hid (fun hf => all_false (f := freeB M t) hlt hf)
          rw [← hx] at HNO
          obtain ⟨xk, xd, xv⟩ := x
          simp only at c0 c1 c2
          obtain ⟨wb, hwb⟩ : ∃ wb, wb = wr.alloc (.cells #[.string xk, .bool xd, .string xv] 28) := ⟨_, rfl⟩
          have hbb : Below wa.heap.size wa wb := by rw [hwb]; exact Below.al HB.out _
          have kb : wb.heap[wr.heap.size]? = some (.cells #[.string xk, .bool xd, .string xv] 28 (0, 0)) := by rw [hwb]; exact World.alloc_heap_new _ _
          have x0 : wb.cell? ⟨wr.heap.size, 0, none⟩ = some (.string xk) := cell_of_obj kb rfl
          have hXb := hX.later hbb
          have kx0 := cell_regrown x0
          have ka0 := cell_regrown (cell_later hbb a0); have ka1 := cell_regrown (cell_later hbb a1); have ka2 := cell_regrown (cell_later hbb a2)
          have HBB := hid hbb
          cases hg : getX m xk with
          | none =>
            have HG : Hid (∀ W, Below wb.heap.size wb W → Calls Tryd.prog 14 #[.pointer (some ⟨p, o, none⟩), .string xk] W fun e w' => e = .returned (.tuple #[.slice none 0 0, .bool false]) ∧ Below W.heap.size W w') := fun W hb =>
              (get_is (hXb.xi.later hb) xk).mono fun e w' ⟨he, hw⟩ => ⟨by rw [he, gotX, hg]; rfl, by rw [hw]; exact Below.refl _ _⟩
            have HFR : Hid (freeB M t ⟨xk, xd, xv⟩ = true) := free_none (by rw [← hm, abs_get, hg]; rfl)
            clear hX hXb hg hx hbb kb
            go_wp2_with fail
            rw [← hwb]
            clear hwb
            refine wp_region_quiet_below (by kernel_rfl) (by kernel_rfl) ?_
            repeat (go_big_quiet_step ((go_at_call 14; exact Calls.regrown_of (HG.out _ (below_regrown _ _ _)))))
            refine wpQuiet_nil ?_
            intro w3 hw3
            replace hw3 := below_of_regrown hw3
            go_wp2_with fail
            refine wp_region_quiet_below (by kernel_rfl) (by kernel_rfl) ?_
            repeat (go_big_quiet_step (fail))
            refine wpQuiet_nil ?_
            intro w4 hw4
            replace hw4 := below_of_regrown hw4
            go_wp2_with fail
            go_roundg (ws.length - (i + 1))
            case measure => omega
            case rel => exact ⟨i + 1, by omega, rfl, by go_num, Below.on (Below.on HBB.out hw3) hw4, by show _ = _; rw [HS.out, HA.out, HFR.out]; rfl⟩
          | some hd =>
            have hmm := (getX_some hX.xi.rising).1 hg
            have hrow := hXb.row _ hmm
            have hch := hX.good.chain (xk, hd.vs) (List.mem_map.2 ⟨_, hmm, rfl⟩)
            have hlen : hd.vs.length = hd.n := hrow.len
            have hpos : 0 < hd.vs.length := List.length_pos_iff.2 hch.1
            obtain ⟨q, hq⟩ : ∃ q, hd.n = q + 1 := ⟨hd.n - 1, by omega⟩
            have hcnt : hd.vs.length ≤ countM M := by rw [← hm]; exact count_mem (e := (xk, hd.vs)) (List.mem_map.2 ⟨_, hmm, rfl⟩)
            have hnn : hd.n ≤ 1152921504606846976 := by have := HN.out; omega
            have hfr : freeB M t ⟨xk, xd, xv⟩ = (nthV hd.vs q).s.lt t := free_some (by rw [← hm, abs_get, hg]; rfl) hch.2 (by omega)
            have HL : Hid (∀ W, Below wb.heap.size wb W → _) := fun W hb => last_is (hrow.later hb) hq hnn
            have HG : Hid (∀ W, Below wb.heap.size wb W → Calls Tryd.prog 14 #[.pointer (some ⟨p, o, none⟩), .string xk] W fun e w' => e = .returned (.tuple #[.slice (some ⟨hd.g, 0, none⟩) hd.n hd.cap, .bool true]) ∧ Below W.heap.size W w') := fun W hb =>
              (get_is (hXb.xi.later hb) xk).mono fun e w' ⟨he, hw⟩ => ⟨by rw [he, gotX, hg]; rfl, by rw [hw]; exact Below.refl _ _⟩
            obtain ⟨s, hs⟩ : ∃ s, s = (nthV hd.vs q).s := ⟨_, rfl⟩
            rw [← hs] at hfr HL
            obtain ⟨g, n, cp, vs⟩ := hd
            simp only at HL HG
            cases hst : s.lt t with
            | true =>
              have hst' : lessB s.a s.b s.c t.a t.b t.c = true := hst
              have HFR : Hid (freeB M t ⟨xk, xd, xv⟩ = true) := hfr.trans hst
              clear hX hXb hg hx hbb kb hs hq hlen hpos hcnt hnn hmm hrow hch hfr hst
              go_wp2_with fail
              rw [← hwb]
              clear hwb
              refine wp_region_quiet_below (by kernel_rfl) (by kernel_rfl) ?_
              repeat (go_big_quiet_step ((go_at_call 14; exact Calls.regrown_of (HG.out _ (below_regrown _ _ _)))))
              refine wpQuiet_nil ?_
              intro w3 hw3
              replace hw3 := below_of_regrown hw3
              have la0 := cell_regrown (cell_later (Below.on HBB.out hw3) a0); have la1 := cell_regrown (cell_later (Below.on HBB.out hw3) a1); have la2 := cell_regrown (cell_later (Below.on HBB.out hw3) a2)
              clear ka0 ka1 ka2 kx0
              go_wp2_with fail
              refine wp_region_quiet_below (by kernel_rfl) (by kernel_rfl) ?_
              repeat (go_big_quiet_step (first | (go_at_call 16; exact Calls.regrown_of (HL.out _ (Below.on hw3 (below_regrown _ _ _)))) | (go_at_call 15; exact Calls.regrown_of (less_is (by assumption) _))))
              refine wpQuiet_nil ?_
              intro w4 hw4
              replace hw4 := below_of_regrown hw4
              go_wp2_with fail
              go_roundg (ws.length - (i + 1))
              case measure => omega
              case rel => exact ⟨i + 1, by omega, rfl, by go_num, Below.on (Below.on HBB.out hw3) hw4, by show _ = _; rw [HS.out, HA.out, HFR.out]; rfl⟩
            | false =>
              have hst' : lessB s.a s.b s.c t.a t.b t.c = false := hst
              have HE : Hid (instE M ws t = 91) := by show _ = _; rw [HEE.out, HNO.out (hfr.trans hst)]; rfl
              clear hX hXb hg hx hbb kb hs hq hlen hpos hcnt hnn hmm hrow hch hfr hst
              go_wp2_with fail
              rw [← hwb]
              clear hwb
              refine wp_region_quiet_below (by kernel_rfl) (by kernel_rfl) ?_
              repeat (go_big_quiet_step ((go_at_call 14; exact Calls.regrown_of (HG.out _ (below_regrown _ _ _)))))
              refine wpQuiet_nil ?_
              intro w3 hw3
              replace hw3 := below_of_regrown hw3
              have la0 := cell_regrown (cell_later (Below.on HBB.out hw3) a0); have la1 := cell_regrown (cell_later (Below.on HBB.out hw3) a1); have la2 := cell_regrown (cell_later (Below.on HBB.out hw3) a2)
              clear ka0 ka1 ka2 kx0
              go_wp2_with fail
              refine wp_region_quiet_below (by kernel_rfl) (by kernel_rfl) ?_
              repeat (go_big_quiet_step (first | (go_at_call 16; exact Calls.regrown_of (HL.out _ (Below.on hw3 (below_regrown _ _ _)))) | (go_at_call 15; exact Calls.regrown_of (less_is (by assumption) _))))
              refine wpQuiet_nil ?_
              intro w4 hw4
              replace hw4 := below_of_regrown hw4
              go_wp2_with fail
              go_ret
              exact ⟨by rw [HE.out]; rfl, HQ.out _ (Below.on (Below.on HBB.out hw3) hw4) (by rw [HE.out]; decide)⟩
        · obtain rfl : i = ws.length := by omega
          have HAL : Hid (ws.all (freeB M t) = true) := by show _ = _; have := HA.out; rwa [List.take_of_length_le (Nat.le_refl _)] at this
          have HE : Hid (instE M ws t = 0) := by show _ = _; rw [HEE.out, HAL.out]; rfl
          have HBr := hid HB.out
          clear HQ HEE HA
          go_wp2_with fail
          go_loopg [45] ws.length (fun g s45 wr => ∃ i : Nat, i ≤ ws.length ∧ g = ws.length - i ∧ s45 = .int .i64 i ∧ Hid (Onl F wa wr ∧ (∃ F', StoG F' wr p o ty (instM M (ws.take i) t) mk ∧ (∀ b, F' b → F b ∨ wa.heap.size ≤ b)) ∧ Part p o 1 wa wr))
          case atStart => exact ⟨0, by omega, by omega, rfl, ⟨Onl.of_below HBr.out, ⟨F, H0.out.1.later HBr.out, fun b hb => .inl hb⟩, Part.below HBr.out⟩⟩
          case round =>
            obtain ⟨i, hi, rfl, rfl, HI⟩ := hrel
            have a0' := HI.out.1.cell H0.out.2.2.2 a0
            have a1' := HI.out.1.cell H0.out.2.2.2 a1
            have a2' := HI.out.1.cell H0.out.2.2.2 a2
            by_cases hlt : i < ws.length
            · obtain ⟨b, off, hab, c0, c1, c2⟩ := (RowW.onl H0.out.2.1 HI.out.1 HF.out) i hlt
              obtain ⟨x, hx⟩ : ∃ x, x = nthW ws i := ⟨_, rfl⟩
              have hov := inst_over H0.out.1.good.rising HV.out HAL.out hlt
              have HT := hid (nthW_take hlt)
              rw [← hx] at c0 c1 c2 hov HT
              obtain ⟨xk, xd, xv⟩ := x
              simp only at c0 c1 c2 hov
              obtain ⟨F', hF', hFF⟩ := HI.out.2.1
              have hcnt := instM_count H0.out.1.good.rising (ws.take i) t
              have h16 := writes_len HV.out
              have hcb : (countM (instM M (ws.take i) t) + 1) * 64 ≤ 140737488355328 := by
                have h1 : countM (instM M (ws.take i) t) + 1 ≤ countM M + 17 := by rw [hcnt.1, List.length_take]; omega
                exact Nat.le_trans (Nat.mul_le_mul_right 64 h1) HN.out
              have HAD : Hid (∀ W, Below wr.heap.size wr W → _) := fun W hb => addG_is (hF'.later hb) (v := Wr.ver ⟨xk, xd, xv⟩ t) (k := xk) hov hcb
              have HNX : Hid (∀ W w', Below wr.heap.size wr W → Onl F' W w' → Onl F wa w') := fun W w' hb ho => (HI.out.1.on hb).fresh ho hFF
              have HPX : Hid (∀ W w', Below wr.heap.size wr W → Part p o 1 W w' → Part p o 1 wa w') := fun W w' hb ho => (HI.out.2.2.trans (Part.below hb)).trans ho
              have HFF := hid hFF
              have hws := HI.out.1.size
              subst hab
              have A0 : (wr.alloc (.cells #[.string xk, .bool xd, .string xv] 28)).cell? ⟨w.heap.size, 0, none⟩ = _ := cell_later (Below.al (Below.refl _ _) _) a0'
              have A1 : (wr.alloc (.cells #[.string xk, .bool xd, .string xv] 28)).cell? ⟨w.heap.size, 1, none⟩ = _ := cell_later (Below.al (Below.refl _ _) _) a1'
              have A2 : (wr.alloc (.cells #[.string xk, .bool xd, .string xv] 28)).cell? ⟨w.heap.size, 2, none⟩ = _ := cell_later (Below.al (Below.refl _ _) _) a2'
              clear a0' a1' a2'
              clear hx hov hcnt h16 hcb hF' hFF
              go_wp2_with ((go_at_call 17; refine (HAD.out _ (by (repeat (first | exact Below.refl _ _ | assumption | refine Below.drew ?_ | refine Below.al ?_ _ | refine Below.setCell ?_ (by first | exact Nat.le_refl _ | (simp; omega) | (simp; done)) _ | refine Below.on ?_ (by assumption))))).mono ?_; rintro e w5 ⟨⟨v0, rfl⟩, F2, s5, f5, o5, q5⟩))
              go_roundg (ws.length - (i + 1))
              case measure => omega
              case rel => exact ⟨i + 1, by omega, rfl, by go_num, ⟨HNX.out _ _ (by (repeat (first | exact Below.refl _ _ | assumption | refine Below.drew ?_ | refine Below.al ?_ _ | refine Below.setCell ?_ (by first | exact Nat.le_refl _ | (simp; omega) | (simp; done)) _ | refine Below.on ?_ (by assumption)))) o5, ⟨F2, by rw [HT.out, instM_snoc]; exact s5, fun b hb => (f5 b hb).elim (HFF.out b) (fun h => .inr (by simp at h; omega))⟩, HPX.out _ _ (by (repeat (first | exact Below.refl _ _ | assumption | refine Below.drew ?_ | refine Below.al ?_ _ | refine Below.setCell ?_ (by first | exact Nat.le_refl _ | (simp; omega) | (simp; done)) _ | refine Below.on ?_ (by assumption)))) q5⟩⟩
            · obtain rfl : i = ws.length := by omega
              go_wp2_with fail
              go_ret
              obtain ⟨ho, ⟨F', hF', hFF⟩, hpt⟩ := HI.out
              rw [List.take_of_length_le (Nat.le_refl _)] at hF'
              refine ⟨by rw [HE.out]; rfl, F', ?_, fun b hb => (hFF b hb).imp id (fun h => Nat.le_trans H0.out.2.2.1.size h), (Onl.of_below H0.out.2.2.1).trans ho, (Part.below H0.out.2.2.1).trans hpt⟩
              unfold instR; rw [if_pos HE.out]; exact hF'
theorem install_is {F : Nat → Prop} {w : World} {p : Nat} {M : Mst} {mk : Sp} {a : Option Addr} {c : Nat} {ws : List Wr} (t : Sp) (h : Sto F w p M mk) (hr : RowW w a ws) (hF : ∀ b off, a = some ⟨b, off, none⟩ → ¬ F b)
    (hl : ws.length ≤ 1152921504606846976) (hn : (countM M + 17) * 64 ≤ 140737488355328) :
    Calls Tryd.prog 5 #[pt p, .slice a ws.length c, sv t] w fun e w' => e = .returned (.int .i64 (instE M ws t)) ∧ ∃ F', Sto F' w' p (instR M ws t) mk ∧ (∀ b, F' b → F b ∨ w.heap.size ≤ b) ∧ Onl F w w' :=
  (installG_is t h hr hF hl hn).mono fun e w' ⟨h1, F', h2, h3, h4, _⟩ => ⟨h1, F', h2, h3, h4⟩
end Go.Proofs.YtmlacdfdpdkdaaaDoor.Vs
