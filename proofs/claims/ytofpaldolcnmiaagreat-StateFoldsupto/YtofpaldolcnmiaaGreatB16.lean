import Derived.Test.YtofpaldolcnmiaaGreatB15
set_option linter.unusedVariables false
namespace Go.Proofs.YtofpaldolcnmiaaGreat.Vs
open Go.RowKit Go.Sort
def Wr.ver (x : Wr) (t : Sp) : Ver := ⟨t, x.del, x.val⟩
def freeB (M : Mst) (t : Sp) (x : Wr) : Bool := ((getX M x.key).getD []).all fun u => u.s.lt t
def instM (M : Mst) (ws : List Wr) (t : Sp) : Mst := ws.foldl (fun M x => addM M x.key (Wr.ver x t)) M
theorem instM_snoc (M : Mst) (ws : List Wr) (x : Wr) (t : Sp) : instM M (ws ++ [x]) t = addM (instM M ws t) x.key (Wr.ver x t) := by simp [instM]
def instE (M : Mst) (ws : List Wr) (t : Sp) : Int := if decide (t.a < 18446744073709551615) then (if writesOk ws then (if ws.all (freeB M t) then 0 else 91) else 1) else 11
def instR (M : Mst) (ws : List Wr) (t : Sp) : Mst := if instE M ws t = 0 then instM M ws t else M
theorem free_over {M : Mst} {t : Sp} {x : Wr} : freeB M t x = true ↔ Over M x.key t := by
  unfold freeB Over
  cases hg : getX M x.key with
  | none => simp
  | some cs => simp [List.all_eq_true]
theorem inst_get {M : Mst} (h : Rising M) : ∀ (ws : List Wr) (t : Sp) (k : ByteArray), (∀ x ∈ ws, x.key ≠ k) → getX (instM M ws t) k = getX M k ∧ Rising (instM M ws t) := by
  intro ws t k
  induction ws using snoc_ind with
  | nil => intro _; exact ⟨rfl, h⟩
  | snoc ws x ih =>
    intro hk
    obtain ⟨ih1, ih2⟩ := ih fun y hy => hk y (by simp [hy])
    rw [instM_snoc]
    refine ⟨?_, addM_rising ih2 _ _⟩
    rw [← ih1]
    have hmem : ∀ cs, (k, cs) ∈ addM (instM M ws t) x.key (Wr.ver x t) ↔ (k, cs) ∈ instM M ws t := fun cs => by
      unfold addM
      rw [setX_mem ih2]
      constructor
      · rintro (e | ⟨h, _⟩)
        · injection e with e _; exact absurd e.symm (hk x (by simp))
        · exact h
      · intro h; exact .inr ⟨h, fun e => hk x (by simp) e.symm⟩
    cases hg : getX (instM M ws t) k with
    | none => exact getX_none.2 fun cs hc => getX_none.1 hg cs ((hmem cs).1 hc)
    | some cs => exact (getX_some (addM_rising ih2 _ _)).2 ((hmem cs).2 ((getX_some ih2).1 hg))
theorem writes_rise {ws : List Wr} (h : writesOk ws = true) : ws.Pairwise fun x y => lt x.key y.key = true := by
  have hall : ∀ n, n ≤ ws.length → allB (writeAt ws) n = true → (ws.take n).Pairwise fun x y => lt x.key y.key = true := by
    intro n
    induction n with
    | zero => intro _ _; simp
    | succ n ih =>
      intro hn ha
      rw [allB, Bool.and_eq_true] at ha
      have h1 := ih (by omega) ha.1
      rw [nthW_take (by omega : n < ws.length)]
      refine List.pairwise_append.2 ⟨h1, List.pairwise_singleton _ _, fun a ha' b hb => ?_⟩
      simp at hb; subst hb
      have h2 : lt (prevW ws n) (nthW ws n).key = true := by
        have := ha.2; rw [writeAt_eq, Bool.and_eq_true] at this; exact this.2
      cases n with
      | zero => simp at ha'
      | succ n =>
        rw [prevW_succ] at h2
        rw [nthW_take (by omega : n < ws.length)] at ha' h1
        rcases List.mem_append.1 ha' with h3 | h3
        · exact lt_trans ((List.pairwise_append.1 h1).2.2 a h3 _ (by simp)) h2
        · simp at h3; subst h3; exact h2
  have := hall ws.length (Nat.le_refl _) (by unfold writesOk at h; rw [Bool.and_eq_true] at h; exact h.2)
  rwa [List.take_of_length_le (Nat.le_refl _)] at this
theorem writes_len {ws : List Wr} (h : writesOk ws = true) : ws.length ≤ 16 := by
  unfold writesOk at h; rw [Bool.and_eq_true] at h; simpa using h.1
theorem inst_over {M : Mst} (hM : Rising M) {ws : List Wr} (h : writesOk ws = true) {t : Sp} (ha : ws.all (freeB M t) = true) {i : Nat} (hi : i < ws.length) : Over (instM M (ws.take i) t) (nthW ws i).key t := by
  have hr := writes_rise h
  have hm : nthW ws i ∈ ws := by simp [nthW, hi]
  have h1 := free_over.1 (List.all_eq_true.1 ha _ hm)
  have h2 := (inst_get hM (ws.take i) t (nthW ws i).key (fun x hx => by
    have hsp : ws.take (i + 1) = ws.take i ++ [nthW ws i] := nthW_take hi
    have hp := List.Pairwise.sublist (List.take_sublist (i + 1) ws) hr
    rw [hsp] at hp
    exact lt_ne ((List.pairwise_append.1 hp).2.2 x hx _ (by simp)))).1
  unfold Over at h1 ⊢
  rw [h2]; exact h1
theorem instM_count {M : Mst} (h : Rising M) (ws : List Wr) (t : Sp) : countM (instM M ws t) = countM M + ws.length ∧ Rising (instM M ws t) := by
  induction ws using snoc_ind with
  | nil => exact ⟨by simp [instM], h⟩
  | snoc ws x ih => rw [instM_snoc]; exact ⟨by rw [countM_add ih.2, ih.1, List.length_append]; rfl, addM_rising ih.2 _ _⟩
theorem RowW.onl {w w' : World} {F : Nat → Prop} {a : Option Addr} {xs : List Wr} (h : RowW w a xs) (ho : Onl F w w') (hF : ∀ b off, a = some ⟨b, off, none⟩ → ¬ F b) : RowW w' a xs := fun i hi => by
  obtain ⟨b, off, e, h0, h1, h2⟩ := h i hi
  exact ⟨b, off, e, ho.cell (hF b off e) h0, ho.cell (hF b off e) h1, ho.cell (hF b off e) h2⟩
end Go.Proofs.YtofpaldolcnmiaaGreat.Vs
namespace Go.Proofs.YtofpaldolcnmiaaGreat.Vs
abbrev Kv := ByteArray × Ver
def folB (d e : Kv) : Bool := if d.1 = e.1 then d.2.s.lt e.2.s else lt d.1 e.1
theorem fol_irr (d : Kv) : folB d d = false := by unfold folB; rw [if_pos rfl]; exact Sp.irr _
theorem fol_trans {c d e : Kv} (h : folB c d = true) (k : folB d e = true) : folB c e = true := by
  unfold folB at *
  split at h
  · rename_i e1
    split at k
    · rename_i e2; rw [if_pos (e1.trans e2)]; exact Sp.trans h k
    · rename_i e2; rw [if_neg (by rw [e1]; exact e2), e1]; exact k
  · rename_i e1
    split at k
    · rename_i e2; rw [if_neg (by rw [← e2]; exact e1), ← e2]; exact h
    · have := lt_trans h k
      rw [if_neg (lt_ne this)]; exact this
theorem fol_ext : ∀ {l m : List Kv}, l.Pairwise (fun x y => folB x y = true) → m.Pairwise (fun x y => folB x y = true) → (∀ e, e ∈ l ↔ e ∈ m) → l = m
  | [], [], _, _, _ => rfl
  | [], y :: m, _, _, h => absurd ((h y).2 (List.mem_cons_self ..)) (by simp)
  | x :: l, [], _, _, h => absurd ((h x).1 (List.mem_cons_self ..)) (by simp)
  | x :: l, y :: m, hl, hm, h => by
    have hl' := List.pairwise_cons.1 hl
    have hm' := List.pairwise_cons.1 hm
    have hxy : x = y := by
      rcases List.mem_cons.1 ((h x).1 (List.mem_cons_self ..)) with e | e
      · exact e
      · rcases List.mem_cons.1 ((h y).2 (List.mem_cons_self ..)) with e' | e'
        · exact e'.symm
        · exact absurd (fol_trans (hm'.1 x e) (hl'.1 y e')) (by rw [fol_irr]; decide)
    subst hxy
    congr 1
    refine fol_ext hl'.2 hm'.2 fun e => ⟨fun he => ?_, fun he => ?_⟩
    · rcases List.mem_cons.1 ((h e).1 (List.mem_cons_of_mem _ he)) with e1 | e1
      · subst e1; exact absurd (hl'.1 _ he) (by rw [fol_irr]; decide)
      · exact e1
    · rcases List.mem_cons.1 ((h e).2 (List.mem_cons_of_mem _ he)) with e1 | e1
      · subst e1; exact absurd (hm'.1 _ he) (by rw [fol_irr]; decide)
      · exact e1
def dumpM (M : Mst) : List Kv := M.flatMap fun e => e.2.map fun v => (e.1, v)
theorem dump_len (M : Mst) : (dumpM M).length = countM M := by
  induction M with
  | nil => rfl
  | cons x M ih => simp only [dumpM, List.flatMap_cons, List.length_append, List.length_map, countM, List.map_cons, List.sum_cons] at ih ⊢; omega
theorem dump_mem {M : Mst} {k : ByteArray} {v : Ver} : (k, v) ∈ dumpM M ↔ ∃ cs, (k, cs) ∈ M ∧ v ∈ cs := by
  unfold dumpM
  rw [List.mem_flatMap]
  constructor
  · rintro ⟨⟨k', cs⟩, h, e⟩
    obtain ⟨u, hu, e⟩ := List.mem_map.1 e
    injection e with e1 e2
    subst e1 e2
    exact ⟨cs, h, hu⟩
  · rintro ⟨cs, h, hv⟩
    exact ⟨(k, cs), h, List.mem_map.2 ⟨v, hv, rfl⟩⟩
theorem dump_sorted {M : Mst} (h : Good M) : (dumpM M).Pairwise fun x y => folB x y = true := by
  obtain ⟨hr, hc⟩ := h
  induction M with
  | nil => exact List.Pairwise.nil
  | cons x M ih =>
    have h' := List.pairwise_cons.1 hr
    show (x.2.map (fun v => (x.1, v)) ++ dumpM M).Pairwise _
    refine List.pairwise_append.2 ⟨?_, ih h'.2 (fun e he => hc e (by simp [he])), ?_⟩
    · rw [List.pairwise_map]
      refine (hc x (by simp)).2.imp fun {a b} hab => ?_
      unfold folB; rw [if_pos rfl]; exact hab
    · intro a ha b hb
      obtain ⟨u, _, rfl⟩ := List.mem_map.1 ha
      obtain ⟨k, v⟩ := b
      obtain ⟨cs, hcs, _⟩ := dump_mem.1 hb
      have := h'.1 _ hcs
      unfold folB; rw [if_neg (lt_ne this)]; exact this
def chainOf (l : List Kv) (k : ByteArray) : Chain := (l.filter fun e => decide (e.1 = k)).map (·.2)
theorem chainOf_append (l m : List Kv) (k : ByteArray) : chainOf (l ++ m) k = chainOf l k ++ chainOf m k := by simp [chainOf]
theorem chainOf_same (cs : Chain) (k : ByteArray) : chainOf (cs.map fun v => (k, v)) k = cs := by
  unfold chainOf
  rw [List.filter_eq_self.2 (fun e he => by obtain ⟨u, _, rfl⟩ := List.mem_map.1 he; simp), List.map_map]
  exact List.map_id _
theorem chainOf_none {l : List Kv} {k : ByteArray} (h : ∀ e ∈ l, e.1 ≠ k) : chainOf l k = [] := by
  unfold chainOf
  rw [List.filter_eq_nil_iff.2 (fun e he => by simpa using h e he)]; rfl
theorem dump_chain {M : Mst} (h : Good M) (k : ByteArray) (cs : Chain) : (k, cs) ∈ M ↔ cs ≠ [] ∧ chainOf (dumpM M) k = cs := by
  obtain ⟨hr, hc⟩ := h
  induction M with
  | nil =>
    constructor
    · intro h; cases h
    · rintro ⟨h1, h2⟩; exact absurd h2.symm h1
  | cons x M ih =>
    have h' := List.pairwise_cons.1 hr
    have hc' : ∀ e ∈ M, e.2 ≠ [] ∧ Ris e.2 := fun e he => hc e (by simp [he])
    have hd : chainOf (dumpM (x :: M)) k = chainOf (x.2.map fun v => (x.1, v)) k ++ chainOf (dumpM M) k := by
      show chainOf (x.2.map (fun v => (x.1, v)) ++ dumpM M) k = _
      rw [chainOf_append]
    rw [hd, List.mem_cons]
    by_cases hk : k = x.1
    · subst hk
      have h0 : chainOf (dumpM M) x.1 = [] := chainOf_none fun e he e1 => by
        obtain ⟨k', v⟩ := e
        obtain ⟨cs', hcs, _⟩ := dump_mem.1 he
        exact lt_ne (h'.1 _ hcs) e1.symm
      rw [chainOf_same, h0, List.append_nil]
      constructor
      · rintro (e | e)
        · rw [← e]; exact ⟨by have := (hc x (by simp)).1; rw [← e] at this; exact this, rfl⟩
        · exact absurd (h'.1 _ e) (by rw [lt_irrefl]; decide)
      · rintro ⟨_, rfl⟩; exact .inl rfl
    · have h0 : chainOf (x.2.map fun v => (x.1, v)) k = [] := chainOf_none fun e he e1 => by
        obtain ⟨u, _, rfl⟩ := List.mem_map.1 he
        exact hk e1.symm
      rw [h0, List.nil_append, ← ih h'.2 hc']
      constructor
      · rintro (e | e)
        · exact absurd (by rw [← e]) hk
        · exact e
      · exact .inr
theorem dump_inj {M N : Mst} (h : Good M) (k : Good N) (e : dumpM M = dumpM N) : M = N :=
  rising_ext h.rising k.rising fun x => by
    obtain ⟨a, cs⟩ := x
    rw [dump_chain h, dump_chain k, e]
theorem add_dump_mem {M : Mst} (h : Rising M) {k : ByteArray} {v : Ver} (e : Kv) : e ∈ dumpM (addM M k v) ↔ e = (k, v) ∨ e ∈ dumpM M := by
  obtain ⟨k', u⟩ := e
  rw [dump_mem, dump_mem]
  have hmem : ∀ cs, (k', cs) ∈ addM M k v ↔ (k', cs) = (k, (getX M k).getD [] ++ [v]) ∨ ((k', cs) ∈ M ∧ k' ≠ k) := fun cs => setX_mem h _ _ _
  constructor
  · rintro ⟨cs, hc, hu⟩
    rcases (hmem cs).1 hc with e | ⟨hc, _⟩
    · injection e with e1 e2
      subst e1 e2
      rcases List.mem_append.1 hu with hu | hu
      · cases hg : getX M k' with
        | none => rw [hg] at hu; cases hu
        | some cs => rw [hg] at hu; exact .inr ⟨cs, (getX_some h).1 hg, hu⟩
      · simp at hu; subst hu; exact .inl rfl
    · exact .inr ⟨cs, hc, hu⟩
  · rintro (e | ⟨cs, hc, hu⟩)
    · injection e with e1 e2
      subst e1 e2
      exact ⟨_, (hmem _).2 (.inl rfl), by simp⟩
    · by_cases hk : k' = k
      · subst hk
        refine ⟨_, (hmem _).2 (.inl rfl), ?_⟩
        rw [(getX_some h).2 hc]; simp [hu]
      · exact ⟨cs, (hmem cs).2 (.inr ⟨hc, hk⟩), hu⟩
theorem over_fol {M : Mst} (h : Rising M) {e : Kv} (ha : ∀ d ∈ dumpM M, folB d e = true) : Over M e.1 e.2.s := fun cs hg u hu => by
  have := ha (e.1, u) (dump_mem.2 ⟨cs, (getX_some h).1 hg, hu⟩)
  unfold folB at this; rw [if_pos rfl] at this; exact this
theorem add_last {M : Mst} (h : Good M) {e : Kv} (ha : ∀ d ∈ dumpM M, folB d e = true) : dumpM (addM M e.1 e.2) = dumpM M ++ [e] := by
  have ho := over_fol h.rising ha
  refine fol_ext (dump_sorted (h.add ho)) ?_ fun x => ?_
  · exact List.pairwise_append.2 ⟨dump_sorted h, List.pairwise_singleton _ _, fun a ha' b hb => by simp at hb; subst hb; exact ha a ha'⟩
  · rw [add_dump_mem h.rising, List.mem_append, List.mem_singleton]; exact ⟨fun h => h.elim .inr .inl, fun h => h.elim .inr .inl⟩
def okV (e : Kv) : Bool := decide (e.2.s.a < 18446744073709551615) && wOk ⟨e.1, e.2.del, e.2.val⟩
def nthK (l : List Kv) (i : Nat) : Kv := (l[i]?).getD (⟨#[]⟩, ⟨⟨0, 0, 0⟩, false, ⟨#[]⟩⟩)
theorem nthK_get {l : List Kv} {i : Nat} (h : i < l.length) : nthK l i = l[i] := by simp [nthK, h]
theorem nthK_mem {l : List Kv} {i : Nat} (h : i < l.length) : nthK l i ∈ l := by rw [nthK_get h]; exact List.getElem_mem h
theorem nthK_take {l : List Kv} {i : Nat} (h : i < l.length) : l.take (i + 1) = l.take i ++ [nthK l i] := by rw [List.take_succ_eq_append_getElem h, nthK_get h]
def ldS (l : List Kv) (i : Nat) : Int := if okV (nthK l i) then (if i = 0 ∨ folB (nthK l (i - 1)) (nthK l i) = true then 0 else 91) else 1
def ldF (l : List Kv) : Nat → Int
  | 0 => 0
  | k + 1 => if ldF l k = 0 then ldS l k else ldF l k
def ldE (l : List Kv) : Int := ldF l l.length
def loadM (l : List Kv) : Mst := l.foldl (fun M e => addM M e.1 e.2) []
theorem loadM_snoc (l : List Kv) (e : Kv) : loadM (l ++ [e]) = addM (loadM l) e.1 e.2 := by simp [loadM]
theorem ldS_ok {l : List Kv} {i : Nat} (h : ldS l i = 0) : okV (nthK l i) = true ∧ (i = 0 ∨ folB (nthK l (i - 1)) (nthK l i) = true) := by
  unfold ldS at h
  split at h
  · split at h
    · exact ⟨by assumption, by assumption⟩
    · cases h
  · cases h
theorem ld_stay {l : List Kv} {k : Nat} (h : ldF l k ≠ 0) : ∀ n, k ≤ n → ldF l n = ldF l k := by
  intro n hn
  induction n with
  | zero => obtain rfl : k = 0 := by omega
            rfl
  | succ n ih =>
    by_cases e : k = n + 1
    · rw [e]
    · have := ih (by omega)
      rw [ldF, this, if_neg h]
theorem ld_last {l : List Kv} {k : Nat} (h0 : ldF l k = 0) (h : ldS l k ≠ 0) (hk : k < l.length) : ldE l = ldS l k := by
  have e : ldF l (k + 1) = ldS l k := by rw [ldF, if_pos h0]
  unfold ldE
  rw [ld_stay (by rw [e]; exact h) _ (by omega : k + 1 ≤ l.length), e]
theorem sorted_snoc {l : List Kv} {d e : Kv} (h : (l ++ [d]).Pairwise fun x y => folB x y = true) (k : folB d e = true) : (l ++ [d] ++ [e]).Pairwise fun x y => folB x y = true :=
  List.pairwise_append.2 ⟨h, List.pairwise_singleton _ _, fun a ha b hb => by
    simp only [List.mem_singleton] at hb
    subst hb
    rcases List.mem_append.1 ha with ha | ha
    · exact fol_trans ((List.pairwise_append.1 h).2.2 a ha d (by simp)) k
    · simp only [List.mem_singleton] at ha; subst ha; exact k⟩
theorem ld_sorted {l : List Kv} : ∀ k, k ≤ l.length → ldF l k = 0 → (l.take k).Pairwise fun x y => folB x y = true
  | 0, _, _ => by simp
  | k + 1, hk, h => by
    have h0 : ldF l k = 0 := by
      rw [ldF] at h
      by_cases e : ldF l k = 0
      · exact e
      · rw [if_neg e] at h; exact h
    rw [ldF, if_pos h0] at h
    have ih := ld_sorted k (by omega) h0
    rw [nthK_take (by omega : k < l.length)]
    rcases (ldS_ok h).2 with rfl | hf
    · simp
    · cases k with
      | zero => simp
      | succ k =>
        rw [nthK_take (by omega : k < l.length)] at ih ⊢
        exact sorted_snoc ih hf
theorem load_is (l : List Kv) (h : l.Pairwise fun x y => folB x y = true) : Good (loadM l) ∧ dumpM (loadM l) = l := by
  induction l using snoc_ind with
  | nil => exact ⟨Good.nil, rfl⟩
  | snoc l e ih =>
    have h' := List.pairwise_append.1 h
    obtain ⟨ih1, ih2⟩ := ih h'.1
    have ha : ∀ d ∈ dumpM (loadM l), folB d e = true := fun d hd => by rw [ih2] at hd; exact h'.2.2 d hd e (by simp)
    rw [loadM_snoc]
    exact ⟨ih1.add (over_fol ih1.rising ha), by rw [add_last ih1 ha, ih2]⟩
theorem load_over {l : List Kv} {e : Kv} (h : (l ++ [e]).Pairwise fun x y => folB x y = true) : Over (loadM l) e.1 e.2.s := by
  have h' := List.pairwise_append.1 h
  obtain ⟨ih1, ih2⟩ := load_is l h'.1
  exact over_fol ih1.rising fun d hd => by rw [ih2] at hd; exact h'.2.2 d hd e (by simp)
theorem load_count {l : List Kv} (h : l.Pairwise fun x y => folB x y = true) : countM (loadM l) = l.length := by rw [← dump_len, (load_is l h).2]
theorem load_dump {M : Mst} (h : Good M) : loadM (dumpM M) = M := by
  obtain ⟨h1, h2⟩ := load_is (dumpM M) (dump_sorted h)
  exact dump_inj h1 h h2
theorem sorted_at {l : List Kv} (h : l.Pairwise fun x y => folB x y = true) {i j : Nat} (hij : i < j) (hj : j < l.length) : folB (nthK l i) (nthK l j) = true := by
  rw [nthK_get hj, nthK_get (by omega)]
  exact List.pairwise_iff_getElem.1 h i j (by omega) hj hij
theorem ld_ok {l : List Kv} (h : l.Pairwise fun x y => folB x y = true) (hk : ∀ e ∈ l, okV e = true) : ldE l = 0 := by
  have : ∀ k, k ≤ l.length → ldF l k = 0 := by
    intro k
    induction k with
    | zero => intro _; rfl
    | succ k ih =>
      intro hk'
      rw [ldF, if_pos (ih (by omega)), ldS, if_pos (hk _ (nthK_mem (by omega))), if_pos]
      by_cases e : k = 0
      · exact .inl e
      · exact .inr (sorted_at h (by omega) (by omega))
  exact this _ (Nat.le_refl _)
end Go.Proofs.YtofpaldolcnmiaaGreat.Vs
