import Derived.Test.YtneojeidpfjpbaaGreatDoorB15
set_option linter.unusedVariables false
namespace Go.Proofs.YtneojeidpfjpbaaGreatDoor.Vs
open Go.RowKit Go.Sort
def Wr.ver (x : Wr) (t : Sp) : Ver := ⟨t, x.del, x.val⟩
def freeB (M : Mst) (t : Sp) (x : Wr) : Bool := ((getX M x.key).getD []).all fun u => u.s.lt t
def instM (M : Mst) (ws : List Wr) (t : Sp) : Mst := ws.foldl (fun M x => addM M x.key (Wr.ver x t)) M
theorem instM_snoc (M : Mst) (ws : List Wr) (x : Wr) (t : Sp) : instM M (ws ++ [x]) t = addM (instM M ws t) x.key (Wr.ver x t) := by simp [instM]
def instE (M : Mst) (ws : List Wr) (t : Sp) : Int := if decide (t.a < 18446744073709551615) then (if writesOk ws then (if ws.all (freeB M t) then 0 else 91) else 1) else 11
def instR (M : Mst) (ws : List Wr) (t : Sp) : Mst := if instE M ws t = 0 then instM M ws t else M
theorem free_over {M : Mst} {t : Sp} {x : Wr} : freeB M t x = true ↔ Over M x.key t := by
 unfold freeB Over; cases hg : getX M x.key with
 | none => simp
 | some cs => simp [List.all_eq_true]
theorem inst_get {M : Mst} (h : Rising M) : ∀ (ws : List Wr) (t : Sp) (k : ByteArray), (∀ x ∈ ws, x.key ≠ k) → getX (instM M ws t) k = getX M k ∧ Rising (instM M ws t) := by
 intro ws t k; induction ws using snoc_ind with
 | nil => intro _; exact ⟨rfl, h⟩
 | snoc ws x ih =>
  intro hk; obtain ⟨ih1, ih2⟩ := ih fun y hy => hk y (by simp [hy])
  rw [instM_snoc]; refine ⟨?_, addM_rising ih2 _ _⟩; rw [← ih1]; have hmem : ∀ cs, (k, cs) ∈ addM (instM M ws t) x.key (Wr.ver x t) ↔ (k, cs) ∈ instM M ws t := fun cs => by
   unfold addM; rw [setX_mem ih2]; constructor
   ·rintro (e | ⟨h, _⟩)
    ·injection e with e _; exact absurd e.symm (hk x (by simp))
    ·exact h
   ·intro h; exact .inr ⟨h, fun e => hk x (by simp) e.symm⟩
  cases hg : getX (instM M ws t) k with
  | none => exact getX_none.2 fun cs hc => getX_none.1 hg cs ((hmem cs).1 hc)
  | some cs => exact (getX_some (addM_rising ih2 _ _)).2 ((hmem cs).2 ((getX_some ih2).1 hg))
theorem writes_rise {ws : List Wr} (h : writesOk ws = true) : ws.Pairwise fun x y => lt x.key y.key = true := by
 have hall : ∀ n, n ≤ ws.length → allB (writeAt ws) n = true → (ws.take n).Pairwise fun x y => lt x.key y.key = true := by
  intro n; induction n with
  | zero => intro _ _; simp
  | succ n ih =>
   intro hn ha; rw [allB, Bool.and_eq_true] at ha; have h1 := ih (by omega) ha.1; rw [nthW_take (by omega : n < ws.length)]; refine List.pairwise_append.2 ⟨h1, List.pairwise_singleton _ _, fun a ha' b hb => ?_⟩; simp at hb; subst hb
   have h2 : lt (prevW ws n) (nthW ws n).key = true := by
    have := ha.2; rw [writeAt_eq, Bool.and_eq_true] at this; exact this.2
   cases n with
   | zero => simp at ha'
   | succ n =>
    rw [prevW_succ] at h2; rw [nthW_take (by omega : n < ws.length)] at ha' h1; rcases List.mem_append.1 ha' with h3 | h3
    ·exact lt_trans ((List.pairwise_append.1 h1).2.2 a h3 _ (by simp)) h2
    ·simp at h3; subst h3; exact h2
 have := hall ws.length (Nat.le_refl _) (by unfold writesOk at h; rw [Bool.and_eq_true] at h; exact h.2); rwa [List.take_of_length_le (Nat.le_refl _)] at this
theorem writes_len {ws : List Wr} (h : writesOk ws = true) : ws.length ≤ 16 := by
 unfold writesOk at h; rw [Bool.and_eq_true] at h; simpa using h.1
theorem inst_over {M : Mst} (hM : Rising M) {ws : List Wr} (h : writesOk ws = true) {t : Sp} (ha : ws.all (freeB M t) = true) {i : Nat} (hi : i < ws.length) : Over (instM M (ws.take i) t) (nthW ws i).key t := by
 have hr := writes_rise h; have hm : nthW ws i ∈ ws := by simp [nthW, hi]
 have h1 := free_over.1 (List.all_eq_true.1 ha _ hm); have h2 := (inst_get hM (ws.take i) t (nthW ws i).key (fun x hx => by
  have hsp : ws.take (i + 1) = ws.take i ++ [nthW ws i] := nthW_take hi; have hp := List.Pairwise.sublist (List.take_sublist (i + 1) ws) hr; rw [hsp] at hp; exact lt_ne ((List.pairwise_append.1 hp).2.2 x hx _ (by simp)))).1
 unfold Over at h1 ⊢; rw [h2]; exact h1
theorem instM_count {M : Mst} (h : Rising M) (ws : List Wr) (t : Sp) : countM (instM M ws t) = countM M + ws.length ∧ Rising (instM M ws t) := by
 induction ws using snoc_ind with
 | nil => exact ⟨by simp [instM], h⟩
 | snoc ws x ih => rw [instM_snoc]; exact ⟨by rw [countM_add ih.2, ih.1, List.length_append]; rfl, addM_rising ih.2 _ _⟩
theorem RowW.onl {w w' : World} {F : Nat → Prop} {a : Option Addr} {xs : List Wr} (h : RowW w a xs) (ho : Onl F w w') (hF : ∀ b off, a = some ⟨b, off, none⟩ → ¬ F b) : RowW w' a xs := fun i hi => by
 obtain ⟨b, off, e, h0, h1, h2⟩ := h i hi; exact ⟨b, off, e, ho.cell (hF b off e) h0, ho.cell (hF b off e) h1, ho.cell (hF b off e) h2⟩
abbrev Kv := ByteArray × Ver
def dumpM (M : Mst) : List Kv := M.flatMap fun e => e.2.map fun v => (e.1, v)
theorem dump_len (M : Mst) : (dumpM M).length = countM M := by
 induction M with
 | nil => rfl
 | cons x M ih => simp only [dumpM, List.flatMap_cons, List.length_append, List.length_map, countM, List.map_cons, List.sum_cons] at ih ⊢; omega
theorem dump_mem {M : Mst} {k : ByteArray} {v : Ver} : (k, v) ∈ dumpM M ↔ ∃ cs, (k, cs) ∈ M ∧ v ∈ cs := by
 unfold dumpM; rw [List.mem_flatMap]; constructor
 ·rintro ⟨⟨k', cs⟩, h, e⟩; obtain ⟨u, hu, e⟩ := List.mem_map.1 e; injection e with e1 e2
  subst e1 e2; exact ⟨cs, h, hu⟩
 ·rintro ⟨cs, h, hv⟩; exact ⟨(k, cs), h, List.mem_map.2 ⟨v, hv, rfl⟩⟩
theorem add_dump_mem {M : Mst} (h : Rising M) {k : ByteArray} {v : Ver} (e : Kv) : e ∈ dumpM (addM M k v) ↔ e = (k, v) ∨ e ∈ dumpM M := by
 obtain ⟨k', u⟩ := e; rw [dump_mem, dump_mem]; have hmem : ∀ cs, (k', cs) ∈ addM M k v ↔ (k', cs) = (k, (getX M k).getD [] ++ [v]) ∨ ((k', cs) ∈ M ∧ k' ≠ k) := fun cs => setX_mem h _ _ _
 constructor
 ·rintro ⟨cs, hc, hu⟩; rcases (hmem cs).1 hc with e | ⟨hc, _⟩
  ·injection e with e1 e2
   subst e1 e2; rcases List.mem_append.1 hu with hu | hu
   ·cases hg : getX M k' with
    | none => rw [hg] at hu; cases hu
    | some cs => rw [hg] at hu; exact .inr ⟨cs, (getX_some h).1 hg, hu⟩
   ·simp at hu; subst hu; exact .inl rfl
  ·exact .inr ⟨cs, hc, hu⟩
 ·rintro (e | ⟨cs, hc, hu⟩)
  ·injection e with e1 e2
   subst e1 e2; exact ⟨_, (hmem _).2 (.inl rfl), by simp⟩
  ·by_cases hk : k' = k
   ·subst hk; refine ⟨_, (hmem _).2 (.inl rfl), ?_⟩; rw [(getX_some h).2 hc]; simp [hu]
   ·exact ⟨cs, (hmem cs).2 (.inr ⟨hc, hk⟩), hu⟩
def okV (e : Kv) : Bool := decide (e.2.s.a < 18446744073709551615) && wOk ⟨e.1, e.2.del, e.2.val⟩
end Go.Proofs.YtneojeidpfjpbaaGreatDoor.Vs
