import Derived.Test.YtaknkodjganacaaDoorVPt
import Derived.Test.YtaknkodjganacaaDoorVPruneP
/- MvccPrune, plain: what a read at the mark or above can see. -/
namespace Go.Proofs.YtaknkodjganacaaDoor.Vs
open Go.RowKit Go.Sort
set_option linter.unusedVariables false

/-- is e the newest at the mark, d being what stands behind it? -/
def newB (mk : Sp) (e : Kv) (d : Option Kv) : Bool := d.elim true fun d => !decide (d.1 = e.1) || mk.lt d.2.s
def seeB (mk : Sp) (e : Kv) (d : Option Kv) : Bool := mk.lt e.2.s || (newB mk e d && !e.2.del)
def seeL (mk : Sp) : List Kv → Nat
  | [] => 0
  | e :: l => (if seeB mk e l.head? then 1 else 0) + seeL mk l
theorem seeL_at {l : List Kv} {i : Nat} (h : i < l.length) (mk : Sp) : seeL mk (l.drop i) = (if seeB mk (nthK l i) l[i + 1]? then 1 else 0) + seeL mk (l.drop (i + 1)) := by
  rw [List.drop_eq_getElem_cons h, seeL, List.head?_drop, nthK_get h]
theorem seeL_le (mk : Sp) (l : List Kv) : seeL mk l ≤ l.length := by
  induction l with
  | nil => exact Nat.le_refl _
  | cons e l ih => rw [seeL, List.length_cons]; split <;> omega
theorem seeL_append (mk : Sp) (k : ByteArray) : ∀ (cs : Chain) (r : List Kv), (∀ d ∈ r, d.1 ≠ k) → seeL mk (cs.map (fun v => (k, v)) ++ r) = seeL mk (cs.map fun v => (k, v)) + seeL mk r
  | [], r, _ => by simp [seeL]
  | v :: cs, r, h => by
    have ih := seeL_append mk k cs r h
    rw [List.map_cons, List.cons_append, seeL, seeL, ih]
    have hb : seeB mk (k, v) (cs.map (fun v => (k, v)) ++ r).head? = seeB mk (k, v) (cs.map fun v => (k, v)).head? := by
      cases cs with
      | cons u cs => rfl
      | nil =>
        cases r with
        | nil => rfl
        | cons d r =>
          have hd := h d (by simp)
          have : newB mk (k, v) (some d) = true := by simp [newB, hd]
          simp only [List.map_nil, List.nil_append, List.head?_cons, List.head?_nil, seeB, this]
          rfl
    rw [hb]; omega
theorem seeC_above {mk : Sp} (k : ByteArray) {cs : Chain} (h : ∀ v ∈ cs, mk.lt v.s = true) : seeL mk (cs.map fun v => (k, v)) = cs.length := by
  induction cs with
  | nil => rfl
  | cons v cs ih =>
    rw [List.map_cons, seeL, ih fun u hu => h u (by simp [hu]), List.length_cons]
    have : seeB mk (k, v) (cs.map fun v => (k, v)).head? = true := by unfold seeB; rw [show mk.lt (k, v).2.s = true from h v (by simp)]; rfl
    rw [this]; simp; omega
theorem seeC {mk : Sp} (k : ByteArray) {cs : Chain} (h : Ris cs) : seeL mk (cs.map fun v => (k, v)) + unseen cs mk = cs.length := by
  induction cs with
  | nil => rfl
  | cons v cs ih =>
    have h' := List.pairwise_cons.1 h
    have ih := ih h'.2
    cases hv : mk.lt v.s with
    | true =>
      have hall : ∀ u ∈ v :: cs, mk.lt u.s = true := fun u hu => by
        rcases List.mem_cons.1 hu with rfl | hu
        · exact hv
        · exact Sp.trans hv (h'.1 u hu)
      have hl : low (v :: cs) mk = [] := low_none hall
      have hun : unseen (v :: cs) mk = 0 := by unfold unseen upTo; rw [hl]; rfl
      rw [seeC_above k hall, hun]; omega
    | false =>
      have hlow : low (v :: cs) mk = v :: low cs mk := by simp [low, hv]
      rw [List.map_cons, seeL]
      cases cs with
      | nil =>
        have hl0 : low [v] mk = [v] := by rw [hlow]; rfl
        have hs : seeB mk (k, v) (([] : Chain).map fun v => (k, v)).head? = !v.del := by unfold seeB; rw [show mk.lt (k, v).2.s = false from hv]; rfl
        rw [hs]
        have hun : unseen [v] mk = if v.del then 1 else 0 := by unfold unseen upTo; rw [hl0]; cases hd : v.del <;> simp [hd]
        rw [hun]
        cases v.del <;> simp [seeL]
      | cons u cs =>
        cases hu : mk.lt u.s with
        | true =>
          have hall : ∀ x ∈ u :: cs, mk.lt x.s = true := fun x hx => by
            rcases List.mem_cons.1 hx with rfl | hx
            · exact hu
            · exact Sp.trans hu ((List.pairwise_cons.1 h'.2).1 x hx)
          have hl0 : low (v :: u :: cs) mk = [v] := by rw [hlow, low_none hall]
          have hun : unseen (v :: u :: cs) mk = if v.del then 1 else 0 := by unfold unseen upTo; rw [hl0]; cases hd : v.del <;> simp [hd]
          have hs : seeB mk (k, v) ((u :: cs).map fun v => (k, v)).head? = !v.del := by
            unfold seeB
            rw [show mk.lt (k, v).2.s = false from hv]
            have : newB mk (k, v) ((u :: cs).map fun v => (k, v)).head? = true := by
              show (!decide (k = k) || mk.lt u.s) = true
              rw [hu]; simp
            rw [this]; rfl
          rw [seeC_above k hall, hs, hun, List.length_cons, List.length_cons]
          cases v.del <;> simp <;> omega
        | false =>
          have hs : seeB mk (k, v) ((u :: cs).map fun v => (k, v)).head? = false := by
            unfold seeB
            rw [show mk.lt (k, v).2.s = false from hv]
            have : newB mk (k, v) ((u :: cs).map fun v => (k, v)).head? = false := by
              show (!decide (k = k) || mk.lt u.s) = false
              rw [hu]; simp
            rw [this]; rfl
          have hne : low (u :: cs) mk ≠ [] := by
            have : low (u :: cs) mk = u :: low cs mk := by simp [low, hu]
            rw [this]; simp
          have hun : unseen (v :: u :: cs) mk = unseen (u :: cs) mk + 1 := by
            have hg : (low (v :: u :: cs) mk).getLast? = (low (u :: cs) mk).getLast? := by
              rw [hlow, List.getLast?_cons]
              cases hz : (low (u :: cs) mk).getLast? with
              | none => exact absurd (List.getLast?_eq_none_iff.1 hz) hne
              | some x => rfl
            have hp := List.length_pos_iff.2 hne
            have hup : upTo (v :: u :: cs) mk = upTo (u :: cs) mk + 1 := by unfold upTo; rw [hlow]; rfl
            unfold unseen
            rw [hg, hup]
            split
            · rfl
            · unfold upTo; omega
          rw [hs, hun, List.length_cons]
          simp only [Bool.false_eq_true, if_false]
          omega
theorem sees_gone {M : Mst} (h : Good M) (mk : Sp) : seeL mk (dumpM M) + goneM M mk = countM M := by
  obtain ⟨hr, hc⟩ := h
  induction M with
  | nil => rfl
  | cons x M ih =>
    have h' := List.pairwise_cons.1 hr
    have ih := ih h'.2 fun e he => hc e (by simp [he])
    have h1 := seeC (mk := mk) x.1 (hc x (by simp)).2
    have h2 := seeL_append mk x.1 x.2 (dumpM M) fun d hd e => by
      obtain ⟨k, v⟩ := d
      obtain ⟨cs, hcs, _⟩ := dump_mem.1 hd
      exact lt_ne (h'.1 _ hcs) e.symm
    show seeL mk (x.2.map (fun v => (x.1, v)) ++ dumpM M) + goneM (x :: M) mk = _
    rw [h2]
    simp only [goneM, countM, List.map_cons, List.sum_cons] at ih ⊢
    omega
theorem Sp.ext_nn {s : Sp} (h : s.nn) (h0 : Sp.lt ⟨0, 0, 0⟩ s = false) : s = ⟨0, 0, 0⟩ := by
  obtain ⟨a, b, c⟩ := s
  obtain ⟨h1, h2, h3⟩ := h
  unfold Sp.lt at h0
  rw [lessB_iff_false] at h0
  simp only at h0 h1 h2 h3
  congr <;> omega
theorem first_len {ps : List Pt} (hp : 0 < ps.length) (hw : writesOk (nthT ps 0).ws = true) (ht : decide ((nthT ps 0).t.a < 18446744073709551615) = true) : (nthT ps 0).ws.length ≤ countM (instR [] (nthT ps 0).ws (nthT ps 0).t) := by
  have hf : (nthT ps 0).ws.all (freeB [] (nthT ps 0).t) = true := by rw [List.all_eq_true]; intro x _; rfl
  rw [(inst_ok hw ht hf).2, (instM_count (M := []) List.Pairwise.nil _ _).1]
  simp [countM]
/-- a store from the start: pruned at a mark -/
theorem prK_0 {mk : Sp} (h : mk.nn) : prK ⟨0, 0, 0⟩ mk = mk := by
  unfold prK
  cases h0 : Sp.lt ⟨0, 0, 0⟩ mk with
  | true => rfl
  | false => rw [Sp.ext_nn h h0]; rfl
theorem pr_again (M : Mst) (mk : Sp) : prG M mk mk = 0 ∧ prM M mk mk = M ∧ prK mk mk = mk := by
  unfold prG prM prK; rw [Sp.irr]; exact ⟨rfl, rfl, rfl⟩
theorem pr_count (M : Mst) (mk : Sp) : countM (prM M ⟨0, 0, 0⟩ mk) + prG M ⟨0, 0, 0⟩ mk = countM M := by
  unfold prM prG
  split
  · exact countM_prune M mk
  · omega
theorem pr_left {M : Mst} (h : Good M) {mk : Sp} (h0 : Sp.lt ⟨0, 0, 0⟩ mk = true) : seeL mk (dumpM M) = countM (prM M ⟨0, 0, 0⟩ mk) := by
  have h1 := sees_gone h mk
  have h2 := pr_count M mk
  unfold prG at h2
  rw [if_pos h0] at h2
  omega
theorem pr_zero (M : Mst) : countM M = countM (prM M ⟨0, 0, 0⟩ ⟨0, 0, 0⟩) := by
  unfold prM; rw [Sp.irr]; rfl
theorem pr_read {M : Mst} (h : Good M) {mk t : Sp} (ht : t.lt mk = false) (lo hi : ByteArray) : readM (prM M ⟨0, 0, 0⟩ mk) lo hi t = readM M lo hi t := by
  unfold prM
  split
  · rw [readM_is, readM_is, pruneM_read h ht]
  · rfl
theorem pr_rd {M : Mst} (h : Good M) {mk t : Sp} (hn : t.nn) (ht : t.lt mk = false) (lo hi : ByteArray) : rdE (prM M ⟨0, 0, 0⟩ mk) mk lo hi t = rdE M ⟨0, 0, 0⟩ lo hi t ∧ rdL (prM M ⟨0, 0, 0⟩ mk) mk lo hi t = rdL M ⟨0, 0, 0⟩ lo hi t ∧ (rdE M ⟨0, 0, 0⟩ lo hi t = 0 ∨ rdE M ⟨0, 0, 0⟩ lo hi t = 142) := by
  have h1 := Sp.nn_lt hn
  have h2 := pr_read h ht lo hi
  have e : rdE (prM M ⟨0, 0, 0⟩ mk) mk lo hi t = rdE M ⟨0, 0, 0⟩ lo hi t := by unfold rdE; rw [ht, h1, h2]
  refine ⟨e, by unfold rdL; rw [e, h2], ?_⟩
  unfold rdE
  rw [h1]
  simp only [Bool.false_eq_true, if_false]
  split
  · exact .inr rfl
  · exact .inl rfl
theorem run_eqSt (s : Sp) (w : World) : (binOp .eql 26 (sv s) (sv ⟨0, 0, 0⟩)).run Tryd.prog w = .ok (.bool (decide (s.a = 0) && decide (s.b = 0) && decide (s.c = 0))) w := by
  obtain ⟨a, b, c⟩ := s
  by_cases h1 : a = 0
  · by_cases h2 : b = 0
    · subst h1 h2; by_cases h3 : c = 0 <;> simp [go_sem, Tryd.underlying26, h3]
    · subst h1; simp [go_sem, Tryd.underlying26, h2]
  · simp [go_sem, Tryd.underlying26, h1]
end Go.Proofs.YtaknkodjganacaaDoor.Vs
