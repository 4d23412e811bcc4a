import Derived.Test.YtngnifemghahkaaDoorVMapP
import Derived.Test.YtngnifemghahkaaDoorVDump
/- How many writes there are in all; what Installs leave. -/
namespace Go.Proofs.YtngnifemghahkaaDoor.Vs
open Go.RowKit Go.Sort
set_option linter.unusedVariables false

def sumT (ps : List Pt) : Nat := (ps.map fun q => q.ws.length).sum
theorem nthT_take {ps : List Pt} {i : Nat} (h : i < ps.length) : ps.take (i + 1) = ps.take i ++ [nthT ps i] := by
  rw [List.take_succ_eq_append_getElem h]; simp [nthT, h]
theorem sumT_append (l m : List Pt) : sumT (l ++ m) = sumT l + sumT m := by simp [sumT]
theorem sumT_next {ps : List Pt} {i : Nat} (h : i < ps.length) : sumT (ps.take (i + 1)) = sumT (ps.take i) + (nthT ps i).ws.length := by
  rw [nthT_take h, sumT_append]; simp [sumT]
theorem sumT_mono (ps : List Pt) (i : Nat) : sumT (ps.take i) ≤ sumT ps := by
  conv => rhs; rw [← List.take_append_drop i ps, sumT_append]
  omega
theorem sumT_step (ps : List Pt) (i : Nat) : sumT (ps.take i) ≤ sumT (ps.take (i + 1)) := by
  rcases Nat.lt_or_ge i ps.length with h | h
  · rw [sumT_next h]; omega
  · rw [List.take_of_length_le h, List.take_of_length_le (by omega)]; exact Nat.le_refl _
theorem sumT_le {ps : List Pt} {i j : Nat} (h : i ≤ j) : sumT (ps.take i) ≤ sumT (ps.take j) := by
  induction j with
  | zero => obtain rfl : i = 0 := by omega
            exact Nat.le_refl _
  | succ j ih =>
    by_cases e : i = j + 1
    · rw [e]; exact Nat.le_refl _
    · exact Nat.le_trans (ih (by omega)) (sumT_step ps j)
/-- each of valid writes is valid -/
theorem writes_ok {ws : List Wr} (h : writesOk ws = true) : ∀ x ∈ ws, wOk x = true := by
  intro x hx
  obtain ⟨i, hi, rfl⟩ := List.mem_iff_getElem.1 hx
  unfold writesOk at h
  rw [Bool.and_eq_true] at h
  have hall : ∀ n, allB (writeAt ws) n = true → ∀ i, i < n → writeAt ws i = true := by
    intro n
    induction n with
    | zero => intro _ i hi; omega
    | succ n ih =>
      intro ha i hi
      rw [allB, Bool.and_eq_true] at ha
      by_cases e : i = n
      · rw [e]; exact ha.2
      · exact ih ha.1 i (by omega)
  have := hall _ h.2 i hi
  rw [writeAt_eq, Bool.and_eq_true] at this
  have e : nthW ws i = ws[i] := by simp [nthW, hi]
  rw [← e]; exact this.1
theorem inst_okM {M : Mst} (h : OkM M) (hr : Rising M) {ws : List Wr} (hw : ∀ x ∈ ws, wOk x = true) {t : Sp} (ht : decide (t.a < 18446744073709551615) = true) : OkM (instM M ws t) := by
  induction ws using snoc_ind with
  | nil => exact h
  | snoc ws x ih =>
    rw [instM_snoc]
    refine (ih fun y hy => hw y (by simp [hy])).add (instM_count hr ws t).2 ?_
    unfold okV
    rw [Bool.and_eq_true]
    exact ⟨ht, hw x (by simp)⟩
theorem OkM.nil : OkM [] := fun e he => (by cases he)
/-- one write more among them -/
theorem inst_among {M : Mst} (h : Good M) {ws : List Wr} (hw : writesOk ws = true) {t : Sp} (ha : ws.all (freeB M t) = true) {i : Nat} (hi : i < ws.length) :
    dumpM (instM M (ws.take (i + 1)) t) = amX (dumpM (instM M (ws.take i) t)) ((nthW ws i).key, Wr.ver (nthW ws i) t) := by
  have hg := inst_good h hw ha i (by omega)
  rw [nthW_take hi, instM_snoc]
  exact add_among (e := ((nthW ws i).key, Wr.ver (nthW ws i) t)) hg (inst_over h.rising hw ha hi)
theorem dump_at {F : Nat → Prop} {w W : World} {p nL : Nat} {M : Mst} {mk : Sp} (h : Sto F w p M mk) (hn : countM M ≤ 1048576) (hl : nL = (dumpM M).length) (hb : Below w.heap.size w W) :
    Calls Tryd.prog 14 #[pt p] W fun e w' => ∃ la lc, e = .returned (.slice la nL lc) ∧ Hid (OwnV w' W.heap.size (.slice la nL lc) (dumpM M)) ∧ Below W.heap.size W w' := by
  refine (dump_is (h.later hb) hn).mono ?_
  rintro e w' ⟨v, rfl, ho, hb'⟩
  obtain ⟨la, lc, rfl⟩ := ho.slice
  rw [← hl] at ho ⊢
  exact ⟨la, lc, rfl, ho, hb'⟩
theorem len_at {F : Nat → Prop} {w W : World} {p nL : Nat} {M : Mst} {mk : Sp} (h : Sto F w p M mk) (hn : countM M ≤ 1048576) (hl : nL = (dumpM M).length) (hb : Below w.heap.size w W) :
    Calls Tryd.prog 13 #[pt p] W fun e w' => e = .returned (.int .i64 nL) ∧ Below W.heap.size W w' := by
  rw [hl, dump_len]
  exact stolen_is (h.later hb) (by omega)
theorem read_at {F : Nat → Prop} {w W : World} {p : Nat} {M : Mst} {mk t : Sp} {lo hi : ByteArray} {e : Int} {l : Prs} (h : Sto F w p M mk) (hn : countM M ≤ 1048576) (he : rdE M mk lo hi t = e) (hl : rdL M mk lo hi t = l) (hb : Below w.heap.size w W) :
    Calls Tryd.prog 17 #[pt p, .agg #[.string lo, .string hi], sv t] W fun r w' => ∃ va vc, r = .returned (.tuple #[.slice va l.length vc, .int .i64 e]) ∧ Hid (Row2 w' va l) ∧ Below W.heap.size W w' := by
  subst he hl
  refine (read_is (h.later hb) lo hi t (by omega)).mono ?_
  rintro e w' ⟨v, rfl, ho, hb'⟩
  obtain ⟨va, vc, rfl⟩ := ho.slice
  exact ⟨va, vc, rfl, ho.row, hb'⟩
theorem rd_same {M : Mst} {mk mk' t : Sp} {lo hi : ByteArray} (h : t.lt mk = false) (h' : t.lt mk' = false) : rdE M mk lo hi t = rdE M mk' lo hi t ∧ rdL M mk lo hi t = rdL M mk' lo hi t := by
  have e : rdE M mk lo hi t = rdE M mk' lo hi t := by unfold rdE; rw [h, h']
  exact ⟨e, by unfold rdL; rw [e]⟩
theorem rd_len (M : Mst) (mk t : Sp) (lo hi : ByteArray) (h : Good M) : (rdL M mk lo hi t).length ≤ countM M := by
  unfold rdL
  split
  · rw [readM_is]; exact Nat.le_trans (List.length_filter_le _ _) (readAll_len M h t)
  · simp
theorem run_neSt (s : Sp) (w : World) : (binOp .neq 28 (sv s) (sv s)).run Tryd.prog w = .ok (.bool false) w := by
  simp [go_sem, Tryd.underlying28]
end Go.Proofs.YtngnifemghahkaaDoor.Vs
