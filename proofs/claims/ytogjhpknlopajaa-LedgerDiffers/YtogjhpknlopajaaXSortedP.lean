import Derived.Test.YtogjhpknlopajaaXStamped
/- What the answers of a ledger come to, in plain mathematics. -/
namespace Go.Proofs.Ytogjhpknlopajaa.Lg
open Go.RowKit Go.Sort Go.Shelf Go.Lib Lk
set_option linter.unusedVariables false

theorem nthE_mem {U : List En} {i : Nat} (h : i < U.length) : nthE U i ∈ U := by
  have : nthE U i = U[i] := by simp [nthE, h]
  rw [this]; exact List.getElem_mem h
theorem ids_nodup {U M : List En} (hp : U.Perm M) (hn : (M.map En.id).Nodup) : (U.map En.id).Nodup := (hp.map En.id).nodup_iff.2 hn
theorem map_nodup {U : List En} (h : (U.map En.id).Nodup) : U.Nodup := by
  rw [List.Nodup, List.pairwise_map] at h
  exact h.imp fun hne e => hne (by rw [e])
theorem nthE_pair {U : List En} {R : En → En → Prop} (h : U.Pairwise R) {i j : Nat} (hij : i < j) (hj : j < U.length) : R (nthE U i) (nthE U j) := by
  have hi : i < U.length := by omega
  have := List.pairwise_iff_getElem.1 h i j hi hj hij
  have e1 : nthE U i = U[i] := by simp [nthE, hi]
  have e2 : nthE U j = U[j] := by simp [nthE, hj]
  rw [e1, e2]; exact this
theorem ltI_total {i j : Ix} (h : ltI j i = false) (hne : i ≠ j) : ltI i j = true := by
  obtain ⟨a, b⟩ := i
  obtain ⟨c, d⟩ := j
  simp only [ltI, Bool.or_eq_true, Bool.and_eq_true, Bool.or_eq_false_iff, Bool.and_eq_false_iff, decide_eq_true_eq, decide_eq_false_iff_not] at *
  by_cases e1 : a = c
  · by_cases e2 : b = d
    · exact absurd (by rw [e1, e2]) hne
    · omega
  · omega
/-- entries that are told by transaction rise strictly -/
theorem rise_ids {U : List En} (hn : (U.map En.id).Nodup) (hs : U.Pairwise (fun x y => ltI y.id x.id = false)) : ∀ j, j + 1 < U.length → ltI (nthE U j).id (nthE U (j + 1)).id = true := fun j hj => by
  refine ltI_total (nthE_pair hs (by omega) hj) ?_
  rw [List.Nodup, List.pairwise_map] at hn
  exact nthE_pair hn (by omega) hj
theorem rise_stamps {U : List En} (hn : (U.map En.id).Nodup) (hs : U.Pairwise (fun x y => ltE y x = false)) : ∀ j, j + 1 < U.length → lessB (nthE U (j + 1)).w (nthE U (j + 1)).l (nthE U (j + 1)).n (nthE U j).w (nthE U j).l (nthE U j).n = false ∧ (sameB (nthE U j).w (nthE U j).l (nthE U j).n (nthE U (j + 1)).w (nthE U (j + 1)).l (nthE U (j + 1)).n = true → ltI (nthE U j).id (nthE U (j + 1)).id = true) := fun j hj => by
  have h := nthE_pair hs (show j < j + 1 by omega) hj
  have hne : (nthE U j).id ≠ (nthE U (j + 1)).id := by
    rw [List.Nodup, List.pairwise_map] at hn
    exact nthE_pair hn (show j < j + 1 by omega) hj
  simp only [ltE, Bool.or_eq_false_iff] at h
  refine ⟨h.1, fun hs => ltI_total ?_ hne⟩
  obtain ⟨e1, e2, e3⟩ := sameB_iff.1 hs
  have h2 := h.2
  rw [← e1, ← e2, ← e3, sameB_self] at h2
  simpa using h2
theorem decM_length (M : List En) (e : En) : (decM M e).length ≤ M.length + 1 := by
  unfold decM
  split
  · cases outM M e.id <;> simp
  · omega
theorem ledL_length (xs : List En) : (ledL xs).length ≤ xs.length := by
  have : ∀ (xs M : List En), (xs.foldl decM M).length ≤ M.length + xs.length := by
    intro xs
    induction xs with
    | nil => intro M; simp
    | cons y xs ih =>
      intro M
      rw [List.foldl_cons, List.length_cons]
      have h1 := ih (decM M y)
      have h2 := decM_length M y
      omega
  have := this xs []
  simpa [ledL] using this
theorem ledL_nodup (xs : List En) : ((ledL xs).map En.id).Nodup := by
  have : ∀ (xs M : List En), (M.map En.id).Nodup → ((xs.foldl decM M).map En.id).Nodup := by
    intro xs
    induction xs with
    | nil => intro M h; exact h
    | cons y xs ih => intro M h; exact ih _ (decM_nodup h y)
  exact this xs [] (by simp)
theorem decM_mem {M : List En} {e x : En} (h : x ∈ M) : x ∈ decM M e := by
  unfold decM
  split
  · cases outM M e.id with
    | none => exact List.mem_append_left _ h
    | some f => exact h
  · exact h
theorem led_mem {xs : List En} {y x : En} (h : x ∈ ledL xs) (zs : List En) : x ∈ ledL (xs ++ zs) := by
  have : ∀ (zs M : List En), x ∈ M → x ∈ zs.foldl decM M := by
    intro zs
    induction zs with
    | nil => intro M h; exact h
    | cons y zs ih => intro M h; exact ih _ (decM_mem h)
  rw [ledL, List.foldl_append]
  exact this zs _ h
theorem led_first (e : En) (zs : List En) (hm : mayB e = true) : e ∈ ledL (e :: zs) := by
  have h1 : e ∈ ledL [e] := by simp [ledL, decM, hm, outM]
  exact led_mem (y := e) h1 zs
theorem filt_take {U : List En} {k : Nat} (h : k < U.length) (p : En → Bool) : ((U.take (k + 1)).filter p).length = ((U.take k).filter p).length + (if p (nthE U k) then 1 else 0) := by
  rw [nthE_take h, List.filter_append, List.length_append]
  cases hs : p (nthE U k) <;> simp [hs]
end Go.Proofs.Ytogjhpknlopajaa.Lg
