import Derived.Test.YtmlacdfdpdkdaaaDoorVPruneP
import Derived.Test.YtmlacdfdpdkdaaaDoorVInstall
/- Plain words of the law: what Prune and Load leave. -/
namespace Go.Proofs.YtmlacdfdpdkdaaaDoor.Bg
open Go.RowKit Go.Sort Go.Proofs.YtmlacdfdpdkdaaaDoor Go.Proofs.YtmlacdfdpdkdaaaDoor.Vs
set_option linter.unusedVariables false

theorem walk_mem {m : Sp} : ∀ (L : List Kv) (e : Kv), e ∈ walkL (prG' m) L → e ∈ L
  | [], e, h => by cases h
  | d :: r, e, h => by
    rw [walkL] at h
    rcases List.mem_append.1 h with h | h
    · unfold prG' at h
      split at h
      · simp only [List.mem_singleton] at h; subst h; simp
      · cases h
    · exact List.mem_cons_of_mem _ (walk_mem r e h)
theorem ru_is {M : Mst} (h : Vs.Good M) (mk t : Sp) : ruL (dumpM M) mk t = dumpM (prM M mk t) := by
  unfold ruL prM
  split
  · exact prune_flat h t
  · rfl
theorem pr_ok {M : Mst} (h : Vs.Good M) (ho : OkM M) (mk t : Sp) : OkM (prM M mk t) := fun e he => by
  rw [← ru_is h] at he
  unfold ruL at he
  split at he
  · exact ho e (walk_mem _ _ he)
  · exact ho e he
theorem pr_cnt (M : Mst) (mk t : Sp) : countM (prM M mk t) ≤ countM M := by
  unfold prM
  split
  · have := countM_prune M t; omega
  · omega
theorem pr_ans {M : Mst} (h : Vs.Good M) (mk t : Sp) : ((dumpM M).length : Int) - ((ruL (dumpM M) mk t).length : Int) = ((prG M mk t : Nat) : Int) := by
  rw [ru_is h, dump_len, dump_len]
  unfold prM prG
  split
  · have := countM_prune M t; omega
  · omega
theorem ld_zero {l : List Kv} (h : ldE l = 0) (k : Nat) (hk : k ≤ l.length) : ldF l k = 0 := by
  by_cases e : ldF l k = 0
  · exact e
  · have := ld_stay e _ hk
    exact absurd (this.symm.trans h) e
theorem ld_all {l : List Kv} (h : ldE l = 0) : ∀ e ∈ l, okV e = true := fun e he => by
  obtain ⟨i, hi, rfl⟩ := List.mem_iff_getElem.1 he
  have h1 := ld_zero h (i + 1) (by omega)
  rw [ldF, if_pos (ld_zero h i (by omega))] at h1
  have := (ldS_ok h1).1
  rwa [nthK_get hi] at this
theorem ld_pw {l : List Kv} (h : ldE l = 0) : l.Pairwise fun x y => folB x y = true := by
  have := ld_sorted (l := l) l.length (Nat.le_refl _) h
  rwa [List.take_length] at this
theorem ld_dump {l : List Kv} (h : ldE l = 0) : dumpM (loadM l) = l := (load_is l (ld_pw h)).2
theorem ld_cnt {l : List Kv} (h : ldE l = 0) : countM (loadM l) = l.length := load_count (ld_pw h)
theorem ld_okM {l : List Kv} (h : ldE l = 0) : OkM (loadM l) := fun e he => by rw [ld_dump h] at he; exact ld_all h e he
end Go.Proofs.YtmlacdfdpdkdaaaDoor.Bg
