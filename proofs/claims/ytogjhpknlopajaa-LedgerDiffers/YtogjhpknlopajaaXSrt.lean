import Derived.Test.YtogjhpknlopajaaXLaid
/- Lists that are sorted, in plain mathematics. -/
namespace Go.Proofs.Ytogjhpknlopajaa.Lg
open Go.RowKit Go.Sort Go.Shelf Go.Lib Lk
set_option linter.unusedVariables false

def srtL (s : Bool) (M : List En) : List En := M.foldl (insL (befB s)) []
theorem srtL_snoc (s : Bool) (M : List En) (e : En) : srtL s (M ++ [e]) = insL (befB s) (srtL s M) e := by simp [srtL]
theorem bef_irr (s : Bool) (x : En) : befB s x x = false := by
  cases s with
  | false => simp [befB, ltI]
  | true => rw [befB, if_pos rfl, ltE_iff_false]; omega
theorem bef_tr (s : Bool) (x y z : En) (h1 : befB s x y = true) (h2 : befB s y z = true) : befB s x z = true := by
  cases s with
  | false =>
    simp only [befB, Bool.false_eq_true, if_false, ltI, Bool.or_eq_true, Bool.and_eq_true, decide_eq_true_eq] at *
    omega
  | true =>
    simp only [befB, if_true, ltE_iff] at *
    omega
theorem srt_perm (s : Bool) (M : List En) : (srtL s M).Perm M := by
  have : ∀ (M O : List En), (M.foldl (insL (befB s)) O).Perm (O ++ M) := by
    intro M
    induction M with
    | nil => intro O; simp
    | cons e M ih =>
      intro O
      rw [List.foldl_cons]
      refine (ih _).trans ?_
      refine ((insL_perm (befB s) O e).append_right M).trans ?_
      rw [List.cons_append]
      exact List.perm_middle.symm
  have := this M []
  simpa [srtL] using this
theorem srt_sorted (s : Bool) (M : List En) : (srtL s M).Pairwise (fun x y => befB s y x = false) := by
  have : ∀ (M O : List En), O.Pairwise (fun x y => befB s y x = false) → (M.foldl (insL (befB s)) O).Pairwise (fun x y => befB s y x = false) := by
    intro M
    induction M with
    | nil => intro O h; exact h
    | cons e M ih => intro O h; exact ih _ (insL_sorted (bef_irr s) (bef_tr s) e h)
  exact this M [] (by simp)
theorem sort_uniq {lt : En → En → Bool} : ∀ {U V : List En}, U.Perm V → U.Pairwise (fun x y => lt y x = false) → V.Pairwise (fun x y => lt y x = false) → (∀ x ∈ U, ∀ y ∈ U, lt x y = false → lt y x = false → x = y) → U = V
  | [], V, hp, _, _, _ => by rw [hp.symm.eq_nil]
  | x :: U, [], hp, _, _, _ => by have := hp.length_eq; simp at this
  | x :: U, y :: V, hp, hU, hV, ht => by
    rw [List.pairwise_cons] at hU hV
    have hyU : y ∈ x :: U := hp.mem_iff.2 (by simp)
    have hxV : x ∈ y :: V := hp.mem_iff.1 (by simp)
    have e : x = y := by
      rcases List.mem_cons.1 hxV with e | e
      · exact e
      · rcases List.mem_cons.1 hyU with e' | e'
        · exact e'.symm
        · exact ht x (by simp) y hyU (hV.1 x e) (hU.1 y e')
    subst e
    refine congrArg _ (sort_uniq (List.Perm.cons_inv hp) hU.2 hV.2 fun a ha b hb => ht a (by simp [ha]) b (by simp [hb]))
theorem ltI_eq {i j : Ix} (h1 : ltI i j = false) (h2 : ltI j i = false) : i = j := by
  obtain ⟨a, b⟩ := i
  obtain ⟨c, d⟩ := j
  simp only [ltI, Bool.or_eq_false_iff, Bool.and_eq_false_iff, decide_eq_false_iff_not] at h1 h2
  have e1 : a = c := by omega
  have e2 : b = d := by omega
  rw [e1, e2]
theorem ents_eq {U M : List En} (hp : U.Perm M) (hn : (M.map En.id).Nodup) (hs : U.Pairwise (fun x y => ltI y.id x.id = false)) : U = srtL false M := by
  refine sort_uniq (lt := befB false) (hp.trans (srt_perm false M).symm) hs (srt_sorted false M) fun x hx y hy h1 h2 => ?_
  exact nodup_inj (ids_nodup hp hn) hx hy (ltI_eq h1 h2)
theorem coms_eq {U M : List En} (hp : U.Perm M) (hn : (M.map En.id).Nodup) (hs : U.Pairwise (fun x y => ltE y x = false)) : U = srtL true M := by
  refine sort_uniq (lt := befB true) (hp.trans (srt_perm true M).symm) hs (srt_sorted true M) fun x hx y hy h1 h2 => ?_
  refine nodup_inj (ids_nodup hp hn) hx hy (ltI_eq ?_ ?_)
  · simp only [befB, if_true, ltE, Bool.or_eq_false_iff, Bool.and_eq_false_iff] at h1 h2
    rcases h1.2 with h | h
    · exfalso
      have h3 : lessB x.w x.l x.n y.w y.l y.n = true := by
        rw [less_anti (a := y.w) (b := y.l) (c := y.n) (fun k => by rw [k.1, k.2.1, k.2.2, sameB_self] at h; cases h), h2.1]; rfl
      rw [h1.1] at h3; cases h3
    · exact h
  · simp only [befB, if_true, ltE, Bool.or_eq_false_iff, Bool.and_eq_false_iff] at h1 h2
    rcases h2.2 with h | h
    · exfalso
      have h3 : lessB y.w y.l y.n x.w x.l x.n = true := by
        rw [less_anti (a := x.w) (b := x.l) (c := x.n) (fun k => by rw [k.1, k.2.1, k.2.2, sameB_self] at h; cases h), h1.1]; rfl
      rw [h2.1] at h3; cases h3
    · exact h
end Go.Proofs.Ytogjhpknlopajaa.Lg
