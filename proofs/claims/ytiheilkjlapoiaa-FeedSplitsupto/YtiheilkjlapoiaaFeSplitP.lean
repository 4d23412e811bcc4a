import Derived.Test.YtiheilkjlapoiaaFeChg
/- Changes up to a stamp and from it on are the changes in one: plain mathematics. -/
namespace Go.Proofs.Ytiheilkjlapoiaa.Lg
open Go.RowKit Go.Sort Go.Shelf Go.Lib Lk
set_option linter.unusedVariables false

def nrm (e : En) : En := ⟨e.id, 0, 1, e.w, e.l, e.n⟩
theorem told_nrm (evs : List Ev) (fr : Sm) (l : List En) : told evs fr (l.map nrm) = told evs fr l := by
  unfold told
  induction l with
  | nil => rfl
  | cons e l ih =>
    rw [List.map_cons, List.filter_cons, List.filter_cons]
    have h1 : belo (nrm e) fr = belo e fr := rfl
    rw [h1]
    split
    · rw [List.flatMap_cons, List.flatMap_cons, ih]; rfl
    · exact ih
theorem tw_nrm (tt : Sm) (l : List En) : (l.map nrm).takeWhile (fun e => belo e tt) = (l.takeWhile fun e => belo e tt).map nrm := by
  induction l with
  | nil => rfl
  | cons e l ih =>
    rw [List.map_cons, List.takeWhile_cons, List.takeWhile_cons]
    have h1 : belo (nrm e) tt = belo e tt := rfl
    rw [h1]
    split
    · rw [ih]; rfl
    · rfl
/-- what Changes tells of the commits in this turn -/
def chg (evs : List Ev) (V : List En) (fr tt : Sm) : List Vr := told evs fr (V.takeWhile fun e => belo e tt)
theorem chg_nrm (evs : List Ev) (V : List En) (fr tt : Sm) : chg evs (V.map nrm) fr tt = chg evs V fr tt := by
  unfold chg
  rw [tw_nrm, told_nrm]
theorem sort_uniqE {lt : En → En → Bool} : ∀ {U V : List En}, U.Perm V → U.Pairwise (fun x y => lt y x = false) → V.Pairwise (fun x y => lt y x = false) → (∀ x ∈ U, ∀ y ∈ U, lt x y = false → lt y x = false → x = y) → U = V
  | [], V, hp, _, _, _ => by rw [hp.symm.eq_nil]
  | x :: U, [], hp, _, _, _ => by have := hp.length_eq; simp at this
  | x :: U, y :: V, hp, hU, hV, ht => by
    rw [List.pairwise_cons] at hU hV
    have hyU : y ∈ x :: U := hp.mem_iff.2 (by simp)
    have hxV : x ∈ y :: V := hp.mem_iff.1 (by simp)
    have e : x = y := by
      rcases List.mem_cons.1 hxV with e | e
      · exact e
      · rcases List.mem_cons.1 hyU with e' | e'
        · exact e'.symm
        · exact ht x (by simp) y hyU (hV.1 x e) (hU.1 y e')
    subst e
    exact congrArg _ (sort_uniqE (List.Perm.cons_inv hp) hU.2 hV.2 fun a ha b hb => ht a (by simp [ha]) b (by simp [hb]))
theorem srt_same {U U' M : List En} (hU : U.Perm M) (hU' : U'.Perm M) (sU : Srt U) (sU' : Srt U') : (U.filter com).map nrm = (U'.filter com).map nrm := by
  have key : ∀ {L : List En}, Srt L → ((L.filter com).map nrm).Pairwise (fun x y => ltE y x = false) := fun {L} h => by
    rw [List.pairwise_map]
    exact (List.Pairwise.filter com h).imp fun {x y} k => k
  refine sort_uniqE (lt := ltE) (((hU.trans hU'.symm).filter com).map nrm) (key sU) (key sU') fun x hx y hy h1 h2 => ?_
  obtain ⟨a, _, rfl⟩ := List.mem_map.1 hx
  obtain ⟨b, _, rfl⟩ := List.mem_map.1 hy
  rw [ltE_iff_false] at h1 h2
  simp only [nrm] at h1 h2 ⊢
  obtain ⟨⟨ac, aq⟩, ah, ao, aw, al, an⟩ := a
  obtain ⟨⟨bc, bq⟩, bh, bo, bw, bl, bn⟩ := b
  simp only at h1 h2 ⊢
  have e1 : aw = bw := by omega
  have e2 : al = bl := by omega
  have e3 : an = bn := by omega
  have e4 : ac = bc := by omega
  have e5 : aq = bq := by omega
  rw [e1, e2, e3, e4, e5]
theorem chg_same {evs : List Ev} {U U' M : List En} (hU : U.Perm M) (hU' : U'.Perm M) (sU : Srt U) (sU' : Srt U') (fr tt : Sm) : chg evs (U.filter com) fr tt = chg evs (U'.filter com) fr tt := by
  rw [← chg_nrm, srt_same hU hU' sU sU', chg_nrm]
def lesS (a b : Sm) : Bool := lessB a.w a.l a.n b.w b.l b.n
theorem split_list {fr mid top : Sm} (h1 : lesS mid fr = false) (h2 : lesS top mid = false) : ∀ {V : List En}, V.Pairwise (fun x y => lessB y.w y.l y.n x.w x.l x.n = false) →
    (V.takeWhile fun e => belo e mid).filter (fun e => !belo e fr) ++ (V.takeWhile fun e => belo e top).filter (fun e => !belo e mid) = (V.takeWhile fun e => belo e top).filter (fun e => !belo e fr)
  | [], _ => rfl
  | e :: V, hV => by
    rw [List.pairwise_cons] at hV
    have ih := split_list h1 h2 hV.2
    unfold lesS at h1 h2
    rw [lessB_iff_false] at h1 h2
    cases hm : belo e mid with
    | true =>
      have hm' := hm
      unfold belo at hm'
      rw [lessB_iff] at hm'
      have ht : belo e top = true := by unfold belo; rw [lessB_iff]; omega
      rw [List.takeWhile_cons, List.takeWhile_cons, hm, ht]
      simp only [if_true, List.filter_cons, hm, Bool.not_true, Bool.false_eq_true, if_false]
      split
      · rw [List.cons_append, ih]
      · exact ih
    | false =>
      rw [List.takeWhile_cons, hm]
      simp only [Bool.false_eq_true, if_false, List.filter_nil, List.nil_append]
      have hge : ∀ y ∈ e :: V, belo y mid = false ∧ belo y fr = false := by
        intro y hy
        have hm' := hm
        unfold belo at hm'
        rw [lessB_iff_false] at hm'
        have hye : y.w = e.w ∧ y.l = e.l ∧ y.n = e.n ∨ lessB y.w y.l y.n e.w e.l e.n = false := by
          rcases List.mem_cons.1 hy with rfl | k
          · exact .inl ⟨rfl, rfl, rfl⟩
          · exact .inr (hV.1 y k)
        unfold belo
        rw [lessB_iff_false, lessB_iff_false]
        rcases hye with ⟨k1, k2, k3⟩ | k
        · omega
        · rw [lessB_iff_false] at k
          omega
      have hmem : ∀ y ∈ (e :: V).takeWhile (fun e => belo e top), belo y mid = false ∧ belo y fr = false := fun y hy => hge y (List.takeWhile_subset _ hy)
      rw [List.filter_eq_self.2 (fun y hy => by rw [(hmem y hy).1]; rfl), List.filter_eq_self.2 (fun y hy => by rw [(hmem y hy).2]; rfl)]
theorem chg_split {evs : List Ev} {V : List En} {fr mid top : Sm} (h1 : lesS mid fr = false) (h2 : lesS top mid = false) (hV : Srt V) : chg evs V fr mid ++ chg evs V mid top = chg evs V fr top := by
  have hp : V.Pairwise (fun x y => lessB y.w y.l y.n x.w x.l x.n = false) := hV.imp fun {x y} k => by
    rw [ltE_iff_false] at k
    rw [lessB_iff_false]
    omega
  have := split_list h1 h2 hp
  unfold chg told
  rw [← List.flatMap_append, this]
theorem srt_filter {U : List En} (h : Srt U) : Srt (U.filter com) := List.Pairwise.filter com h
/-- what is told lies between its stamps -/
theorem chg_between {evs : List Ev} {V : List En} {fr tt : Sm} {v : Vr} (h : v ∈ chg evs V fr tt) : lessB v.w v.l v.n fr.w fr.l fr.n = false ∧ lessB v.w v.l v.n tt.w tt.l tt.n = true := by
  unfold chg told at h
  obtain ⟨e, he, hv⟩ := List.mem_flatMap.1 h
  obtain ⟨h1, h2⟩ := List.mem_filter.1 he
  unfold vers at hv
  obtain ⟨x, _, rfl⟩ := List.mem_map.1 hv
  have h3 := List.all_takeWhile (p := fun e => belo e tt) (l := V)
  rw [List.all_eq_true] at h3
  refine ⟨?_, h3 e h1⟩
  simpa [belo, ver] using h2
end Go.Proofs.Ytiheilkjlapoiaa.Lg
