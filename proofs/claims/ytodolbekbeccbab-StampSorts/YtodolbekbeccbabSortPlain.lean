import Derived.Test.YtodolbekbeccbabInsert
/- Plain mathematics: sorted lists of stamps. -/
namespace Go.Proofs.Ytodolbekbeccbab

/-- not behind -/
def leS (x y : St) : Bool := !y.less x
def srt (xs : List St) : List St := xs.mergeSort leS

theorem St.ext {x y : St} (h1 : x.w = y.w) (h2 : x.l = y.l) (h3 : x.n = y.n) : x = y := by
  cases x; cases y; simp only at h1 h2 h3; subst h1 h2 h3; rfl

theorem le_total (x y : St) : leS x y = true ∨ leS y x = true := by
  unfold leS St.less
  by_cases h : y.w = x.w ∧ y.l = x.l ∧ y.n = x.n
  · obtain ⟨h1, h2, h3⟩ := h
    left; rw [h1, h2, h3, less_irr]; rfl
  · rw [less_anti h]
    cases lessB y.w y.l y.n x.w x.l x.n <;> simp
theorem le_trans {x y z : St} (h : leS x y = true) (k : leS y z = true) : leS x z = true := by
  unfold leS St.less at *
  simp only [Bool.not_eq_true'] at *
  rw [lessB_iff_false] at *
  omega
theorem le_antisymm {x y : St} (h : leS x y = true) (k : leS y x = true) : x = y := by
  unfold leS St.less at *
  simp only [Bool.not_eq_true'] at *
  rw [lessB_iff_false] at *
  exact St.ext (by omega) (by omega) (by omega)

theorem srt_perm (xs : List St) : (srt xs).Perm xs := List.mergeSort_perm xs leS
theorem srt_sorted (xs : List St) : (srt xs).Pairwise (fun x y => leS x y = true) :=
  List.pairwise_mergeSort (le := leS) (fun _ _ _ h k => le_trans h k) (fun x y => by
    have := le_total x y
    simpa using this) xs
theorem srt_length (xs : List St) : (srt xs).length = xs.length := List.length_mergeSort xs

theorem sorted_unique : ∀ (xs ys : List St), xs.Perm ys → xs.Pairwise (fun x y => leS x y = true) → ys.Pairwise (fun x y => leS x y = true) → xs = ys
  | [], ys, h, _, _ => (List.nil_perm.1 h).symm ▸ rfl
  | x :: xs, [], h, _, _ => absurd h.length_eq (by simp)
  | x :: xs, y :: ys, h, hx, hy => by
    rw [List.pairwise_cons] at hx hy
    have hxm : x ∈ y :: ys := h.subset List.mem_cons_self
    have hym : y ∈ x :: xs := h.symm.subset List.mem_cons_self
    have e : x = y := by
      rcases List.mem_cons.1 hxm with e | hm
      · exact e
      · rcases List.mem_cons.1 hym with e | hm'
        · exact e.symm
        · exact le_antisymm (hx.1 y hm') (hy.1 x hm)
    subst e
    rw [sorted_unique xs ys (List.perm_cons x |>.1 h) hx.2 hy.2]

theorem eq_srt {xs ys : List St} (hp : ys.Perm xs) (hs : ys.Pairwise (fun x y => leS x y = true)) : ys = srt xs :=
  sorted_unique ys (srt xs) (hp.trans (srt_perm xs).symm) hs (srt_sorted xs)

/-- the first place in [lo, hi) that x is ahead of, or hi -/
def Low (x : St) (out : List St) (lo hi at' : Nat) : Prop :=
  at' ≤ hi ∧ (at' = hi ∨ (lo ≤ at' ∧ x.less (nth out at') = true)) ∧ ∀ i, lo ≤ i → i < at' → i < hi → x.less (nth out i) = false

theorem ins_perm (out : List St) (n : Nat) (x : St) : (insAt out n x).Perm (x :: out) := by
  unfold insAt
  have h1 : (out.take n ++ [x] ++ out.drop n).Perm ([x] ++ out.take n ++ out.drop n) := List.Perm.append_right _ (List.perm_append_comm)
  rw [List.append_assoc [x], List.take_append_drop] at h1
  exact h1

theorem nth_mem {xs : List St} {i : Nat} (h : i < xs.length) : nth xs i ∈ xs := by
  simp [nth, h]

theorem mem_take_nth {xs : List St} {n : Nat} {y : St} (h : y ∈ xs.take n) : ∃ i, i < n ∧ i < xs.length ∧ y = nth xs i := by
  obtain ⟨i, hi, rfl⟩ := List.getElem_of_mem h
  rw [List.length_take] at hi
  exact ⟨i, by omega, by omega, by rw [List.getElem_take]; simp [nth, show i < xs.length by omega]⟩
theorem mem_drop_nth {xs : List St} {n : Nat} {y : St} (h : y ∈ xs.drop n) : ∃ i, n ≤ i ∧ i < xs.length ∧ y = nth xs i := by
  obtain ⟨i, hi, rfl⟩ := List.getElem_of_mem h
  rw [List.length_drop] at hi
  exact ⟨n + i, by omega, by omega, by rw [List.getElem_drop]; simp [nth, show n + i < xs.length by omega]⟩

theorem sorted_nth {xs : List St} (h : xs.Pairwise (fun x y => leS x y = true)) {i j : Nat} (hij : i ≤ j) (hj : j < xs.length) : leS (nth xs i) (nth xs j) = true := by
  rcases Nat.lt_or_eq_of_le hij with hl | he
  · have := (List.pairwise_iff_getElem.1 h) i j (by omega) hj hl
    simpa [nth, hj, show i < xs.length by omega] using this
  · subst he
    rcases le_total (nth xs i) (nth xs i) with h | h <;> exact h

theorem ins_sorted {out : List St} {n : Nat} {x : St} (hs : out.Pairwise (fun x y => leS x y = true)) (hL : Low x out 0 out.length n) : (insAt out n x).Pairwise (fun x y => leS x y = true) := by
  obtain ⟨h1, h2, h3⟩ := hL
  unfold insAt
  rw [List.append_assoc, List.pairwise_append]
  refine ⟨hs.sublist (List.take_sublist _ _), ?_, ?_⟩
  · rw [List.singleton_append, List.pairwise_cons]
    refine ⟨fun y hy => ?_, hs.sublist (List.drop_sublist _ _)⟩
    obtain ⟨i, hi, hil, rfl⟩ := mem_drop_nth hy
    rcases h2 with e | ⟨_, hx⟩
    · omega
    · have hx' : leS x (nth out n) = true := by
        unfold leS
        have := less_anti (a := x.w) (b := x.l) (c := x.n) (x := (nth out n).w) (y := (nth out n).l) (z := (nth out n).n) (fun e => by
          unfold St.less at hx
          rw [e.1, e.2.1, e.2.2, less_irr] at hx; cases hx)
        unfold St.less at *
        rw [this, hx]; rfl
      exact le_trans hx' (sorted_nth hs hi hil)
  · intro a ha b hb
    obtain ⟨i, hi, hil, rfl⟩ := mem_take_nth ha
    have hax : leS (nth out i) x = true := by
      unfold leS; rw [h3 i (Nat.zero_le _) hi hil]; rfl
    rcases List.mem_append.1 hb with hb | hb
    · rw [List.mem_singleton.1 hb]; exact hax
    · obtain ⟨j, hj, hjl, rfl⟩ := mem_drop_nth hb
      exact sorted_nth hs (by omega) hjl

end Go.Proofs.Ytodolbekbeccbab
